import Derived.Test.YtakdiiccdkjjcacFold16
import Derived.Test.YtakdiiccdkjjcacFold24
import Derived.Test.YtakdiiccdkjjcacFold25
import Derived.Test.YtakdiiccdkjjcacFold8
import Derived.Test.YtakdiiccdkjjcacFold9
import Derived.BigQuiet
import Derived.IntWalk

section
namespace Go.Proofs.Ytakdiiccdkjjcac
open Go.RowKit Go.WideShapes

theorem w64_mod (a : Int) : wrap64 a % 18446744073709551616 = a % 18446744073709551616 := by unfold wrap64; omega
theorem w64_congr {a b : Int} (h : a % 18446744073709551616 = b % 18446744073709551616) : wrap64 a = wrap64 b := by unfold wrap64; omega
theorem w64_mul (a b : Int) : wrap64 (wrap64 a * b) = wrap64 (a * b) := w64_congr (by rw [Int.mul_emod, w64_mod, ← Int.mul_emod])
theorem w64_add (a b : Int) : wrap64 (wrap64 a + b) = wrap64 (a + b) := w64_congr (by rw [Int.add_emod, w64_mod, ← Int.add_emod])

/-- Horner's sum of the first k numbers. -/
def hor (f : Nat → Int) (x : Int) : Nat → Int
  | 0 => 0
  | k + 1 => hor f x k * x + f k
def prd (c : Nat → Int) (x : Int) : Nat → Int
  | 0 => 1
  | k + 1 => prd c x k * (x + c k)
theorem hor_next (c : Nat → Int) (x : Int) (m k : Nat) : hor (filF c (m + 1)) x (k + 1) = hor (filF c m) x (k + 1) + c m * hor (filF c m) x k := by
  induction k with
  | zero => simp [hor, filF_zero]
  | succ k ih =>
    rw [hor, ih, filF_next]
    conv => rhs; rw [hor]
    have h2 : hor (filF c m) x (k + 1) = hor (filF c m) x k * x + filF c m k := rfl
    generalize hor (filF c m) x (k + 1) = A at *
    generalize hor (filF c m) x k = B at *
    subst h2
    generalize filF c m k = F
    generalize filF c m (k + 1) = G
    generalize c m = C
    have e1 : ((B * x + F) + C * B) * x = (B * x + F) * x + C * (B * x) := by rw [Int.add_mul, Int.mul_assoc]
    have e2 : C * (B * x + F) = C * (B * x) + F * C := by rw [Int.mul_add, Int.mul_comm C F]
    rw [e1, e2]
    omega
theorem hor_prd (c : Nat → Int) (x : Int) (m : Nat) : hor (filF c m) x (m + 1) = prd c x m := by
  induction m with
  | zero => simp [hor, prd, filF]
  | succ m ih =>
    rw [hor_next, hor, ih, filF_out c m (m + 1) (by omega), prd]
    rw [Int.mul_add, Int.mul_comm (c m)]
    omega
theorem prdF_eq (c : Nat → Int) (x : Int) (k : Nat) : prdF c x k = wrap64 (prd c x k) := by
  induction k with
  | zero =>
    show (1 : Int) = wrap64 1
    unfold wrap64
    omega
  | succ k ih => rw [prdF, ih, w64_mul, prd]
theorem hor_step (f : Nat → Int) (x : Int) (k : Nat) : wrap64 (wrap64 (wrap64 (hor f x k) * x) + f k) = wrap64 (hor f x (k + 1)) := by
  rw [w64_mul, w64_add, hor]
theorem hor_val (c : Nat → Int) (x : Int) (m : Nat) : wrap64 (hor (filF c m) x (m + 1)) = prdF c x m := by rw [hor_prd, prdF_eq]

/-- Numbers of the arrow board. -/
theorem arrow_yes {n r c : Int} {xs : List Int} (e : aboveB n = ⟨r, c, xs, true⟩) : ∃ u : Nat, n = u ∧ 1 ≤ u ∧ u ≤ 6 ∧ r = u ∧ c = u ∧ xs = rowsL aboveR u := by
  unfold aboveB ruleB at e
  cases hg : inB 1 n 6
  · rw [hg] at e
    simp [BR.zero] at e
  · rw [hg, if_pos rfl] at e
    have h := inB_iff.1 hg
    injection e with e1 e2 e3 e4
    obtain ⟨u, rfl⟩ := Int.eq_ofNat_of_zero_le (show 0 ≤ n by omega)
    exact ⟨u, rfl, by omega, by omega, e1.symm, e2.symm, by rw [← e3, Int.toNat_natCast]⟩
theorem arrow_tab : ∀ u : Fin 7, 1 ≤ (u : Nat) → goodB ((u : Nat) : Int) ((u : Nat) : Int) (rowsL aboveR u) = true ∧ numL u u (bt (rowsL aboveR u)) = lstH (u + 1) (fun k => (triF 0 u (u - k) : Nat)) ∧ lstH (u + 1) (filF (hgtF (rowsL aboveR u) u u) u) = lstH (u + 1) (fun k => (triF 1 u (u - k) : Nat)) := by decide +kernel
theorem arrow_rooks (u : Nat) (h1 : 1 ≤ u) (h : u ≤ 6) : numB u u (rowsL aboveR u) = ⟨lstH (u + 1) (fun k => (triF 0 u (u - k) : Nat)), true⟩ := by
  obtain ⟨a, b, _⟩ := arrow_tab ⟨u, by omega⟩ h1
  unfold numB
  rw [if_pos a, Int.toNat_natCast]
  exact congrArg (fun x => LR.mk x true) b
theorem arrow_files (u : Nat) (h1 : 1 ≤ u) (h : u ≤ 6) : filR u u (rowsL aboveR u) = ⟨lstH (u + 1) (fun k => (triF 1 u (u - k) : Nat)), true⟩ := by
  obtain ⟨a, _, b⟩ := arrow_tab ⟨u, by omega⟩ h1
  unfold filR
  rw [if_pos a, Int.toNat_natCast]
  exact congrArg (fun x => LR.mk x true) b
theorem tri_yes (t u k : Nat) (h : u ≤ 6) (hk : k ≤ u) : triR t (u : Int) ((u : Int) - k) = ⟨(triF t u (u - k) : Nat), true⟩ := by
  unfold triR askedB
  rw [show ((u : Int) - k) = ((u - k : Nat) : Int) by omega, inB_yes (by omega) (by omega), inB_yes (by omega) (by omega)]
  simp
theorem val_yes {r c : Int} {xs : List Int} {x y : Int} (e : valR r c xs x = ⟨y, true⟩) : ∃ m : Nat, m ≤ 6 ∧ filR r c xs = ⟨lstH (m + 1) (filF (hgtF xs r.toNat m) m), true⟩ ∧ y = wrap64 (hor (filF (hgtF xs r.toNat m) m) x (m + 1)) := by
  unfold valR at e
  cases hg : goodB r c xs
  · rw [hg] at e
    simp at e
  · rw [hg] at e
    have hf := good_facts hg
    cases hi : inB (-100) x 100
    · rw [hi] at e
      simp at e
    · rw [hi] at e
      injection e with e1 e2
      refine ⟨c.toNat, by omega, ?_, ?_⟩
      · unfold filR
        rw [hg]
        rfl
      · rw [hor_val, ← e1]
end Go.Proofs.Ytakdiiccdkjjcac
end

section
namespace Go.Proofs.Ytakdiiccdkjjcac
open Go.RowKit Go.WideShapes

/-- What a slice of bytes that came in reads as. -/
def ReadsY (w : World) (a : Option Addr) (n : Nat) : Prop := n = 0 ∨ ∃ b off, a = some ⟨b, off, none⟩ ∧ b < w.heap.size ∧ ∀ j, j < n → ∃ y : Int, w.cell? ⟨b, off + j, none⟩ = some (.int .u8 y) ∧ 0 ≤ y ∧ y < 256
theorem ReadsY.kept {w w' : World} {a : Option Addr} {n : Nat} (h : ReadsY w a n) (hb : Below w.heap.size w w') : ReadsY w' a n := by
  rcases h with h | ⟨b, off, e, hlt, hc⟩
  · exact .inl h
  · refine .inr ⟨b, off, e, Nat.lt_of_lt_of_le hlt hb.size, fun j hj => ?_⟩
    obtain ⟨y, h1, h2⟩ := hc j hj
    exact ⟨y, (hb.cell (p := ⟨b, off + j, none⟩) hlt).trans h1, h2⟩

theorem chg_set (w : World) (bc j : Nat) (v : Value) : Chg (fun k => k = bc) w (w.setCell ⟨bc, j, none⟩ v) :=
  ⟨rfl, rfl, rfl, by simp [World.setCell], fun k _ hf => Below.heap_setCell w ⟨bc, j, none⟩ v k (fun e => hf e)⟩
/-- A drawer at a block of its own: at most K bytes are taken. -/
def Cur (w : World) (bc : Nat) (a : Option Addr) (n p K : Nat) : Prop := ∃ (q : Nat) (sd : Int), Has w bc [.slice a n p, .int .i64 q, .int .u64 sd] 76 ∧ q ≤ K ∧ 0 ≤ sd ∧ sd < 18446744073709551616
theorem Cur.more {w : World} {bc : Nat} {a : Option Addr} {n p K K' : Nat} (h : Cur w bc a n p K) (hk : K ≤ K') : Cur w bc a n p K' := by
  obtain ⟨q, sd, h1, h2, h3⟩ := h
  exact ⟨q, sd, h1, by omega, h3⟩
theorem u64_range (z : Int) : 0 ≤ IntKind.u64.wrap z ∧ IntKind.u64.wrap z < 18446744073709551616 := by
  unfold IntKind.wrap
  simp [IntKind.signed, IntKind.bits]
  omega
theorem u64_small (z : Int) (h : 0 ≤ z ∧ z ≤ 255) : IntKind.u64.wrap z = z := by
  unfold IntKind.wrap
  simp [IntKind.signed, IntKind.bits]
  omega
theorem and255 (z : Int) : 0 ≤ bits .and .u64 z 255 ∧ bits .and .u64 z 255 ≤ 255 := by
  have h : ((BitVec.ofInt 64 z) &&& (BitVec.ofInt 64 255)).toNat ≤ 255 := by
    rw [BitVec.toNat_and]
    exact Nat.le_trans Nat.and_le_right (by decide)
  have e : bits .and .u64 z 255 = IntKind.u64.wrap (((BitVec.ofInt 64 z) &&& (BitVec.ofInt 64 255)).toNat : Int) := rfl
  rw [e, u64_small _ (by omega)]
  omega
set_option maxRecDepth 100000 in
set_option maxHeartbeats 3200000 in
theorem next_any (bc : Nat) (a : Option Addr) (n p K : Nat) (w : World) (hn : n ≤ 4611686018427387904) (hK : K ≤ 1152921504606846976) (hb : ∀ b off, 0 < n → a = some ⟨b, off, none⟩ → b ≠ bc) (hr : ReadsY w a n) (hc : Cur w bc a n p K) :
    Calls Try.prog 139 #[.pointer (some ⟨bc, 0, none⟩)] w fun e w' => ∃ x : Int, 0 ≤ x ∧ x ≤ 255 ∧ e = .returned (.int .i64 x) ∧ Chg (fun k => k = bc) w w' ∧ Cur w' bc a n p (K + 1) := by
  obtain ⟨q, sd, hH, hq, s0, s1⟩ := hc
  obtain ⟨c0, c1, c2, ff⟩ := hH.three
  by_cases hlt : q < n
  · rcases hr with h0 | ⟨b, off, rfl, hbw, hcell⟩
    · omega
    · obtain ⟨y, hy, y0, y1⟩ := hcell q hlt
      have hd := decide_eq_true (show (q : Int) < n by omega)
      have hq0 : (0 : Int) ≤ q := by omega
      have hqw : IntKind.i64.wrap ((q : Int) + 1) = (q : Int) + 1 := IntWalk.i64_in _ (by omega)
      go_enter Try.func139, Try.ntmps139
      have hbc : bc < w.heap.size := hH.lt
      have HH := Lib.hid hH
      clear hb hH hcell
      go_wp2_with fail
      go_quiet (fail)
      have hb1 : Below w.heap.size w (w.drewN nq) := below_drewN (Below.refl _ _) nq
      generalize w.drewN nq = w1 at *
      clear c0 c1 c2 ff
      obtain ⟨c0, c1, c2, ff⟩ := (HH.out.kept hb1 hbc).three
      have hy1 := (hb1.cell (p := ⟨b, off + q, none⟩) hbw).trans hy
      go_wp2_with fail
      go_quiet (fail)
      have hb2 : Below w.heap.size w (w1.drewN nq) := below_drewN hb1 nq
      generalize w1.drewN nq = w2 at *
      clear c0 c1 c2 ff hy1
      have H2 := HH.out.kept hb2 hbc
      obtain ⟨c0, c1, c2, ff⟩ := H2.three
      have H3 := H2.set 1 (.int .i64 ((q : Int) + 1))
      have HH3 := Lib.hid H3
      have CHW := Lib.hid ((Chg.of_below (foot := fun k => k = bc) hb2).trans (chg_set w2 bc 1 (.int .i64 ((q : Int) + 1))))
      obtain ⟨e0, e1, e2, ef⟩ := Has.three (v0 := .slice (some ⟨b, off, none⟩) n p) (v1 := .int .i64 ((q : Int) + 1)) (v2 := .int .u64 sd) H3
      clear H2 H3
      go_upto_region 5 with fail
      generalize w2.setCell ⟨bc, 1, none⟩ (.int .i64 ((q : Int) + 1)) = w3 at *
      clear c0 c1 c2
      go_upto_region 6 with fail
      obtain ⟨E, hE⟩ : ∃ E, E = IntKind.u64.wrap (IntKind.u64.wrap (IntKind.u64.wrap (sd * 6364136223846793005) + y) + 1442695040888963407) := ⟨_, rfl⟩
      rw [← hE]
      have hEr := u64_range (IntKind.u64.wrap (IntKind.u64.wrap (sd * 6364136223846793005) + y) + 1442695040888963407)
      rw [← hE] at hEr
      have H4 : Has (w3.setCell ⟨bc, 2, none⟩ (.int .u64 E)) bc [.slice (some ⟨b, off, none⟩) n p, .int .i64 ((q : Int) + 1), .int .u64 E] 76 := HH3.out.set 2 (.int .u64 E)
      have hch : Chg (fun k => k = bc) w (w3.setCell ⟨bc, 2, none⟩ (.int .u64 E)) := CHW.out.trans (chg_set w3 bc 2 _)
      obtain ⟨e0, e1, e2, ef⟩ := H4.three
      have HH4 := Lib.hid H4
      have HCH := Lib.hid hch
      clear H4 hch hE HH3
      generalize w3.setCell ⟨bc, 2, none⟩ (.int .u64 E) = w4 at *
      have hd2 := decide_eq_true (show (q : Int) + 1 ≤ n by omega)
      go_quiet (fail)
      go_wp2_with fail
      go_ret
      exact ⟨y, y0, by omega, rfl, HCH.out.trans (Chg.of_below (below_drewN (Below.refl _ _) nq)), q + 1, E, (HH4.out.kept (below_drewN (Below.refl _ _) nq) HH4.out.lt), by omega, hEr⟩
  · have hd := decide_eq_false (show ¬ (q : Int) < n by omega)
    have hqw : IntKind.i64.wrap ((q : Int) + 1) = (q : Int) + 1 := IntWalk.i64_in _ (by omega)
    have hbc : bc < w.heap.size := hH.lt
    have HH := Lib.hid hH
    clear hb hH hr
    go_enter Try.func139, Try.ntmps139
    go_wp2_with fail
    go_quiet (fail)
    have hb2 : Below w.heap.size w (w.drewN nq) := below_drewN (Below.refl _ _) nq
    generalize w.drewN nq = w2 at *
    clear c0 c1 c2 ff
    have H2 := HH.out.kept hb2 hbc
    obtain ⟨c0, c1, c2, ff⟩ := H2.three
    have H3 := H2.set 1 (.int .i64 ((q : Int) + 1))
    have HH3 := Lib.hid H3
    have CHW := Lib.hid ((Chg.of_below (foot := fun k => k = bc) hb2).trans (chg_set w2 bc 1 (.int .i64 ((q : Int) + 1))))
    obtain ⟨e0, e1, e2, ef⟩ := Has.three (v0 := .slice a n p) (v1 := .int .i64 ((q : Int) + 1)) (v2 := .int .u64 sd) H3
    clear H2 H3
    go_upto_region 5 with fail
    generalize w2.setCell ⟨bc, 1, none⟩ (.int .i64 ((q : Int) + 1)) = w3 at *
    clear c0 c1 c2
    go_upto_region 6 with fail
    obtain ⟨E, hE⟩ : ∃ E, E = IntKind.u64.wrap (IntKind.u64.wrap (IntKind.u64.wrap (sd * 6364136223846793005)) + 1442695040888963407) := ⟨_, rfl⟩
    rw [← hE]
    have hEr := u64_range (IntKind.u64.wrap (IntKind.u64.wrap (sd * 6364136223846793005)) + 1442695040888963407)
    rw [← hE] at hEr
    have H4 : Has (w3.setCell ⟨bc, 2, none⟩ (.int .u64 E)) bc [.slice a n p, .int .i64 ((q : Int) + 1), .int .u64 E] 76 := HH3.out.set 2 (.int .u64 E)
    have hch : Chg (fun k => k = bc) w (w3.setCell ⟨bc, 2, none⟩ (.int .u64 E)) := CHW.out.trans (chg_set w3 bc 2 _)
    obtain ⟨e0, e1, e2, ef⟩ := H4.three
    have HH4 := Lib.hid H4
    have HCH := Lib.hid hch
    clear H4 hch hE HH3
    generalize w3.setCell ⟨bc, 2, none⟩ (.int .u64 E) = w4 at *
    have hd2 := decide_eq_false (show ¬ (q : Int) + 1 ≤ n by omega)
    go_quiet (fail)
    have hb3 : Below w4.heap.size w4 (w4.drewN nq) := below_drewN (Below.refl _ _) nq
    obtain ⟨c0, c1, c2, ff⟩ := (HH4.out.kept hb3 HH4.out.lt).three
    have HB3 := Lib.hid hb3
    clear hb3 e0 e1 e2
    generalize w4.drewN nq = w5 at *
    have h255 := and255 (E / 1099511627776)
    go_wp2_with fail
    go_ret
    exact ⟨_, h255.1, h255.2, rfl, HCH.out.trans (Chg.of_below HB3.out), q + 1, E, HH4.out.kept HB3.out HH4.out.lt, by omega, hEr⟩

theorem ReadsY.chg {w w' : World} {a : Option Addr} {n bc : Nat} (h : ReadsY w a n) (hb : ∀ b off, 0 < n → a = some ⟨b, off, none⟩ → b ≠ bc) (hc : Chg (fun k => k = bc) w w') : ReadsY w' a n := by
  rcases h with h | ⟨b, off, e, hlt, hcell⟩
  · exact .inl h
  · refine .inr ⟨b, off, e, Nat.lt_of_lt_of_le hlt hc.size, fun j hj => ?_⟩
    obtain ⟨y, h1, h2⟩ := hcell j hj
    refine ⟨y, ?_, h2⟩
    rw [cell_of_block (hc.block b hlt (hb b off (by omega) e))]
    exact h1
theorem Reads.chg {w w' : World} {a : Option Addr} {n bc : Nat} {zs : List Int} (h : Reads w a n zs) (hb : ∀ b off, a = some ⟨b, off, none⟩ → b ≠ bc) (hc : Chg (fun k => k = bc) w w') : Reads w' a n zs := by
  obtain ⟨h0, h⟩ := h
  refine ⟨h0, ?_⟩
  rcases h with h | ⟨b, off, e, hlt, hcell⟩
  · exact .inl h
  · refine .inr ⟨b, off, e, Nat.lt_of_lt_of_le hlt hc.size, fun j hj => ?_⟩
    rw [cell_of_block (hc.block b hlt (hb b off e))]
    exact hcell j hj
theorem mod_in (x n : Int) (hn : 0 < n) : 0 ≤ x % n ∧ x % n < n := ⟨Int.emod_nonneg _ (by omega), Int.emod_lt_of_pos _ hn⟩

set_option maxRecDepth 100000 in
set_option maxHeartbeats 3200000 in
theorem pick_any (bc : Nat) (a : Option Addr) (n p K : Nat) (m : Int) (w : World) (hm : m ≤ 1000000) (hn : n ≤ 4611686018427387904) (hK : K ≤ 1000000000000) (hb : ∀ b off, 0 < n → a = some ⟨b, off, none⟩ → b ≠ bc) (hr : ReadsY w a n) (hc : Cur w bc a n p K) :
    Calls Try.prog 83 #[.pointer (some ⟨bc, 0, none⟩), .int .i64 m] w fun e w' => ∃ x : Int, 0 ≤ x ∧ (x < m ∨ x = 0) ∧ e = .returned (.int .i64 x) ∧ Chg (fun k => k = bc) w w' ∧ Cur w' bc a n p (K + 2) := by
  by_cases h1 : m ≤ 1
  · have HC := Lib.hid hc
    clear hr hc hb
    go_enter Try.func83, Try.ntmps83
    go_wp2_with fail
    go_ret
    exact ⟨0, Int.le_refl _, .inr rfl, rfl, Chg.refl _ _, HC.out.more (by omega)⟩
  · have HN := Lib.hid (next_any bc a n p K w hn (by omega) hb hr hc)
    have HR := Lib.hid hr
    have HBB := Lib.hid hb
    by_cases h2 : 200 < m
    · clear hr hc hb
      go_enter Try.func83, Try.ntmps83
      go_wp2_with fail
      refine HN.out.mono ?_
      rintro e w1 ⟨x, x0, x1, rfl, hch, hcu⟩
      have HCH := Lib.hid hch
      have HN2 := Lib.hid (next_any bc a n p (K + 1) w1 hn (by omega) HBB.out (HR.out.chg HBB.out hch) hcu)
      have hxw : IntKind.i64.wrap (x * 256) = x * 256 := IntWalk.i64_in _ (by omega)
      clear hch hcu
      go_wp2_with fail
      refine HN2.out.mono ?_
      rintro e w2 ⟨y, y0, y1, rfl, hch, hcu⟩
      have hxw2 : IntKind.i64.wrap (x * 256 + y) = x * 256 + y := IntWalk.i64_in _ (by omega)
      have hmi := mod_in (x * 256 + y) m (by omega)
      have hm0 : ¬ m = 0 := by omega
      have HC2 := Lib.hid (HCH.out.trans hch)
      have HCU := Lib.hid hcu
      clear hch hcu
      go_wp2_with fail
      go_ret
      exact ⟨_, hmi.1, .inl hmi.2, rfl, HC2.out, HCU.out⟩
    · clear hr hc hb
      go_enter Try.func83, Try.ntmps83
      go_wp2_with fail
      refine HN.out.mono ?_
      rintro e w1 ⟨x, x0, x1, rfl, hch, hcu⟩
      have hmi := mod_in x m (by omega)
      have hm0 : ¬ m = 0 := by omega
      have HC2 := Lib.hid hch
      have HCU := Lib.hid (hcu.more (show K + 1 ≤ K + 2 by omega))
      clear hch hcu
      go_wp2_with fail
      go_ret
      exact ⟨_, hmi.1, .inl hmi.2, rfl, HC2.out, HCU.out⟩

set_option maxRecDepth 100000 in
set_option maxHeartbeats 1600000 in
theorem one_any (bc : Nat) (a : Option Addr) (n p K : Nat) (m : Int) (w : World) (hm : m ≤ 1000000) (hn : n ≤ 4611686018427387904) (hK : K ≤ 1000000000000) (hb : ∀ b off, 0 < n → a = some ⟨b, off, none⟩ → b ≠ bc) (hr : ReadsY w a n) (hc : Cur w bc a n p K) :
    Calls Try.prog 85 #[.pointer (some ⟨bc, 0, none⟩), .int .i64 m] w fun e w' => ∃ b : Bool, e = .returned (.bool b) ∧ Chg (fun k => k = bc) w w' ∧ Cur w' bc a n p (K + 2) := by
  have HP := Lib.hid (pick_any bc a n p K m w hm hn hK hb hr hc)
  clear hr hc hb
  go_enter Try.func85, Try.ntmps85
  go_wp2_with fail
  refine HP.out.mono ?_
  rintro e w1 ⟨x, x0, _, rfl, hch, hcu⟩
  have HC := Lib.hid (And.intro hch hcu)
  clear hch hcu
  go_wp2_with fail
  go_ret
  exact ⟨_, rfl, HC.out.1, HC.out.2⟩

set_option maxRecDepth 100000 in
set_option maxHeartbeats 1600000 in
theorem among_dr (bc : Nat) (a : Option Addr) (n p K : Nat) (b0 L c0 : Nat) (zs : List Int) (w : World) (hL : 1 ≤ L ∧ L ≤ 1000) (hb0 : b0 ≠ bc) (hz : Reads w (some ⟨b0, 0, none⟩) L zs) (hn : n ≤ 4611686018427387904) (hK : K ≤ 1000000000000) (hb : ∀ b off, 0 < n → a = some ⟨b, off, none⟩ → b ≠ bc) (hr : ReadsY w a n) (hc : Cur w bc a n p K) :
    Calls Try.prog 73 #[.pointer (some ⟨bc, 0, none⟩), .slice (some ⟨b0, 0, none⟩) L c0] w fun e w' => ∃ k, k < L ∧ e = .returned (.int .i64 (zs.getD k 0)) ∧ Chg (fun k => k = bc) w w' ∧ Cur w' bc a n p (K + 2) := by
  have HP := Lib.hid (pick_any bc a n p K L w (by omega) hn hK hb hr hc)
  have HZ := Lib.hid hz
  clear hr hc hb hz
  go_enter Try.func73, Try.ntmps73
  go_wp2_with fail
  refine HP.out.mono ?_
  rintro e w1 ⟨x, x0, x1, rfl, hch, hcu⟩
  have hz1 := HZ.out.chg (fun b off e => by injection e with e; injection e with e; omega) hch
  obtain ⟨q, rfl⟩ := Int.eq_ofNat_of_zero_le x0
  have hqL : q < L := by omega
  obtain ⟨b, off, e, _, hcell⟩ := reads_row hz1 (by omega)
  injection e with e
  injection e with e1 e2
  subst e1
  subst e2
  have hcq := hcell q hqL
  rw [Nat.zero_add] at hcq
  have HC := Lib.hid (And.intro hch hcu)
  have hqI : (q : Int) < L := by omega
  clear hch hcu hz1 hcell
  go_wp2_with fail
  go_ret
  exact ⟨q, hqL, rfl, HC.out.1, HC.out.2⟩
end Go.Proofs.Ytakdiiccdkjjcac
end
