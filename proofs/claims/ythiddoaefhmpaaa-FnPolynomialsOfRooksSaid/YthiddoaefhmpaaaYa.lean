/- Choices drawn from bytes. No condition but the sizes. -/
import Derived.Test.YthiddoaefhmpaaaT2
import Derived.Test.YthiddoaefhmpaaaT3
import Derived.BigQuiet
import Derived.IntWalk
namespace Go.Proofs.Ythiddoaefhmpaaa
open Go.RowKit Go.WideShapes

/-- What a slice of bytes that came in reads as. -/
def ReadsY (w : World) (a : Option Addr) (n : Nat) : Prop := n = 0 ∨ ∃ b off, a = some ⟨b, off, none⟩ ∧ b < w.heap.size ∧ ∀ j, j < n → ∃ y : Int, w.cell? ⟨b, off + j, none⟩ = some (.int .u8 y) ∧ 0 ≤ y ∧ y < 256
theorem ReadsY.kept {w w' : World} {a : Option Addr} {n : Nat} (h : ReadsY w a n) (hb : Below w.heap.size w w') : ReadsY w' a n := by
  rcases h with h | ⟨b, off, e, hlt, hc⟩
  · exact .inl h
  · refine .inr ⟨b, off, e, Nat.lt_of_lt_of_le hlt hb.size, fun j hj => ?_⟩
    obtain ⟨y, h1, h2⟩ := hc j hj
    exact ⟨y, (hb.cell (p := ⟨b, off + j, none⟩) hlt).trans h1, h2⟩

theorem chg_set (w : World) (bc j : Nat) (v : Value) : Chg (fun k => k = bc) w (w.setCell ⟨bc, j, none⟩ v) :=
  ⟨rfl, rfl, rfl, by simp [World.setCell], fun k _ hf => Below.heap_setCell w ⟨bc, j, none⟩ v k (fun e => hf e)⟩
/-- A drawer at a block of its own: at most K bytes are taken. -/
def Cur (w : World) (bc : Nat) (a : Option Addr) (n p K : Nat) : Prop := ∃ (q : Nat) (sd : Int), Has w bc [.slice a n p, .int .i64 q, .int .u64 sd] 38 ∧ q ≤ K ∧ 0 ≤ sd ∧ sd < 18446744073709551616
theorem Cur.more {w : World} {bc : Nat} {a : Option Addr} {n p K K' : Nat} (h : Cur w bc a n p K) (hk : K ≤ K') : Cur w bc a n p K' := by
  obtain ⟨q, sd, h1, h2, h3⟩ := h
  exact ⟨q, sd, h1, by omega, h3⟩
theorem u64_range (z : Int) : 0 ≤ IntKind.u64.wrap z ∧ IntKind.u64.wrap z < 18446744073709551616 := by
  unfold IntKind.wrap
  simp [IntKind.signed, IntKind.bits]
  omega
theorem u64_small (z : Int) (h : 0 ≤ z ∧ z ≤ 255) : IntKind.u64.wrap z = z := by
  unfold IntKind.wrap
  simp [IntKind.signed, IntKind.bits]
  omega
theorem and255 (z : Int) : 0 ≤ bits .and .u64 z 255 ∧ bits .and .u64 z 255 ≤ 255 := by
  have h : ((BitVec.ofInt 64 z) &&& (BitVec.ofInt 64 255)).toNat ≤ 255 := by
    rw [BitVec.toNat_and]
    exact Nat.le_trans Nat.and_le_right (by decide)
  have e : bits .and .u64 z 255 = IntKind.u64.wrap (((BitVec.ofInt 64 z) &&& (BitVec.ofInt 64 255)).toNat : Int) := rfl
  rw [e, u64_small _ (by omega)]
  omega
set_option maxRecDepth 100000 in
set_option maxHeartbeats 3200000 in
theorem next_any (bc : Nat) (a : Option Addr) (n p K : Nat) (w : World) (hn : n ≤ 4611686018427387904) (hK : K ≤ 1152921504606846976) (hb : ∀ b off, 0 < n → a = some ⟨b, off, none⟩ → b ≠ bc) (hr : ReadsY w a n) (hc : Cur w bc a n p K) :
    Calls Try.prog 46 #[.pointer (some ⟨bc, 0, none⟩)] w fun e w' => ∃ x : Int, 0 ≤ x ∧ x ≤ 255 ∧ e = .returned (.int .i64 x) ∧ Chg (fun k => k = bc) w w' ∧ Cur w' bc a n p (K + 1) := by
  obtain ⟨q, sd, hH, hq, s0, s1⟩ := hc
  obtain ⟨c0, c1, c2, ff⟩ := hH.three
  by_cases hlt : q < n
  · rcases hr with h0 | ⟨b, off, rfl, hbw, hcell⟩
    · omega
    · obtain ⟨y, hy, y0, y1⟩ := hcell q hlt
      have hd := decide_eq_true (show (q : Int) < n by omega)
      have hq0 : (0 : Int) ≤ q := by omega
      have hqw : IntKind.i64.wrap ((q : Int) + 1) = (q : Int) + 1 := IntWalk.i64_in _ (by omega)
      go_enter Try.func46, Try.ntmps46
      have hbc : bc < w.heap.size := hH.lt
      have HH := Lib.hid hH
      clear hb hH hcell
      go_wp2_with fail
      go_quiet (fail)
      have hb1 : Below w.heap.size w (w.drewN nq) := below_drewN (Below.refl _ _) nq
      generalize w.drewN nq = w1 at *
      clear c0 c1 c2 ff
      obtain ⟨c0, c1, c2, ff⟩ := (HH.out.kept hb1 hbc).three
      have hy1 := (hb1.cell (p := ⟨b, off + q, none⟩) hbw).trans hy
      go_wp2_with fail
      go_quiet (fail)
      have hb2 : Below w.heap.size w (w1.drewN nq) := below_drewN hb1 nq
      generalize w1.drewN nq = w2 at *
      clear c0 c1 c2 ff hy1
      have H2 := HH.out.kept hb2 hbc
      obtain ⟨c0, c1, c2, ff⟩ := H2.three
      have H3 := H2.set 1 (.int .i64 ((q : Int) + 1))
      have HH3 := Lib.hid H3
      have CHW := Lib.hid ((Chg.of_below (foot := fun k => k = bc) hb2).trans (chg_set w2 bc 1 (.int .i64 ((q : Int) + 1))))
      obtain ⟨e0, e1, e2, ef⟩ := Has.three (v0 := .slice (some ⟨b, off, none⟩) n p) (v1 := .int .i64 ((q : Int) + 1)) (v2 := .int .u64 sd) H3
      clear H2 H3
      go_upto_region 5 with fail
      generalize w2.setCell ⟨bc, 1, none⟩ (.int .i64 ((q : Int) + 1)) = w3 at *
      clear c0 c1 c2
      go_upto_region 6 with fail
      obtain ⟨E, hE⟩ : ∃ E, E = IntKind.u64.wrap (IntKind.u64.wrap (IntKind.u64.wrap (sd * 6364136223846793005) + y) + 1442695040888963407) := ⟨_, rfl⟩
      rw [← hE]
      have hEr := u64_range (IntKind.u64.wrap (IntKind.u64.wrap (sd * 6364136223846793005) + y) + 1442695040888963407)
      rw [← hE] at hEr
      have H4 : Has (w3.setCell ⟨bc, 2, none⟩ (.int .u64 E)) bc [.slice (some ⟨b, off, none⟩) n p, .int .i64 ((q : Int) + 1), .int .u64 E] 38 := HH3.out.set 2 (.int .u64 E)
      have hch : Chg (fun k => k = bc) w (w3.setCell ⟨bc, 2, none⟩ (.int .u64 E)) := CHW.out.trans (chg_set w3 bc 2 _)
      obtain ⟨e0, e1, e2, ef⟩ := H4.three
      have HH4 := Lib.hid H4
      have HCH := Lib.hid hch
      clear H4 hch hE HH3
      generalize w3.setCell ⟨bc, 2, none⟩ (.int .u64 E) = w4 at *
      have hd2 := decide_eq_true (show (q : Int) + 1 ≤ n by omega)
      go_quiet (fail)
      go_wp2_with fail
      go_ret
      exact ⟨y, y0, by omega, rfl, HCH.out.trans (Chg.of_below (below_drewN (Below.refl _ _) nq)), q + 1, E, (HH4.out.kept (below_drewN (Below.refl _ _) nq) HH4.out.lt), by omega, hEr⟩
  · have hd := decide_eq_false (show ¬ (q : Int) < n by omega)
    have hqw : IntKind.i64.wrap ((q : Int) + 1) = (q : Int) + 1 := IntWalk.i64_in _ (by omega)
    have hbc : bc < w.heap.size := hH.lt
    have HH := Lib.hid hH
    clear hb hH hr
    go_enter Try.func46, Try.ntmps46
    go_wp2_with fail
    go_quiet (fail)
    have hb2 : Below w.heap.size w (w.drewN nq) := below_drewN (Below.refl _ _) nq
    generalize w.drewN nq = w2 at *
    clear c0 c1 c2 ff
    have H2 := HH.out.kept hb2 hbc
    obtain ⟨c0, c1, c2, ff⟩ := H2.three
    have H3 := H2.set 1 (.int .i64 ((q : Int) + 1))
    have HH3 := Lib.hid H3
    have CHW := Lib.hid ((Chg.of_below (foot := fun k => k = bc) hb2).trans (chg_set w2 bc 1 (.int .i64 ((q : Int) + 1))))
    obtain ⟨e0, e1, e2, ef⟩ := Has.three (v0 := .slice a n p) (v1 := .int .i64 ((q : Int) + 1)) (v2 := .int .u64 sd) H3
    clear H2 H3
    go_upto_region 5 with fail
    generalize w2.setCell ⟨bc, 1, none⟩ (.int .i64 ((q : Int) + 1)) = w3 at *
    clear c0 c1 c2
    go_upto_region 6 with fail
    obtain ⟨E, hE⟩ : ∃ E, E = IntKind.u64.wrap (IntKind.u64.wrap (IntKind.u64.wrap (sd * 6364136223846793005)) + 1442695040888963407) := ⟨_, rfl⟩
    rw [← hE]
    have hEr := u64_range (IntKind.u64.wrap (IntKind.u64.wrap (sd * 6364136223846793005)) + 1442695040888963407)
    rw [← hE] at hEr
    have H4 : Has (w3.setCell ⟨bc, 2, none⟩ (.int .u64 E)) bc [.slice a n p, .int .i64 ((q : Int) + 1), .int .u64 E] 38 := HH3.out.set 2 (.int .u64 E)
    have hch : Chg (fun k => k = bc) w (w3.setCell ⟨bc, 2, none⟩ (.int .u64 E)) := CHW.out.trans (chg_set w3 bc 2 _)
    obtain ⟨e0, e1, e2, ef⟩ := H4.three
    have HH4 := Lib.hid H4
    have HCH := Lib.hid hch
    clear H4 hch hE HH3
    generalize w3.setCell ⟨bc, 2, none⟩ (.int .u64 E) = w4 at *
    have hd2 := decide_eq_false (show ¬ (q : Int) + 1 ≤ n by omega)
    go_quiet (fail)
    have hb3 : Below w4.heap.size w4 (w4.drewN nq) := below_drewN (Below.refl _ _) nq
    obtain ⟨c0, c1, c2, ff⟩ := (HH4.out.kept hb3 HH4.out.lt).three
    have HB3 := Lib.hid hb3
    clear hb3 e0 e1 e2
    generalize w4.drewN nq = w5 at *
    have h255 := and255 (E / 1099511627776)
    go_wp2_with fail
    go_ret
    exact ⟨_, h255.1, h255.2, rfl, HCH.out.trans (Chg.of_below HB3.out), q + 1, E, HH4.out.kept HB3.out HH4.out.lt, by omega, hEr⟩

theorem ReadsY.chg {w w' : World} {a : Option Addr} {n bc : Nat} (h : ReadsY w a n) (hb : ∀ b off, 0 < n → a = some ⟨b, off, none⟩ → b ≠ bc) (hc : Chg (fun k => k = bc) w w') : ReadsY w' a n := by
  rcases h with h | ⟨b, off, e, hlt, hcell⟩
  · exact .inl h
  · refine .inr ⟨b, off, e, Nat.lt_of_lt_of_le hlt hc.size, fun j hj => ?_⟩
    obtain ⟨y, h1, h2⟩ := hcell j hj
    refine ⟨y, ?_, h2⟩
    rw [cell_of_block (hc.block b hlt (hb b off (by omega) e))]
    exact h1
theorem Reads.chg {w w' : World} {a : Option Addr} {n bc : Nat} {zs : List Int} (h : Reads w a n zs) (hb : ∀ b off, a = some ⟨b, off, none⟩ → b ≠ bc) (hc : Chg (fun k => k = bc) w w') : Reads w' a n zs := by
  obtain ⟨h0, h⟩ := h
  refine ⟨h0, ?_⟩
  rcases h with h | ⟨b, off, e, hlt, hcell⟩
  · exact .inl h
  · refine .inr ⟨b, off, e, Nat.lt_of_lt_of_le hlt hc.size, fun j hj => ?_⟩
    rw [cell_of_block (hc.block b hlt (hb b off e))]
    exact hcell j hj
theorem mod_in (x n : Int) (hn : 0 < n) : 0 ≤ x % n ∧ x % n < n := ⟨Int.emod_nonneg _ (by omega), Int.emod_lt_of_pos _ hn⟩

set_option maxRecDepth 100000 in
set_option maxHeartbeats 3200000 in
theorem pick_any (bc : Nat) (a : Option Addr) (n p K : Nat) (m : Int) (w : World) (hm : m ≤ 1000000) (hn : n ≤ 4611686018427387904) (hK : K ≤ 1000000000000) (hb : ∀ b off, 0 < n → a = some ⟨b, off, none⟩ → b ≠ bc) (hr : ReadsY w a n) (hc : Cur w bc a n p K) :
    Calls Try.prog 36 #[.pointer (some ⟨bc, 0, none⟩), .int .i64 m] w fun e w' => ∃ x : Int, 0 ≤ x ∧ (x < m ∨ x = 0) ∧ e = .returned (.int .i64 x) ∧ Chg (fun k => k = bc) w w' ∧ Cur w' bc a n p (K + 2) := by
  by_cases h1 : m ≤ 1
  · have HC := Lib.hid hc
    clear hr hc hb
    go_enter Try.func36, Try.ntmps36
    go_wp2_with fail
    go_ret
    exact ⟨0, Int.le_refl _, .inr rfl, rfl, Chg.refl _ _, HC.out.more (by omega)⟩
  · have HN := Lib.hid (next_any bc a n p K w hn (by omega) hb hr hc)
    have HR := Lib.hid hr
    have HBB := Lib.hid hb
    by_cases h2 : 200 < m
    · clear hr hc hb
      go_enter Try.func36, Try.ntmps36
      go_wp2_with fail
      refine HN.out.mono ?_
      rintro e w1 ⟨x, x0, x1, rfl, hch, hcu⟩
      have HCH := Lib.hid hch
      have HN2 := Lib.hid (next_any bc a n p (K + 1) w1 hn (by omega) HBB.out (HR.out.chg HBB.out hch) hcu)
      have hxw : IntKind.i64.wrap (x * 256) = x * 256 := IntWalk.i64_in _ (by omega)
      clear hch hcu
      go_wp2_with fail
      refine HN2.out.mono ?_
      rintro e w2 ⟨y, y0, y1, rfl, hch, hcu⟩
      have hxw2 : IntKind.i64.wrap (x * 256 + y) = x * 256 + y := IntWalk.i64_in _ (by omega)
      have hmi := mod_in (x * 256 + y) m (by omega)
      have hm0 : ¬ m = 0 := by omega
      have HC2 := Lib.hid (HCH.out.trans hch)
      have HCU := Lib.hid hcu
      clear hch hcu
      go_wp2_with fail
      go_ret
      exact ⟨_, hmi.1, .inl hmi.2, rfl, HC2.out, HCU.out⟩
    · clear hr hc hb
      go_enter Try.func36, Try.ntmps36
      go_wp2_with fail
      refine HN.out.mono ?_
      rintro e w1 ⟨x, x0, x1, rfl, hch, hcu⟩
      have hmi := mod_in x m (by omega)
      have hm0 : ¬ m = 0 := by omega
      have HC2 := Lib.hid hch
      have HCU := Lib.hid (hcu.more (show K + 1 ≤ K + 2 by omega))
      clear hch hcu
      go_wp2_with fail
      go_ret
      exact ⟨_, hmi.1, .inl hmi.2, rfl, HC2.out, HCU.out⟩

set_option maxRecDepth 100000 in
set_option maxHeartbeats 1600000 in
theorem one_any (bc : Nat) (a : Option Addr) (n p K : Nat) (m : Int) (w : World) (hm : m ≤ 1000000) (hn : n ≤ 4611686018427387904) (hK : K ≤ 1000000000000) (hb : ∀ b off, 0 < n → a = some ⟨b, off, none⟩ → b ≠ bc) (hr : ReadsY w a n) (hc : Cur w bc a n p K) :
    Calls Try.prog 32 #[.pointer (some ⟨bc, 0, none⟩), .int .i64 m] w fun e w' => ∃ b : Bool, e = .returned (.bool b) ∧ Chg (fun k => k = bc) w w' ∧ Cur w' bc a n p (K + 2) := by
  have HP := Lib.hid (pick_any bc a n p K m w hm hn hK hb hr hc)
  clear hr hc hb
  go_enter Try.func32, Try.ntmps32
  go_wp2_with fail
  refine HP.out.mono ?_
  rintro e w1 ⟨x, x0, _, rfl, hch, hcu⟩
  have HC := Lib.hid (And.intro hch hcu)
  clear hch hcu
  go_wp2_with fail
  go_ret
  exact ⟨_, rfl, HC.out.1, HC.out.2⟩

set_option maxRecDepth 100000 in
set_option maxHeartbeats 1600000 in
theorem among_dr (bc : Nat) (a : Option Addr) (n p K : Nat) (b0 L c0 : Nat) (zs : List Int) (w : World) (hL : 1 ≤ L ∧ L ≤ 1000) (hb0 : b0 ≠ bc) (hz : Reads w (some ⟨b0, 0, none⟩) L zs) (hn : n ≤ 4611686018427387904) (hK : K ≤ 1000000000000) (hb : ∀ b off, 0 < n → a = some ⟨b, off, none⟩ → b ≠ bc) (hr : ReadsY w a n) (hc : Cur w bc a n p K) :
    Calls Try.prog 35 #[.pointer (some ⟨bc, 0, none⟩), .slice (some ⟨b0, 0, none⟩) L c0] w fun e w' => ∃ k, k < L ∧ e = .returned (.int .i64 (zs.getD k 0)) ∧ Chg (fun k => k = bc) w w' ∧ Cur w' bc a n p (K + 2) := by
  have HP := Lib.hid (pick_any bc a n p K L w (by omega) hn hK hb hr hc)
  have HZ := Lib.hid hz
  clear hr hc hb hz
  go_enter Try.func35, Try.ntmps35
  go_wp2_with fail
  refine HP.out.mono ?_
  rintro e w1 ⟨x, x0, x1, rfl, hch, hcu⟩
  have hz1 := HZ.out.chg (fun b off e => by injection e with e; injection e with e; omega) hch
  obtain ⟨q, rfl⟩ := Int.eq_ofNat_of_zero_le x0
  have hqL : q < L := by omega
  obtain ⟨b, off, e, _, hcell⟩ := reads_row hz1 (by omega)
  injection e with e
  injection e with e1 e2
  subst e1
  subst e2
  have hcq := hcell q hqL
  rw [Nat.zero_add] at hcq
  have HC := Lib.hid (And.intro hch hcu)
  have hqI : (q : Int) < L := by omega
  clear hch hcu hz1 hcell
  go_wp2_with fail
  go_ret
  exact ⟨q, hqL, rfl, HC.out.1, HC.out.2⟩
end Go.Proofs.Ythiddoaefhmpaaa
