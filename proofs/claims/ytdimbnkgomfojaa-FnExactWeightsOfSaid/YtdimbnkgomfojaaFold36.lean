import Derived.Test.YtdimbnkgomfojaaFold10
import Derived.Test.YtdimbnkgomfojaaFold8
import Derived.Test.YtdimbnkgomfojaaFold7
import Derived.Test.YtdimbnkgomfojaaFold4
import Derived.Deep.RegionHeld3
import Derived.Deep.RegionWith
import Derived.IntWalk
import Derived.Laws.EntriesVeiled
import Derived.Test.YtdimbnkgomfojaaFold3
import Derived.Test.YtdimbnkgomfojaaFold23
import Derived.Test.YtdimbnkgomfojaaFold35

section
namespace Go.Proofs.Ytdimbnkgomfojaa
open Go.RowKit Go.WideShapes

theorem Has.two {w : World} {b : Nat} {v0 v1 : Value} {t : TypeId} (h : Has w b [v0, v1] t) :
    w.cell? ⟨b, 0, none⟩ = some v0 ∧ w.cell? ⟨b, 1, none⟩ = some v1 ∧ ∀ o, w.frozen? ⟨b, o, none⟩ = false :=
  ⟨h.cell 0, h.cell 1, h.free⟩
/-- The block of a sum. -/
abbrev sumV (F : FuncId) (cap : Array Value) (t : Int) : List Value := [.func (.func F) #[] cap, .int .i64 t]

set_option maxRecDepth 100000 in
set_option maxHeartbeats 3200000 in
theorem add_any (b : Nat) (F : FuncId) (cap : Array Value) (t x v : Int) (w : World)
    (hcall : ∀ (args : Array Value) (w : World), (callFunc F args).run Try.prog w = .ok (.enter F args) w)
    (H : Has w b (sumV F cap t) 106)
    (hF : ∀ w', Below w.heap.size w w' → Calls Try.prog F (#[.int .i64 x] ++ cap) w' fun e w'' => e = .returned (.int .i64 v) ∧ Below w'.heap.size w' w'')
    (hs : IntKind.i64.wrap (t + v) = t + v) :
    Calls Try.prog 132 #[.pointer (some ⟨b, 0, none⟩), .int .i64 x] w fun e w' => e = .returned (.bool true) ∧ Chg (fun k => k = b) w w' ∧ Has w' b (sumV F cap (t + v)) 106 := by
  have hlt := H.lt
  obtain ⟨e0, e1, ef⟩ := (show Has w.drew b (sumV F cap t) 106 from H.drew).two
  have HF := Lib.hid hF
  have HH := Lib.hid H
  clear H hF
  go_enter Try.func132, Try.ntmps132
  go_wp2_with fail
  go_region_with (((refine (HF.out _ (Below.refl _ _).drew).mono ?_); rintro e w1 ⟨rfl, hb⟩; have m0 := cell_later hb e0; have m1 := cell_later hb e1; have mf := (hb.frozen (p := ⟨b, 1, none⟩) hlt).trans (ef 1); have HB := Lib.hid hb; clear hb))
  all_goals
    have HN := Lib.hid (((HH.out.drew).kept HB.out hlt).set 1 (.int .i64 (t + v)))
    have HCg := Lib.hid (show Chg (fun k => k = b) w (w1.setCell ⟨b, 1, none⟩ (.int .i64 (t + v))) from ((Chg.of_below (Below.refl _ _).drew).trans (Chg.of_below HB.out)).trans ⟨rfl, rfl, rfl, by simp [World.setCell], fun k _ hf => Below.heap_setCell w1 ⟨b, 1, none⟩ _ k hf⟩)
    go_wp2_with fail
    go_ret
    exact ⟨rfl, HCg.out, HN.out⟩

set_option maxRecDepth 100000 in
set_option maxHeartbeats 1600000 in
theorem addAll_any (b : Nat) (F : FuncId) (cap : Array Value) (f : Nat → Int) (a : Option Addr) (p : Nat) (xs : List Int) (w : World) (hx : xs.length ≤ 1048576) (hr : Reads w a xs.length xs) (hab : ∀ g, 0 < xs.length → a = some g → g.block ≠ b)
    (hcall : ∀ (args : Array Value) (w : World), (callFunc F args).run Try.prog w = .ok (.enter F args) w)
    (H : Has w b (sumV F cap 0) 106)
    (hF : ∀ j, j < xs.length → ∀ w', Chg (fun k => k = b) w w' → Calls Try.prog F (#[.int .i64 (xs.getD j 0)] ++ cap) w' fun e w'' => e = .returned (.int .i64 (f j)) ∧ Below w'.heap.size w' w'')
    (hs : ∀ j, j < xs.length → IntKind.i64.wrap (sumT f j + f j) = sumT f j + f j) :
    Calls Try.prog 111 #[.pointer (some ⟨b, 0, none⟩), .slice a xs.length p] w fun e w' => e = .returned (.tuple #[]) ∧ Chg (fun k => k = b) w w' ∧ Has w' b (sumV F cap (sumT f xs.length)) 106 := by
  have HS := Lib.hid (And.intro (Chg.refl (fun k => k = b) w) H)
  have HF := Lib.hid hF
  have HW := Lib.hid hs
  have HR := Lib.hid hr
  clear H hF hs hr
  go_enter Try.func111, Try.ntmps111
  go_wp2_with fail
  go_loopw [8] (fun v wr => ∃ j : Nat, j ≤ xs.length ∧ v = .int .i64 j ∧ Hid (Chg (fun k => k = b) w wr ∧ Has wr b (sumV F cap (sumT f j)) 106)) (fun v _ => xs.length - (intOf v).toNat)
  case atStart => exact ⟨0, Nat.zero_le _, rfl, HS⟩
  case round =>
    clear HS
    obtain ⟨j, hj, rfl, HS⟩ := hrel
    by_cases hlt : j < xs.length
    · obtain ⟨b1, o1, rfl, hb1, hc1⟩ := reads_row HR.out (by omega)
      have hcj : wr.cell? ⟨b1, o1 + j, none⟩ = some (.int .i64 (xs.getD j 0)) := (cell_of_block (HS.out.1.block b1 hb1 (hab _ (by omega) rfl))).trans (hc1 j hlt)
      have HA := Lib.hid (add_any b F cap (sumT f j) (xs.getD j 0) (f j) wr hcall HS.out.2 (fun w' hb => HF.out j hlt w' (HS.out.1.trans (Chg.of_below hb))) (HW.out j hlt))
      clear hc1 hb1
      generalize xs.getD j 0 = x at *
      go_wp2_with fail
      refine HA.out.mono ?_
      rintro e w2 ⟨rfl, hc, hh⟩
      have HS2 : Hid (Chg (fun k => k = b) w w2 ∧ Has w2 b (sumV F cap (sumT f (j + 1))) 106) := Lib.hid ⟨HS.out.1.trans hc, hh⟩
      clear hc hh HA hcj HS
      go_wp2_with fail
      go_roundw
      case rel => exact ⟨j + 1, by omega, by go_num, HS2⟩
      case measure => simp [intOf]; omega
    · obtain rfl : j = xs.length := by omega
      go_wp2_with fail
      go_end0
      exact ⟨rfl, HS.out⟩

set_option maxRecDepth 100000 in
set_option maxHeartbeats 1600000 in
theorem sumOfTerms_any (n : Nat) (F : FuncId) (cap : Array Value) (f : Nat → Int) (w : World) (hn : n ≤ 1048576)
    (hcall : ∀ (args : Array Value) (w : World), (callFunc F args).run Try.prog w = .ok (.enter F args) w)
    (hF : ∀ j, j < n → ∀ w', Below w.heap.size w w' → Calls Try.prog F (#[.int .i64 j] ++ cap) w' fun e w'' => e = .returned (.int .i64 (f j)) ∧ Below w'.heap.size w' w'')
    (hs : ∀ j, j < n → IntKind.i64.wrap (sumT f j + f j) = sumT f j + f j) :
    Calls Try.prog 141 #[.int .i64 n, .func (.func F) #[] cap] w fun e w' => e = .returned (.int .i64 (sumT f n)) ∧ Below w.heap.size w w' := by
  have L0 := (Law.start w).has (sumV F cap 0) 106
  have HL := Lib.hid L0
  have HF := Lib.hid hF
  have HW := Lib.hid hs
  clear L0 hF hs
  go_enter Try.func141, Try.ntmps141
  go_wp2_with fail
  go_loopw [6] (fun v wr => ∃ j : Nat, j ≤ n ∧ v = .int .i64 j ∧ Law w [tHas w.heap.size (sumV F cap (sumT f j)) 106] wr) (fun v _ => n - (intOf v).toNat)
  case atStart => exact ⟨0, Nat.zero_le _, rfl, HL.out⟩
  case round =>
    clear HL
    obtain ⟨j, hj, rfl, L⟩ := hrel
    by_cases hlt : j < n
    · have HA := Lib.hid (add_any w.heap.size F cap (sumT f j) j (f j) wr hcall L.ownHas (fun w' hb => HF.out j hlt w' (below_on L.below hb)) (HW.out j hlt))
      have HL := Lib.hid L
      clear L
      go_wp2_with fail
      refine HA.out.mono ?_
      rintro e w2 ⟨rfl, hc, hh⟩
      have HS := Lib.hid (Law.write (ts := []) (t := tHas w.heap.size (sumV F cap (sumT f j)) 106) HL.out hc (tHas w.heap.size (sumV F cap (sumT f (j + 1))) 106) rfl hh)
      clear hc hh HA HL
      go_wp2_with fail
      go_roundw
      case rel => exact ⟨j + 1, by omega, by go_num, HS.out⟩
      case measure => simp [intOf]; omega
    · obtain rfl : j = n := by omega
      obtain ⟨e0, e1, _⟩ := L.ownHas.two
      have HB := Lib.hid L.below
      clear L
      go_wp2_with fail
      go_ret
      exact ⟨rfl, HB.out⟩

/-- Numbers that are not -1. -/
def one1 (xs : List Int) (j : Nat) : Int := if xs.getD j 0 = -1 then 0 else 1
theorem one1_bd (xs : List Int) (n : Nat) : 0 ≤ sumT (one1 xs) n ∧ sumT (one1 xs) n ≤ n := by
  induction n with
  | zero => simp [sumT]
  | succ n ih =>
    rw [sumT]
    unfold one1 at *
    split <;> omega
theorem one1_cnt (xs : List Int) (h : ∀ j, -1 ≤ xs.getD j 0) (k : Nat) (hk : k ≤ xs.length) : sumT (one1 xs) k = rcnt (xs.take k) := by
  induction k with
  | zero => simp [sumT, rcnt]
  | succ k ih =>
    rw [sumT, ih (by omega), rcnt_succ xs k (by omega)]
    have := h k
    unfold one1
    by_cases e : xs.getD k 0 = -1
    · rw [if_pos e, if_neg (by omega)]; simp
    · rw [if_neg e, if_pos (by omega)]; simp
theorem count1_any (x : Int) (w : World) : Calls Try.prog 110 #[.int .i64 x] w fun e w' => e = .returned (.int .i64 (if x = -1 then 0 else 1)) ∧ Below w.heap.size w w' := by
  by_cases h : x = -1
  · rw [if_pos h]
    subst h
    go_enter Try.func110, Try.ntmps110
    go_wp2
    all_goals go_ret
    all_goals exact ⟨rfl, Below.refl _ _⟩
  · rw [if_neg h]
    have h' : (x == -1) = false := by rw [beq_eq_false_iff_ne]; exact h
    go_enter Try.func110, Try.ntmps110
    go_wp2
    all_goals go_ret
    all_goals exact ⟨rfl, Below.refl _ _⟩
set_option maxRecDepth 100000 in
set_option maxHeartbeats 1600000 in
theorem countRooks_any (a : Option Addr) (p : Nat) (xs : List Int) (w : World) (hx : xs.length ≤ 1048576) (hr : Reads w a xs.length xs) :
    Calls Try.prog 69 #[.slice a xs.length p] w fun e w' => e = .returned (.int .i64 (sumT (one1 xs) xs.length)) ∧ Below w.heap.size w w' := by
  have L0 := (Law.start w).has (sumV 110 #[] 0) 106
  have hab : ∀ g, 0 < xs.length → a = some g → g.block ≠ w.heap.size := by
    intro g h0 hg
    obtain ⟨b1, o1, e, hb1, _⟩ := reads_row hr h0
    rw [hg] at e
    injection e with e
    subst e
    simp
    omega
  have HA := Lib.hid (addAll_any w.heap.size 110 #[] (one1 xs) a p xs _ hx (hr.kept L0.below) hab (fun _ _ => by kernel_rfl) L0.ownHas (fun j _ w' _ => count1_any _ w') (fun j hj => by
    have h1 := one1_bd xs (j + 1)
    rw [sumT] at h1
    exact IntWalk.i64_in _ (by omega)))
  have HL := Lib.hid L0
  clear L0 hr hab
  go_enter Try.func69, Try.ntmps69
  go_wp2_with fail
  refine HA.out.mono ?_
  rintro e w2 ⟨rfl, hc, hh⟩
  obtain ⟨e0, e1, _⟩ := hh.two
  have HB := Lib.hid (Law.write (ts := []) (t := tHas w.heap.size (sumV 110 #[] 0) 106) HL.out hc (tHas w.heap.size (sumV 110 #[] (sumT (one1 xs) xs.length)) 106) rfl hh).below
  clear hc hh HA HL
  go_wp2_with fail
  go_ret
  exact ⟨rfl, HB.out⟩
end Go.Proofs.Ytdimbnkgomfojaa
end

section
namespace Go.Proofs.Ytdimbnkgomfojaa
open Go.RowKit Go.WideShapes
/-- 2 or 3. -/
def isQ (q : Int) : Bool := decide (q = 2) || decide (q = 3)
theorem isQ_cases {q : Int} (h : isQ q = true) : q = 2 ∨ q = 3 := by simpa [isQ] using h

/-- A power of 2 or 3, of whatever exponent up to 39. -/
theorem pow23_bd : ∀ q : Fin 4, ∀ k : Fin 40, 0 ≤ (((q : Nat) : Int)) ^ (k : Nat) ∧ (((q : Nat) : Int)) ^ (k : Nat) ≤ 4052555153018976267 := by decide +kernel
theorem pow23_in (q k : Nat) (hq : q ≤ 3) (hk : k ≤ 39) : 0 ≤ (q : Int) ^ k ∧ (q : Int) ^ k ≤ 4052555153018976267 := pow23_bd ⟨q, by omega⟩ ⟨k, by omega⟩

end Go.Proofs.Ytdimbnkgomfojaa
end

section
namespace Go.Proofs.Ytdimbnkgomfojaa
open Go.RowKit Go.WideShapes

theorem brk20 : ∀ q : Fin 4, ∀ m : Fin 22, 0 ≤ brk ((q : Nat) : Int) m ∧ brk ((q : Nat) : Int) m ≤ 10000000000 := by decide +kernel
theorem brk_in (q m : Nat) (hq : q ≤ 3) (hm : m ≤ 21) : 0 ≤ brk q m ∧ brk q m ≤ 10000000000 := brk20 ⟨q, by omega⟩ ⟨m, by omega⟩
theorem isQ_nat {q : Int} (h : isQ q = true) : ∃ n : Nat, q = n ∧ (n = 2 ∨ n = 3) := by
  rcases isQ_cases h with rfl | rfl
  · exact ⟨2, rfl, .inl rfl⟩
  · exact ⟨3, rfl, .inr rfl⟩
theorem weB_step (q j : Nat) (hq : q ≤ 3) (hj : j ≤ 19) : wrap64 (brk q j * q) = brk q j * q ∧ wrap64 (brk q j * q + 1) = brk q (j + 1) := by
  have h0 := brk_in q j hq (by omega)
  have h1 := brk_in q (j + 1) hq (by omega)
  have h2 := brk_horner q j
  have h3 : 0 ≤ brk q j * q ∧ brk q j * q ≤ 30000000000 := by
    refine ⟨Int.mul_nonneg h0.1 (by omega), ?_⟩
    have := Int.mul_le_mul h0.2 (show (q : Int) ≤ 3 by omega) (by omega) (by omega)
    omega
  generalize brk q j * q = u at *
  generalize brk q (j + 1) = v at *
  subst h2
  exact ⟨IntWalk.wrap64_in _ (by omega), IntWalk.wrap64_in _ (by omega)⟩

def bracketR (m q : Int) : R1 := if isQ q && inB 0 m 20 then ⟨brk q m.toNat, true⟩ else ⟨0, false⟩
end Go.Proofs.Ytdimbnkgomfojaa
end

section
namespace Go.Proofs.Ytdimbnkgomfojaa
open Go.RowKit Go.WideShapes

theorem pow_step (q j : Nat) (hq : q ≤ 3) (hj : j ≤ 38) : wrap64 ((q : Int) ^ j * q) = (q : Int) ^ (j + 1) := by
  have h1 := pow23_in q (j + 1) hq (by omega)
  rw [show (q : Int) ^ j * q = (q : Int) ^ (j + 1) from (Int.pow_succ _ j).symm]
  exact IntWalk.wrap64_in _ (by omega)

/-- The product so far. -/
def invN (q n : Nat) : Nat → Int
  | 0 => 1
  | i + 1 => invN q n i * ((q : Int) ^ n - (q : Int) ^ i)
theorem inv_chk : ∀ q : Fin 4, ∀ n : Fin 6, ∀ i : Fin 6, (i : Nat) < n → 0 ≤ ((q : Nat) : Int) ^ (n : Nat) - ((q : Nat) : Int) ^ (i : Nat) + 1 ∧ ((q : Nat) : Int) ^ (n : Nat) - ((q : Nat) : Int) ^ (i : Nat) ≤ 1000 ∧ 0 ≤ invN q n (i + 1) + 1000000 ∧ invN q n (i + 1) ≤ 1000000000000 := by decide +kernel
theorem inv_step (q n i : Nat) (hq : q ≤ 3) (hn : n ≤ 5) (hi : i < n) : wrap64 ((q : Int) ^ n - (q : Int) ^ i) = (q : Int) ^ n - (q : Int) ^ i ∧ wrap64 (invN q n i * ((q : Int) ^ n - (q : Int) ^ i)) = invN q n (i + 1) := by
  obtain ⟨a, b, c, d⟩ := inv_chk ⟨q, by omega⟩ ⟨n, by omega⟩ ⟨i, by omega⟩ hi
  simp only at a b c d
  refine ⟨IntWalk.wrap64_in _ (by omega), ?_⟩
  rw [show invN q n i * ((q : Int) ^ n - (q : Int) ^ i) = invN q n (i + 1) from rfl]
  exact IntWalk.wrap64_in _ (by omega)
def invR (n q : Int) : R1 := if isQ q && inB 1 n 5 then ⟨invN q.toNat n.toNat n.toNat, true⟩ else ⟨0, false⟩

end Go.Proofs.Ytdimbnkgomfojaa
end

section
namespace Go.Proofs.Ytdimbnkgomfojaa
open Go.RowKit Go.WideShapes

/-- One term. -/
def trmV (ys : List Int) (x : Int) (k : Nat) : Int := ys.getD k 0 * x ^ k

end Go.Proofs.Ytdimbnkgomfojaa
end

section
namespace Go.Proofs.Ytdimbnkgomfojaa
open Go.RowKit Go.WideShapes

theorem sv_zero : sv0 = sv 0 (fun _ => 0) := rfl

def askW (xs : List Int) (k : Int) : Bool := lenB xs && inB 0 k xs.length
set_option maxHeartbeats 800000 in
theorem weAsked_any (xs : List Int) (k : Int) (a : Option Addr) (p : Nat) (w : World) (hx : xs.length ≤ 1048576) (hr : Reads w a xs.length xs) :
    Calls Try.prog 93 #[.slice a xs.length p, .int .i64 k] w fun e w' => e = .returned (.bool (askW xs k)) ∧ Below w.heap.size w w' := by
  have HG := Lib.hid (feGood_any a p xs w hx hr)
  have HI := Lib.hid (l1In_any k 0 xs.length)
  cases hg : lenB xs
  · rw [hg] at HG
    rw [show askW xs k = false by simp [askW, hg]]
    clear hg hr
    go_enter Try.func93, Try.ntmps93
    go_wp2_with fail
    refine HG.out.mono ?_
    rintro e w2 ⟨rfl, hb⟩
    have HB := Lib.hid hb
    clear hb
    go_wp2_with fail
    go_ret
    exact ⟨rfl, HB.out⟩
  · rw [hg] at HG
    rw [show askW xs k = inB 0 k xs.length by simp [askW, hg]]
    clear hg hr
    generalize inB 0 k xs.length = bb at *
    go_enter Try.func93, Try.ntmps93
    go_wp2_with fail
    refine HG.out.mono ?_
    rintro e w2 ⟨rfl, hb⟩
    have HB := Lib.hid hb
    clear hb
    go_wp2_with fail
    refine (HI.out _).mono ?_
    rintro e w3 ⟨rfl, rfl⟩
    go_wp2_with fail
    go_ret
    exact ⟨rfl, HB.out⟩
end Go.Proofs.Ytdimbnkgomfojaa
end

section
namespace Go.Proofs.Ytdimbnkgomfojaa
open Go.RowKit Go.WideShapes

theorem rowM_at {w0 w : World} {ts : List Thing} {g n c : Nat} {vs : List Value} {rss : List (List Int)} (L : Law w0 (tM (.slice (some ⟨g, 0, none⟩) n c) vs rss :: ts) w) (hn : rss.length = n) (k : Nat) (hk : k < n) (ys : List Int) (hy : ∀ h : k < rss.length, rss[k] = ys) :
    ∃ a2 p2, w.cell? ⟨g, k, none⟩ = some (.slice a2 ys.length p2) ∧ Reads w a2 ys.length ys := by
  have hlen := L.ownM.len
  have hrow := L.ownM.row k (by omega)
  rw [hy] at hrow
  obtain ⟨a2, p2, hv, hr⟩ := hrow.reads
  refine ⟨a2, p2, ?_, hr⟩
  rw [← hv, World.ownsRow.cellAt (by have := L.ownM.outer; rw [show vs.length = n by omega] at this; exact this) k (by omega)]
  simp
end Go.Proofs.Ytdimbnkgomfojaa
end
