/- Sums of items, in the program. No condition but the sizes. -/
import Derived.Test.YtdimbnkgomfojabI
import Derived.Test.YtdimbnkgomfojabMu
import Derived.Test.YtdimbnkgomfojabPo
import Derived.Test.YtdimbnkgomfojabT2
import Derived.Deep.RegionHeld3
import Derived.Deep.RegionWith
import Derived.IntWalk
import Derived.Laws.EntriesVeiled
namespace Go.Proofs.Ytdimbnkgomfojab
open Go.RowKit Go.WideShapes

theorem Has.two {w : World} {b : Nat} {v0 v1 : Value} {t : TypeId} (h : Has w b [v0, v1] t) :
    w.cell? ⟨b, 0, none⟩ = some v0 ∧ w.cell? ⟨b, 1, none⟩ = some v1 ∧ ∀ o, w.frozen? ⟨b, o, none⟩ = false :=
  ⟨h.cell 0, h.cell 1, h.free⟩
/-- The block of a sum. -/
abbrev sumV (F : FuncId) (cap : Array Value) (t : Int) : List Value := [.func (.func F) #[] cap, .int .i64 t]

set_option maxRecDepth 100000 in
set_option maxHeartbeats 3200000 in
theorem add_any (b : Nat) (F : FuncId) (cap : Array Value) (t x v : Int) (w : World)
    (hcall : ∀ (args : Array Value) (w : World), (callFunc F args).run Try.prog w = .ok (.enter F args) w)
    (H : Has w b (sumV F cap t) 118)
    (hF : ∀ w', Below w.heap.size w w' → Calls Try.prog F (#[.int .i64 x] ++ cap) w' fun e w'' => e = .returned (.int .i64 v) ∧ Below w'.heap.size w' w'')
    (hs : IntKind.i64.wrap (t + v) = t + v) :
    Calls Try.prog 131 #[.pointer (some ⟨b, 0, none⟩), .int .i64 x] w fun e w' => e = .returned (.bool true) ∧ Chg (fun k => k = b) w w' ∧ Has w' b (sumV F cap (t + v)) 118 := by
  have hlt := H.lt
  obtain ⟨e0, e1, ef⟩ := (show Has w.drew b (sumV F cap t) 118 from H.drew).two
  have HF := Lib.hid hF
  have HH := Lib.hid H
  clear H hF
  go_enter Try.func131, Try.ntmps131
  go_wp2_with fail
  go_region_with (((refine (HF.out _ (Below.refl _ _).drew).mono ?_); rintro e w1 ⟨rfl, hb⟩; have m0 := cell_later hb e0; have m1 := cell_later hb e1; have mf := (hb.frozen (p := ⟨b, 1, none⟩) hlt).trans (ef 1); have HB := Lib.hid hb; clear hb))
  all_goals
    have HN := Lib.hid (((HH.out.drew).kept HB.out hlt).set 1 (.int .i64 (t + v)))
    have HCg := Lib.hid (show Chg (fun k => k = b) w (w1.setCell ⟨b, 1, none⟩ (.int .i64 (t + v))) from ((Chg.of_below (Below.refl _ _).drew).trans (Chg.of_below HB.out)).trans ⟨rfl, rfl, rfl, by simp [World.setCell], fun k _ hf => Below.heap_setCell w1 ⟨b, 1, none⟩ _ k hf⟩)
    go_wp2_with fail
    go_ret
    exact ⟨rfl, HCg.out, HN.out⟩

set_option maxRecDepth 100000 in
set_option maxHeartbeats 1600000 in
theorem addAll_any (b : Nat) (F : FuncId) (cap : Array Value) (f : Nat → Int) (a : Option Addr) (p : Nat) (xs : List Int) (w : World) (hx : xs.length ≤ 1048576) (hr : Reads w a xs.length xs) (hab : ∀ g, 0 < xs.length → a = some g → g.block ≠ b)
    (hcall : ∀ (args : Array Value) (w : World), (callFunc F args).run Try.prog w = .ok (.enter F args) w)
    (H : Has w b (sumV F cap 0) 118)
    (hF : ∀ j, j < xs.length → ∀ w', Chg (fun k => k = b) w w' → Calls Try.prog F (#[.int .i64 (xs.getD j 0)] ++ cap) w' fun e w'' => e = .returned (.int .i64 (f j)) ∧ Below w'.heap.size w' w'')
    (hs : ∀ j, j < xs.length → IntKind.i64.wrap (sumT f j + f j) = sumT f j + f j) :
    Calls Try.prog 123 #[.pointer (some ⟨b, 0, none⟩), .slice a xs.length p] w fun e w' => e = .returned (.tuple #[]) ∧ Chg (fun k => k = b) w w' ∧ Has w' b (sumV F cap (sumT f xs.length)) 118 := by
  have HS := Lib.hid (And.intro (Chg.refl (fun k => k = b) w) H)
  have HF := Lib.hid hF
  have HW := Lib.hid hs
  have HR := Lib.hid hr
  clear H hF hs hr
  go_enter Try.func123, Try.ntmps123
  go_wp2_with fail
  go_loopw [8] (fun v wr => ∃ j : Nat, j ≤ xs.length ∧ v = .int .i64 j ∧ Hid (Chg (fun k => k = b) w wr ∧ Has wr b (sumV F cap (sumT f j)) 118)) (fun v _ => xs.length - (intOf v).toNat)
  case atStart => exact ⟨0, Nat.zero_le _, rfl, HS⟩
  case round =>
    clear HS
    obtain ⟨j, hj, rfl, HS⟩ := hrel
    by_cases hlt : j < xs.length
    · obtain ⟨b1, o1, rfl, hb1, hc1⟩ := reads_row HR.out (by omega)
      have hcj : wr.cell? ⟨b1, o1 + j, none⟩ = some (.int .i64 (xs.getD j 0)) := (cell_of_block (HS.out.1.block b1 hb1 (hab _ (by omega) rfl))).trans (hc1 j hlt)
      have HA := Lib.hid (add_any b F cap (sumT f j) (xs.getD j 0) (f j) wr hcall HS.out.2 (fun w' hb => HF.out j hlt w' (HS.out.1.trans (Chg.of_below hb))) (HW.out j hlt))
      clear hc1 hb1
      generalize xs.getD j 0 = x at *
      go_wp2_with fail
      refine HA.out.mono ?_
      rintro e w2 ⟨rfl, hc, hh⟩
      have HS2 : Hid (Chg (fun k => k = b) w w2 ∧ Has w2 b (sumV F cap (sumT f (j + 1))) 118) := Lib.hid ⟨HS.out.1.trans hc, hh⟩
      clear hc hh HA hcj HS
      go_wp2_with fail
      go_roundw
      case rel => exact ⟨j + 1, by omega, by go_num, HS2⟩
      case measure => simp [intOf]; omega
    · obtain rfl : j = xs.length := by omega
      go_wp2_with fail
      go_end0
      exact ⟨rfl, HS.out⟩


/-- Numbers that are not -1. -/
def one1 (xs : List Int) (j : Nat) : Int := if xs.getD j 0 = -1 then 0 else 1
theorem one1_bd (xs : List Int) (n : Nat) : 0 ≤ sumT (one1 xs) n ∧ sumT (one1 xs) n ≤ n := by
  induction n with
  | zero => simp [sumT]
  | succ n ih =>
    rw [sumT]
    unfold one1 at *
    split <;> omega
theorem one1_cnt (xs : List Int) (h : ∀ j, -1 ≤ xs.getD j 0) (k : Nat) (hk : k ≤ xs.length) : sumT (one1 xs) k = rcnt (xs.take k) := by
  induction k with
  | zero => simp [sumT, rcnt]
  | succ k ih =>
    rw [sumT, ih (by omega), rcnt_succ xs k (by omega)]
    have := h k
    unfold one1
    by_cases e : xs.getD k 0 = -1
    · rw [if_pos e, if_neg (by omega)]; simp
    · rw [if_neg e, if_pos (by omega)]; simp
theorem count1_any (x : Int) (w : World) : Calls Try.prog 122 #[.int .i64 x] w fun e w' => e = .returned (.int .i64 (if x = -1 then 0 else 1)) ∧ Below w.heap.size w w' := by
  by_cases h : x = -1
  · rw [if_pos h]
    subst h
    go_enter Try.func122, Try.ntmps122
    go_wp2
    all_goals go_ret
    all_goals exact ⟨rfl, Below.refl _ _⟩
  · rw [if_neg h]
    have h' : (x == -1) = false := by rw [beq_eq_false_iff_ne]; exact h
    go_enter Try.func122, Try.ntmps122
    go_wp2
    all_goals go_ret
    all_goals exact ⟨rfl, Below.refl _ _⟩
set_option maxRecDepth 100000 in
set_option maxHeartbeats 1600000 in
theorem countRooks_any (a : Option Addr) (p : Nat) (xs : List Int) (w : World) (hx : xs.length ≤ 1048576) (hr : Reads w a xs.length xs) :
    Calls Try.prog 96 #[.slice a xs.length p] w fun e w' => e = .returned (.int .i64 (sumT (one1 xs) xs.length)) ∧ Below w.heap.size w w' := by
  have L0 := (Law.start w).has (sumV 122 #[] 0) 118
  have hab : ∀ g, 0 < xs.length → a = some g → g.block ≠ w.heap.size := by
    intro g h0 hg
    obtain ⟨b1, o1, e, hb1, _⟩ := reads_row hr h0
    rw [hg] at e
    injection e with e
    subst e
    simp
    omega
  have HA := Lib.hid (addAll_any w.heap.size 122 #[] (one1 xs) a p xs _ hx (hr.kept L0.below) hab (fun _ _ => by kernel_rfl) L0.ownHas (fun j _ w' _ => count1_any _ w') (fun j hj => by
    have h1 := one1_bd xs (j + 1)
    rw [sumT] at h1
    exact IntWalk.i64_in _ (by omega)))
  have HL := Lib.hid L0
  clear L0 hr hab
  go_enter Try.func96, Try.ntmps96
  go_wp2_with fail
  refine HA.out.mono ?_
  rintro e w2 ⟨rfl, hc, hh⟩
  obtain ⟨e0, e1, _⟩ := hh.two
  have HB := Lib.hid (Law.write (ts := []) (t := tHas w.heap.size (sumV 122 #[] 0) 118) HL.out hc (tHas w.heap.size (sumV 122 #[] (sumT (one1 xs) xs.length)) 118) rfl hh).below
  clear hc hh HA HL
  go_wp2_with fail
  go_ret
  exact ⟨rfl, HB.out⟩
end Go.Proofs.Ytdimbnkgomfojab
