/- How many rows an order hits, in the program. No condition but the sizes. -/
import Derived.Test.YtjmefcebldifaabHq
import Derived.Test.YtjmefcebldifaabHc
import Derived.Test.YtjmefcebldifaabSm
import Derived.Test.YtjmefcebldifaabPa
namespace Go.Proofs.Ytjmefcebldifaab
open Go.RowKit Go.WideShapes

abbrev bN (M : Nat → Int) (a b : Nat) : Bool := (M a).toNat.testBit b
/-- The cells of a trial. -/
def trL (n m : Int) (M F : Nat → Int) : List Value := gl n m M ++ pl6 F
abbrev trV (n m : Int) (M F : Nat → Int) : Value := .agg #[.int .i64 n, .int .i64 m, .int .i64 (M 0), .int .i64 (M 1), .int .i64 (M 2), .int .i64 (M 3), .int .i64 (M 4), .int .i64 (M 5), .int .i64 (F 0), .int .i64 (F 1), .int .i64 (F 2), .int .i64 (F 3), .int .i64 (F 4), .int .i64 (F 5)]
theorem trL_mask (n m : Int) (M F : Nat → Int) (i : Nat) (h : i < 6) : (trL n m M F)[2 + i]? = some (.int .i64 (M i)) := by
  have : i = 0 ∨ i = 1 ∨ i = 2 ∨ i = 3 ∨ i = 4 ∨ i = 5 := by omega
  rcases this with rfl | rfl | rfl | rfl | rfl | rfl <;> rfl
theorem trL_place (n m : Int) (M F : Nat → Int) (i : Nat) (h : i < 6) : (trL n m M F)[8 + i]? = some (.int .i64 (F i)) := by
  have : i = 0 ∨ i = 1 ∨ i = 2 ∨ i = 3 ∨ i = 4 ∨ i = 5 := by omega
  rcases this with rfl | rfl | rfl | rfl | rfl | rfl <;> rfl
/-- One row that is hit or not. -/
def hit1 (M F : Nat → Int) (r : Nat) : Int := if bN M r (F r).toNat = true then 1 else 0
theorem hit1_sum (M F : Nat → Int) (Q : List Int) (n : Nat) (h : ∀ r, r < n → Q.getD r 0 = F r) : sumT (hit1 M F) n = (hitN (bN M) Q n : Nat) := by
  induction n with
  | zero => rfl
  | succ n ih =>
    rw [sumT, hitN, ih (fun r hr => h r (by omega)), h n (by omega)]
    unfold hit1
    split <;> simp

set_option maxRecDepth 100000 in
set_option maxHeartbeats 1600000 in
theorem hitIn_any (n m : Int) (M F : Nat → Int) (r : Nat) (w : World) (hr : r < 6) (hM : 0 ≤ M r ∧ M r < 64) (hF : 0 ≤ F r ∧ F r < 6) :
    Calls Try.prog 76 #[trV n m M F, .int .i64 r] w fun e w' => e = .returned (.int .i64 (hit1 M F r)) ∧ Below w.heap.size w w' := by
  have L0 := (Law.start w).has (trL n m M F) 78
  have c1 := L0.ownHas.cell (2 + r)
  have c2 := L0.ownHas.cell (8 + r)
  rw [trL_mask n m M F r hr] at c1
  rw [trL_place n m M F r hr] at c2
  rw [show (trL n m M F).toArray = #[.int .i64 n, .int .i64 m, .int .i64 (M 0), .int .i64 (M 1), .int .i64 (M 2), .int .i64 (M 3), .int .i64 (M 4), .int .i64 (M 5), .int .i64 (F 0), .int .i64 (F 1), .int .i64 (F 2), .int .i64 (F 3), .int .i64 (F 4), .int .i64 (F 5)] from rfl] at c1 c2 L0
  have HB := Lib.hid L0.below
  obtain ⟨x, hx⟩ := Int.eq_ofNat_of_zero_le hM.1
  obtain ⟨q, hq⟩ := Int.eq_ofNat_of_zero_le hF.1
  have hbit := bit_one x q (by omega)
  have HV := Lib.hid (show hit1 M F r = if x.testBit q = true then 1 else 0 by unfold hit1 bN; rw [hx, hq]; rfl)
  rw [← HV.out] at hbit
  rw [hx] at c1
  rw [hq] at c2
  have hr0 : (0 : Int) ≤ r := by omega
  have hr6 : (r : Int) < 6 := by omega
  have hq0 : (0 : Int) ≤ q := by omega
  have hq6 : (q : Int) < 64 := by omega
  generalize hit1 M F r = z at *
  clear L0 hx hq hM hF HV
  go_enter Try.func76, Try.ntmps76
  go_upto_region 1 with fail
  generalize w.alloc (.cells #[.int .i64 n, .int .i64 m, .int .i64 (M 0), .int .i64 (M 1), .int .i64 (M 2), .int .i64 (M 3), .int .i64 (M 4), .int .i64 (M 5), .int .i64 (F 0), .int .i64 (F 1), .int .i64 (F 2), .int .i64 (F 3), .int .i64 (F 4), .int .i64 (F 5)] 78) = w5 at *
  go_quiet (fail)
  go_wp2_with fail
  go_ret
  exact ⟨rfl, below_drewN HB.out _⟩
end Go.Proofs.Ytjmefcebldifaab
