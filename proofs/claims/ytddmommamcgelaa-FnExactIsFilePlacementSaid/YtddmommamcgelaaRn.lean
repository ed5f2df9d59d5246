/- Rook numbers, the most rooks, permanents: both texts. No condition but the sizes. -/
import Derived.Test.YtddmommamcgelaaRb
import Derived.Test.YtddmommamcgelaaRd
namespace Go.Proofs.Ytddmommamcgelaa
open Go.RowKit Go.WideShapes

/-- The rook numbers. -/
def numL (n m : Nat) (B : Nat → Nat → Bool) : List Int := lstL (min n m + 1) (wR m B n 0 0)
theorem numL_len (n m : Nat) (B : Nat → Nat → Bool) : (numL n m B).length = min n m + 1 := lstL_len _ _
theorem numL_get (n m : Nat) (B : Nat → Nat → Bool) (k : Nat) (h : k < min n m + 1) : (numL n m B).getD k 0 = wR m B n 0 0 k := lstL_get _ _ k h
theorem numL_bd (n m : Nat) (hn : n ≤ 6) (hm : m ≤ 6) (B : Nat → Nat → Bool) (k : Nat) : 0 ≤ (numL n m B).getD k 0 ∧ (numL n m B).getD k 0 ≤ 117649 := by
  by_cases h : k < min n m + 1
  · rw [numL_get n m B k h]
    have := wR_le m hm B n 0 0 k
    have := pow7 n hn
    omega
  · rw [List.getD_eq_getElem?_getD, List.getElem?_eq_none (by rw [numL_len]; omega)]
    simp
/-- The beginning of a list up to its last number that is not 0. -/
def shK (xs : List Int) : Nat → Nat
  | 0 => 0
  | k + 1 => if xs.getD k 0 = 0 then shK xs k else k + 1
theorem shK_le (xs : List Int) (k : Nat) : shK xs k ≤ k := by
  induction k with
  | zero => simp [shK]
  | succ k ih => rw [shK]; split <;> omega

def numB (r c : Int) (xs : List Int) : LR := if goodB r c xs then ⟨numL r.toNat c.toNat (bt xs), true⟩ else ⟨[], false⟩
theorem numB_len (r c : Int) (xs : List Int) : (numB r c xs).ys.length ≤ 1048576 := by
  unfold numB
  split
  · rename_i h
    have := good_facts h
    show (numL _ _ _).length ≤ _
    rw [numL_len]
    omega
  · simp


end Go.Proofs.Ytddmommamcgelaa
