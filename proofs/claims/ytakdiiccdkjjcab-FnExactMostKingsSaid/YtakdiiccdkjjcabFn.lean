/- Rook numbers by rows in order; sides; strict lists: the plain part. No condition. -/
import Derived.Test.YtakdiiccdkjjcabFa
import Derived.Test.YtakdiiccdkjjcabFm
namespace Go.Proofs.Ytakdiiccdkjjcab
open Go.RowKit

/-- One row more. -/
def rowS (m : Int) (f : Nat → Int) (j : Nat) : Int := if j = 0 then f 0 else f j + f (j - 1) * max 0 (m - j + 1)
/-- Rook numbers of the first rows. -/
def numS (xs : List Int) : Nat → Nat → Int
  | 0, j => if j = 0 then 1 else 0
  | i + 1, j => rowS (xs.getD i 0) (numS xs i) j
theorem numS_succ (xs : List Int) (i j : Nat) : numS xs (i + 1) j = rowS (xs.getD i 0) (numS xs i) j := rfl
theorem numS_zero (xs : List Int) (h0 : ∀ k, 0 ≤ xs.getD k 0) (hs : ∀ i j, i ≤ j → j < xs.length → xs.getD i 0 ≤ xs.getD j 0) (i : Nat) (hi : i ≤ xs.length) (j : Nat)
    (h : i < j ∨ (0 < i ∧ xs.getD (i - 1) 0 < j)) : numS xs i j = 0 := by
  induction i generalizing j with
  | zero => simp [numS]; omega
  | succ i ih =>
    have hx := h0 i
    rw [numS, rowS]
    have hj : j ≠ 0 := by
      rcases h with h | ⟨_, h⟩
      · omega
      · rw [Nat.add_sub_cancel] at h
        omega
    rw [if_neg hj]
    rcases h with h | ⟨_, h⟩
    · rw [ih (by omega) j (.inl (by omega)), ih (by omega) (j - 1) (.inl (by omega))]
      simp
    · simp only [Nat.add_sub_cancel] at h
      rw [show max 0 (xs.getD i 0 - (j : Int) + 1) = 0 by omega]
      have : numS xs i j = 0 := by
        by_cases h1 : i = 0
        · subst h1
          simp [numS, hj]
        · have := hs (i - 1) i (by omega) (by omega)
          exact ih (by omega) j (.inr ⟨by omega, by omega⟩)
      rw [this]
      simp
theorem mul6 (x y K : Int) (hx : 0 ≤ x ∧ x ≤ K) (hy : 0 ≤ y ∧ y ≤ 6) : 0 ≤ x * y ∧ x * y ≤ 6 * K := by
  refine ⟨Int.mul_nonneg hx.1 hy.1, ?_⟩
  have := Int.mul_le_mul hx.2 hy.2 hy.1 (by omega)
  omega
theorem numS_bd (xs : List Int) (h : ∀ k, xs.getD k 0 ≤ 6) (i j : Nat) : 0 ≤ numS xs i j ∧ numS xs i j ≤ 7 ^ i := by
  induction i generalizing j with
  | zero => rw [numS]; split <;> simp
  | succ i ih =>
    rw [numS, rowS]
    have p : (0 : Int) ≤ 7 ^ i := Int.pow_nonneg (by decide)
    rw [Int.pow_succ]
    split
    · have := ih 0
      omega
    · rename_i hj
      have a := ih j
      have b := ih (j - 1)
      have hm := h i
      have c := mul6 _ (max 0 (xs.getD i 0 - (j : Int) + 1)) _ b ⟨by omega, by omega⟩
      omega
theorem pow7i (i : Nat) (h : i ≤ 6) : (7 : Int) ^ i ≤ 117649 := by
  match i, h with
  | 0, _ | 1, _ | 2, _ | 3, _ | 4, _ | 5, _ | 6, _ => decide
theorem numS_in (xs : List Int) (h : ∀ k, xs.getD k 0 ≤ 6) (i j : Nat) (hi : i ≤ 6) : 0 ≤ numS xs i j ∧ numS xs i j ≤ 117649 := by
  have := numS_bd xs h i j
  have := pow7i i hi
  omega
/-- The row behind the numbers from the greatest one down to k. -/
def midS (m : Int) (f : Nat → Int) (k j : Nat) : Int := if k < j then rowS m f j else f j
theorem midS_at (m : Int) (f : Nat → Int) (k j : Nat) (h : j ≤ k) : midS m f k j = f j := if_neg (by omega)
theorem midS_step (m : Int) (f : Nat → Int) (k : Nat) : midS m f k (k + 1) = f (k + 1) + f k * max 0 (m - k) := by
  rw [midS, if_pos (by omega), rowS, if_neg (by omega), Nat.add_sub_cancel, show m - ((k + 1 : Nat) : Int) + 1 = m - k by omega]
theorem midS_ne (m : Int) (f : Nat → Int) (k j : Nat) (h : j ≠ k + 1) : midS m f k j = midS m f (k + 1) j := by
  unfold midS
  by_cases h1 : k < j
  · rw [if_pos h1, if_pos (by omega)]
  · rw [if_neg h1, if_neg (by omega)]
theorem midS_end (m : Int) (f : Nat → Int) (j : Nat) : midS m f 0 j = rowS m f j := by
  unfold midS
  by_cases h : 0 < j
  · rw [if_pos h]
  · rw [if_neg h, rowS, if_pos (by omega), show j = 0 by omega]
/-- The rook numbers of lengths. -/
def numLen (xs : List Int) : List Int := lstI (xs.length + 1) (numS xs xs.length)
theorem numLen_len (xs : List Int) : (numLen xs).length = xs.length + 1 := lstI_len _ _

/-- How many of the first numbers are greater. -/
def sideN (xs : List Int) (t : Int) : Nat → Int
  | 0 => 0
  | k + 1 => sideN xs t k + if t < xs.getD k 0 then 1 else 0
theorem sideN_bd (xs : List Int) (t : Int) (k : Nat) : 0 ≤ sideN xs t k ∧ sideN xs t k ≤ k := by
  induction k with
  | zero => simp [sideN]
  | succ k ih => rw [sideN]; split <;> omega
theorem sideN_no (xs : List Int) (t : Int) (k : Nat) (h : ¬ t < xs.getD k 0) : sideN xs t (k + 1) = sideN xs t k := by rw [sideN, if_neg h]; omega
theorem sideN_yes (xs : List Int) (t : Int) (k : Nat) (h : t < xs.getD k 0) : sideN xs t (k + 1) = sideN xs t k + 1 := by rw [sideN, if_pos h]
def sideL (xs : List Int) : List Int := lstI xs.length (fun i => sideN xs ((xs.length : Int) - 1 - i) xs.length)

/-- Is the number with the index k left out of the strict list? -/
def outP (fs : List Int) (k : Nat) : Bool := decide (fs.getD k 0 ≤ 0) && (decide (k = 0) || decide (fs.getD (k - 1) 0 < fs.getD k 0))
/-- Where the program's list goes on. -/
def atP (fs : List Int) : Nat → Int
  | 0 => 1 - fs.getD 0 0
  | k + 1 => if outP fs k then atP fs k else atP fs k + 1
def stP (fs : List Int) : Nat → List Int
  | 0 => List.replicate fs.length 0
  | k + 1 => if outP fs k then stP fs k else (stP fs k).set (atP fs k).toNat (fs.getD k 0 + atP fs k)
theorem stP_len (fs : List Int) (k : Nat) : (stP fs k).length = fs.length := by
  induction k with
  | zero => simp [stP]
  | succ k ih => rw [stP]; split <;> simp [ih]
def zeroS (fs : List Int) : Int := max 0 (1 - fs.getD 0 0)
def outS (fs : List Int) (o : Int) (k : Nat) : Bool := decide (o < zeroS fs) && decide (fs.getD k 0 = 1 - zeroS fs + o)
def opS (fs : List Int) : Nat → Int
  | 0 => 0
  | k + 1 => if outS fs (opS fs k) k then opS fs k + 1 else opS fs k
def stS (fs : List Int) : Nat → List Int
  | 0 => List.replicate (zeroS fs).toNat 0
  | k + 1 => if outS fs (opS fs k) k then stS fs k else stS fs k ++ [fs.getD k 0 + (stS fs k).length]
theorem stS_len (fs : List Int) (k : Nat) : (stS fs k).length ≤ (zeroS fs).toNat + k := by
  induction k with
  | zero => simp [stS]
  | succ k ih =>
    rw [stS]
    split
    · omega
    · rw [List.length_append, List.length_singleton]
      omega
theorem strict_same {xs : List Int} (h : lenB xs = true) : stP (facs xs) xs.length = stS (facs xs) xs.length ∧ ∀ k, k < xs.length → 0 ≤ atP (facs xs) k ∧ (outP (facs xs) k = false → atP (facs xs) k < xs.length) := by
  have := all_lens (fun xs => decide (stP (facs xs) xs.length = stS (facs xs) xs.length) && (List.range xs.length).all fun k => decide (0 ≤ atP (facs xs) k) && (outP (facs xs) k || decide (atP (facs xs) k < xs.length))) (by decide +kernel) h
  simp only [Bool.and_eq_true, decide_eq_true_eq, List.all_eq_true, List.mem_range, Bool.or_eq_true] at this
  refine ⟨this.1, fun k hk => ⟨(this.2 k hk).1, fun h => ?_⟩⟩
  rcases (this.2 k hk).2 with h2 | h2
  · rw [h] at h2; cases h2
  · exact h2

end Go.Proofs.Ytakdiiccdkjjcab
