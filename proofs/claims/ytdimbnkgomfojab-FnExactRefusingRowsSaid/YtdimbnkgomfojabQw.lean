/- Rows of numbers by two, in the order in which they are looked at: the plain part. No condition but the sizes. -/
import Derived.Test.YtdimbnkgomfojabQs
namespace Go.Proofs.Ytdimbnkgomfojab
open Go.RowKit

/-- The rows, below k, whose digits in a number of n digits are 1; the row 0 has the highest one. -/
def rowsU (n x k : Nat) : List Int := ((List.range k).filter fun r => x.testBit (n - 1 - r)).map fun (r : Nat) => (r : Int)
def rowsN (n x : Nat) : List Int := rowsU n x n
theorem rowsU_no (n x k : Nat) (h : x.testBit (n - 1 - k) = false) : rowsU n x (k + 1) = rowsU n x k := by
  unfold rowsU
  rw [List.range_succ, List.filter_append]
  simp [h]
theorem rowsU_yes (n x k : Nat) (h : x.testBit (n - 1 - k) = true) : rowsU n x (k + 1) = rowsU n x k ++ [(k : Int)] := by
  unfold rowsU
  rw [List.range_succ, List.filter_append, List.map_append]
  simp [h]
theorem rowsU_len (n x k : Nat) : (rowsU n x k).length ≤ k := by
  unfold rowsU
  rw [List.length_map]
  have := List.length_filter_le (fun r => x.testBit (n - 1 - r)) (List.range k)
  simpa using this
theorem rowsN_mem (n x : Nat) : ∀ r ∈ rowsN n x, 0 ≤ r ∧ r < n := by
  intro r hr
  unfold rowsN rowsU at hr
  obtain ⟨k, hk, rfl⟩ := List.mem_map.1 hr
  have := List.mem_range.1 (List.mem_filter.1 hk).1
  omega
/-- Of the numbers 2^n - 1, .., q of them, those with z digits 1. -/
def dnS (n z : Nat) : Nat → List (List Int)
  | 0 => []
  | q + 1 => dnS n z q ++ if pop ((2 ^ n - 1 - q : Nat) : Int) = z then [rowsN n (2 ^ n - 1 - q)] else []
def upS (n : Nat) : Nat → List (List Int)
  | 0 => []
  | z + 1 => upS n z ++ dnS n z (2 ^ n)
theorem upS_sets (n : Nat) (hn : n ≤ 6) : upS n (n + 1) = sets n := by
  have key : ∀ n : Fin 7, upS (n : Nat) ((n : Nat) + 1) = sets (n : Nat) := by decide +kernel
  exact key ⟨n, by omega⟩
theorem dnS_split (n z q Q : Nat) (h : q ≤ Q) : ∃ tl, dnS n z Q = dnS n z q ++ tl := by
  induction Q with
  | zero => exact ⟨[], by rw [show q = 0 by omega]; rfl⟩
  | succ Q ih =>
    by_cases e : q = Q + 1
    · exact ⟨[], by rw [e, List.append_nil]⟩
    · obtain ⟨tl, ht⟩ := ih (by omega)
      exact ⟨tl ++ _, by rw [dnS, ht, List.append_assoc]⟩
theorem upS_split (n z Z : Nat) (h : z ≤ Z) : ∃ tl, upS n Z = upS n z ++ tl := by
  induction Z with
  | zero => exact ⟨[], by rw [show z = 0 by omega]; rfl⟩
  | succ Z ih =>
    by_cases e : z = Z + 1
    · exact ⟨[], by rw [e, List.append_nil]⟩
    · obtain ⟨tl, ht⟩ := ih (by omega)
      exact ⟨tl ++ _, by rw [upS, ht, List.append_assoc]⟩
/-- How many have been looked at. -/
def seenS (n z q : Nat) : Nat := (upS n z).length + (dnS n z q).length
theorem seenS_zero (n z : Nat) : seenS n z 0 = (upS n z).length := rfl
theorem seenS_row (n z : Nat) : seenS n z (2 ^ n) = seenS n (z + 1) 0 := by
  unfold seenS
  rw [upS, List.length_append]
  rfl
theorem seenS_no (n z q : Nat) (h : pop ((2 ^ n - 1 - q : Nat) : Int) ≠ z) : seenS n z (q + 1) = seenS n z q := by
  unfold seenS
  rw [dnS, if_neg h, List.append_nil]
theorem seenS_yes (n z q : Nat) (h : pop ((2 ^ n - 1 - q : Nat) : Int) = z) : seenS n z (q + 1) = seenS n z q + 1 := by
  unfold seenS
  rw [dnS, if_pos h, List.length_append]
  rfl
theorem seenS_at (n z q : Nat) (hn : n ≤ 6) (hz : z ≤ n) (hq : q < 2 ^ n) (h : pop ((2 ^ n - 1 - q : Nat) : Int) = z) : (sets n)[seenS n z q]? = some (rowsN n (2 ^ n - 1 - q)) := by
  obtain ⟨t1, h1⟩ := upS_split n (z + 1) (n + 1) (by omega)
  obtain ⟨t2, h2⟩ := dnS_split n z (q + 1) (2 ^ n) (by omega)
  rw [← upS_sets n hn, h1, upS, h2, dnS, if_pos h]
  unfold seenS
  rw [show upS n z ++ (dnS n z q ++ [rowsN n (2 ^ n - 1 - q)] ++ t2) ++ t1 = (upS n z ++ dnS n z q) ++ (rowsN n (2 ^ n - 1 - q) :: (t2 ++ t1)) by simp, List.getElem?_append_right (by simp)]
  simp
theorem seenS_all (n : Nat) (hn : n ≤ 6) : seenS n (n + 1) 0 = (sets n).length := by
  rw [seenS_zero, upS_sets n hn]
/-- How far a walk over s things comes, and whether it goes on behind them. -/
def runW (cont : Nat → Bool) : Nat → Nat × Bool
  | 0 => (0, true)
  | s + 1 => if (runW cont s).2 then (s + 1, cont s) else runW cont s
theorem runW_stop (cont : Nat → Bool) (s S : Nat) (hs : s ≤ S) (h : (runW cont s).2 = false) : runW cont S = runW cont s := by
  induction S with
  | zero => rw [show s = 0 by omega]
  | succ S ih =>
    by_cases e : s = S + 1
    · rw [e]
    · have h2 := ih (by omega)
      rw [runW, h2, h]
      simp
theorem runW_full (cont : Nat → Bool) (s : Nat) (h : (runW cont s).2 = true) : (runW cont s).1 = s := by
  cases s with
  | zero => rfl
  | succ s =>
    rw [runW] at h ⊢
    by_cases e : (runW cont s).2 = true
    · rw [if_pos e]
    · rw [if_neg e] at h
      exact absurd h e

end Go.Proofs.Ytdimbnkgomfojab
