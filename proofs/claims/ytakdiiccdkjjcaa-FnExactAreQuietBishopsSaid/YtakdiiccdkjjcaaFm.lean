/- Lists told by a function, of integers: the plain part. No condition. -/
import Derived.Test.YtakdiiccdkjjcaaBase
namespace Go.Proofs.Ytakdiiccdkjjcaa
open Go.RowKit

/-- A list by its numbers. -/
def lstI (L : Nat) (g : Nat → Int) : List Int := (List.range L).map g
theorem lstI_len (L : Nat) (g : Nat → Int) : (lstI L g).length = L := by simp [lstI]
theorem lstI_get (L : Nat) (g : Nat → Int) (k : Nat) (h : k < L) : (lstI L g).getD k 0 = g k := by simp [lstI, List.getD, h]
theorem lstI_congr (L : Nat) (g g' : Nat → Int) (h : ∀ k, k < L → g k = g' k) : lstI L g = lstI L g' := by
  unfold lstI
  refine List.map_congr_left fun k hk => h k ?_
  simpa using hk
theorem lstI_zero (L : Nat) : List.replicate L (0 : Int) = lstI L (fun _ => 0) := by
  refine List.ext_getElem ?_ fun k h1 h2 => ?_
  · simp [lstI]
  · simp [lstI]
theorem lstI_set (L : Nat) (g g' : Nat → Int) (i : Nat) (x : Int) (hx : g' i = x) (ho : ∀ k, k < L → k ≠ i → g' k = g k) : (lstI L g).set i x = lstI L g' := by
  refine List.ext_getElem ?_ fun k h1 h2 => ?_
  · simp [lstI]
  · have hk : k < L := by simpa [lstI] using h2
    rw [List.getElem_set]
    by_cases e : i = k
    · subst e
      simp [lstI, hx]
    · rw [if_neg e]
      simp [lstI, ho k hk (fun h => e h.symm)]
theorem lstI_snoc (L : Nat) (g : Nat → Int) : lstI L g ++ [g L] = lstI (L + 1) g := by simp [lstI, List.range_succ]
theorem lstI_self (xs : List Int) : lstI xs.length (fun k => xs.getD k 0) = xs := by
  refine List.ext_getElem ?_ fun k h1 h2 => ?_
  · simp [lstI]
  · simp [lstI, List.getD, h2]

end Go.Proofs.Ytakdiiccdkjjcaa
