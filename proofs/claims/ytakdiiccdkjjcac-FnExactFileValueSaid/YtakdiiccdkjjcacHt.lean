/- The variable of a list of numbers shifted, in the program. No condition but the sizes. -/
import Derived.Test.YtakdiiccdkjjcacHs
import Derived.Test.YtakdiiccdkjjcacG2
namespace Go.Proofs.Ytakdiiccdkjjcac
open Go.RowKit Go.WideShapes

/-- A list of whole numbers told by a function. -/
def lstH (L : Nat) (g : Nat → Int) : List Int := (List.range L).map g
theorem lstH_len (L : Nat) (g : Nat → Int) : (lstH L g).length = L := by simp [lstH]
theorem lstH_get (L : Nat) (g : Nat → Int) (k : Nat) (h : k < L) : (lstH L g).getD k 0 = g k := by simp [lstH, List.getD, h]
theorem lstH_congr (L : Nat) (g g' : Nat → Int) (h : ∀ k, k < L → g k = g' k) : lstH L g = lstH L g' := by
  unfold lstH
  exact List.map_congr_left (fun k hk => h k (List.mem_range.1 hk))
theorem lstH_zero (L : Nat) : List.replicate L (0 : Int) = lstH L (fun _ => 0) := by
  apply List.ext_getElem
  · simp [lstH]
  · intro i h1 h2
    simp [lstH]
theorem lstH_set (L : Nat) (g g' : Nat → Int) (i : Nat) (x : Int) (hx : g' i = x) (ho : ∀ k, k < L → k ≠ i → g' k = g k) : (lstH L g).set i x = lstH L g' := by
  apply List.ext_getElem
  · simp [lstH]
  · intro k h1 h2
    have hk : k < L := by simpa [lstH] using h2
    by_cases e : k = i
    · subst e
      rw [List.getElem_set_self]
      simp [lstH, hx]
    · rw [List.getElem_set_ne (fun h => e h.symm)]
      simp [lstH, ho k hk e]
/-- The first k are told, the others are 0. -/
def upI (g : Nat → Int) (k i : Nat) : Int := if i < k then g i else 0
theorem upI_set (L : Nat) (g : Nat → Int) (k : Nat) : (lstH L (upI g k)).set k (g k) = lstH L (upI g (k + 1)) :=
  lstH_set L _ _ k _ (by simp [upI]) (fun i _ hi => by
    unfold upI
    by_cases h : i < k
    · rw [if_pos h, if_pos (by omega)]
    · rw [if_neg h, if_neg (by omega)])
theorem upI_zero (L : Nat) (g : Nat → Int) : List.replicate L (0 : Int) = lstH L (upI g 0) := by
  rw [lstH_zero]
  exact lstH_congr L _ _ (fun k _ => by simp [upI])
theorem upI_full (L : Nat) (g : Nat → Int) : lstH L (upI g L) = lstH L g := lstH_congr L _ _ (fun k hk => by simp [upI, hk])


/-- The numbers with the variable shifted. -/
def shfL (n : Nat) (ys : List Int) (u : Int) : List Int := lstH n (fun k => sumT (shT ys u k) n)
end Go.Proofs.Ytakdiiccdkjjcac
