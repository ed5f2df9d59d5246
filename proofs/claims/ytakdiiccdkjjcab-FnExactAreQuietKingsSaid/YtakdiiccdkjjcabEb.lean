/- The diagonals of a colour and the colour board, in the specification. No condition but the sizes. -/
import Derived.Test.YtakdiiccdkjjcabEa
import Derived.Test.YtakdiiccdkjjcabAp
import Derived.Test.YtakdiiccdkjjcabP
import Derived.Test.YtakdiiccdkjjcabK
import Derived.Deep.RegionWith
import Derived.Deep.RegionHeld3
import Derived.BigQuiet
namespace Go.Proofs.Ytakdiiccdkjjcab
open Go.RowKit Go.WideShapes

theorem cntP_at (x : Int) (xs : List Int) : ∀ j, j ≤ xs.length → (∀ i, i < j → xs.getD i 0 < x) → (j < xs.length → x ≤ xs.getD j 0) → cntP xs x = j := by
  induction xs with
  | nil => intro j h _ _; simp at h; subst h; rfl
  | cons y l ih =>
    intro j h1 h2 h3
    unfold cntP at ih ⊢
    cases j with
    | zero =>
      have := h3 (by simp)
      simp only [List.getD_cons_zero] at this
      rw [List.takeWhile_cons, if_neg (by simp; omega)]
      rfl
    | succ j =>
      have := h2 0 (by omega)
      simp only [List.getD_cons_zero] at this
      rw [List.takeWhile_cons, if_pos (by simpa using this), List.length_cons, ih j (by simpa using h1) (fun i hi => by have := h2 (i + 1) (by omega); simpa using this) (fun h => by have := h3 (by simpa using h); simpa using this)]
theorem putI_at (x : Int) (xs : List Int) (j : Nat) (h1 : j ≤ xs.length) (h2 : ∀ i, i < j → xs.getD i 0 < x) (h3 : j < xs.length → x < xs.getD j 0) : putI xs x = xs.take j ++ [x] ++ xs.drop j := by
  have e := cntP_at x xs j h1 h2 (fun h => by have := h3 h; omega)
  unfold putI
  rw [e, if_neg]
  by_cases h : j < xs.length
  · have h4 := h3 h
    rw [List.getD_eq_getElem?_getD, List.getElem?_eq_getElem h] at h4 ⊢
    simp only [Option.getD_some] at h4 ⊢
    omega
  · rw [List.getD_eq_getElem?_getD, List.getElem?_eq_none (by omega)]
    simp only [Option.getD_none]
    omega
theorem putI_has (x : Int) (xs : List Int) (j : Nat) (h1 : j < xs.length) (h2 : ∀ i, i < j → xs.getD i 0 < x) (h3 : xs.getD j 0 = x) : putI xs x = xs := by
  have e := cntP_at x xs j (by omega) h2 (fun _ => by omega)
  unfold putI
  rw [e, if_pos]
  rw [List.getD_eq_getElem?_getD, List.getElem?_eq_getElem h1] at h3 ⊢
  simpa using h3


end Go.Proofs.Ytakdiiccdkjjcab
