/- The most rooks of a grid, in the program. No condition but the sizes. -/
import Derived.Test.YtakdiiccdkjjcabRo
import Derived.Test.YtakdiiccdkjjcabQk
namespace Go.Proofs.Ytakdiiccdkjjcab
open Go.RowKit Go.WideShapes

theorem shK_eq (xs : List Int) (L N : Nat) (hL : L ≤ N) (h0 : ∀ j, L ≤ j → j < N → xs.getD j 0 = 0) (h1 : 0 < L → xs.getD (L - 1) 0 ≠ 0) : shK xs N = L := by
  induction N with
  | zero => rw [shK]; omega
  | succ N ih =>
    rw [shK]
    by_cases e : L = N + 1
    · subst e
      have h2 := h1 (by omega)
      rw [Nat.add_sub_cancel] at h2
      rw [if_neg h2]
    · rw [if_pos (h0 N (by omega) (by omega)), ih (by omega) (fun j a b => h0 j a (by omega))]
end Go.Proofs.Ytakdiiccdkjjcab
