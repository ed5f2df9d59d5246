/- Factors, in the specification. No condition but the sizes. -/
import Derived.Test.YtdimbnkgomfojaaFu
import Derived.Test.YtdimbnkgomfojaaFn
namespace Go.Proofs.Ytdimbnkgomfojaa
open Go.RowKit Go.WideShapes

theorem facU_snoc (xs : List Int) (k : Nat) (h : k < xs.length) : (facU xs).take k ++ [xs.getD k 0 - k] = (facU xs).take (k + 1) := by
  rw [List.take_succ_eq_append_getElem (by rw [facU_len]; exact h)]
  have := facU_get xs k h
  rw [← this]
  simp [List.getD, facU_len, h]

theorem len_bd {xs : List Int} (h : lenB xs = true) (k : Nat) : -1000 ≤ xs.getD k 0 ∧ xs.getD k 0 ≤ 1000 := by
  have := (len_facts h).2.2.1 k
  omega

end Go.Proofs.Ytdimbnkgomfojaa
