/- The size of what ClassOf answers. No condition. -/
import Derived.Test.YthkghbnmdebhpabGk
import Derived.Test.YthkghbnmdebhpabM2
namespace Go.Proofs.Ythkghbnmdebhpab
open Go.RowKit Go.WideShapes

theorem total_bdK (rss : List (List Int)) (c : Nat) (h : ∀ r ∈ rss, r.length ≤ c) : total rss ≤ c * rss.length := by
  induction rss with
  | nil => simp [total]
  | cons a l ih =>
    have h1 := h a (by simp)
    have h2 := ih (fun r hr => h r (by simp [hr]))
    rw [total_cons, List.length_cons, Nat.mul_succ]
    omega
theorem clsR_len (xs : List Int) : (clsR xs).zz.length ≤ 1048576 ∧ total (clsR xs).zz ≤ 1048576 := by
  unfold clsR
  split
  · rename_i h
    have h6 := (len_facts h).2.1
    show (clsL xs.length (facs xs)).length ≤ _ ∧ total (clsL xs.length (facs xs)) ≤ _
    have hl := clsL_len xs.length (facs xs) h6
    have ht := total_bdK (clsL xs.length (facs xs)) 6 (fun P hP => by rw [clsL_each xs.length (facs xs) P hP]; omega)
    omega
  · simp [total]

end Go.Proofs.Ythkghbnmdebhpab
