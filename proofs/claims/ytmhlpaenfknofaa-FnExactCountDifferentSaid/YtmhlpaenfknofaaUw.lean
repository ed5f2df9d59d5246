/- Pairs that attack each other are few. No condition. -/
import Derived.Test.YtmhlpaenfknofaaUe
import Derived.Test.YtmhlpaenfknofaaM2
namespace Go.Proofs.Ytmhlpaenfknofaa
open Go.RowKit Go.WideShapes

theorem total_mul (rss : List (List Int)) (c : Nat) (h : ∀ r ∈ rss, r.length = c) : total rss = rss.length * c := by
  induction rss with
  | nil => simp [total]
  | cons x t ih => rw [total_cons, ih (fun r hr => h r (by simp [hr])), h x (by simp), List.length_cons, Nat.succ_mul]; omega
theorem meets_two (P : Nat → Nat → Bool) (c k : Nat) : ∀ x ∈ meets P c k, x.length = 2 := by
  intro x hx
  obtain ⟨r, _, hx⟩ := List.mem_flatMap.1 hx
  obtain ⟨s, _, rfl⟩ := List.mem_map.1 hx
  rfl
theorem attacksM_len (xs : List Int) : (attacksR xs).zz.length ≤ 1048576 ∧ total (attacksR xs).zz ≤ 1048576 := by
  unfold attacksR
  cases h : gdB xs
  · simp [total]
  · have := meets_eight (attP bQ xs) xs.length xs.length (gd_facts h).2.1 (gd_facts h).2.1
    rw [if_pos rfl, total_mul _ 2 (meets_two _ _ _)]
    simp only
    omega
end Go.Proofs.Ytmhlpaenfknofaa
