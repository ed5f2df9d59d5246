/- Slices of slices of the call's own: their form, one row alone, and one put behind another where nothing is drawn. No condition. -/
import Derived.Test.YtddmommamcgelaaM7
import Derived.Laws.OwnMore
import Derived.Laws.AppendOwnNone
namespace Go.Proofs.Ytddmommamcgelaa
open Go.RowKit Go.WideShapes

theorem own_oneCell {w : World} {lo : Nat} {v : Value} {xs : List Int} (h : Own w lo v xs) : v.oneCell' = true := by
  rcases h.cases with ⟨rfl, _⟩ | ⟨g, cap, rfl, _⟩ <;> rfl

theorem OwnM.formR {w : World} {lo : Nat} {v : Value} {vs : List Value} {rss : List (List Int)} (h : OwnM w lo v vs rss) : ∃ a cap, v = .slice a rss.length cap := by
  rcases h.cases with ⟨rfl, rfl⟩ | ⟨g, cap, rfl, _⟩
  · have : rss = [] := by simpa using h.len
    subst this
    exact ⟨none, 0, rfl⟩
  · rw [h.len]
    exact ⟨_, _, rfl⟩

/-- One row alone. -/
theorem OwnM.single {w : World} {lo : Nat} {u : Value} {r : List Int} (hu : Own w lo u r) (hlo : lo ≤ w.heap.size) :
    OwnM (w.alloc (.cells #[u] 25)) lo (.slice (some ⟨w.heap.size, 0, none⟩) 1 1) [u] [r] := by
  refine ⟨?_, rfl, ?_, by simp, ?_⟩
  · exact World.ownsRow_lit w #[u] 1 hlo (by unfold maxLen; omega) rfl
  · intro p hp
    simp at hp
    subst hp
    exact hu.kept (below_new _)
  · intro x hx k hk
    simp at hx
    subst hx
    have := own_lt hu k hk
    intro e
    have : k = w.heap.size := by simpa [Value.ownBlock] using e.symm
    omega

end Go.Proofs.Ytddmommamcgelaa
