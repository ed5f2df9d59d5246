/- The form of a slice of slices. No condition. -/
import Derived.Test.YtmhlpaenfknofaaM
namespace Go.Proofs.Ytmhlpaenfknofaa
open Go.RowKit Go.WideShapes

theorem OwnM.form {w : World} {lo : Nat} {v : Value} {vs : List Value} {rss : List (List Int)} (h : OwnM w lo v vs rss) : ∃ a cap, v = .slice a vs.length cap ∧ ∀ k (hk : k < vs.length), ∃ g, a = some ⟨g, 0, none⟩ ∧ w.cell? ⟨g, k, none⟩ = some vs[k] := by
  rcases h.cases with ⟨rfl, rfl⟩ | ⟨g, cp, rfl, _⟩
  · exact ⟨none, 0, rfl, fun k hk => absurd hk (by simp)⟩
  · exact ⟨_, cp, rfl, fun k hk => ⟨g, rfl, h.cell k hk⟩⟩

/-- What a call answers that tells a list of lists. -/
structure MR where
  zz : List (List Int)
  ok : Bool
def AnsM (R : MR) (w : World) (e : Ending) (w' : World) : Prop := ∃ s v, e = .returned (.tuple #[s, .bool R.ok]) ∧ OwnM w' w.heap.size s v R.zz ∧ Below w.heap.size w w'
theorem own_freshM {w : World} {lo n : Nat} (h : w.ownsRow lo 22 1 (.slice (some ⟨lo, 0, none⟩) 0 n) 0 []) : OwnM w lo (.slice (some ⟨lo, 0, none⟩) 0 n) [] [] :=
  ⟨h, rfl, by simp, by simp, by simp⟩

end Go.Proofs.Ytmhlpaenfknofaa
