/- A row of a slice of slices, read. No condition. -/
import Derived.Test.YtakdiiccdkjjcabM7
import Derived.Test.YtakdiiccdkjjcabT2
namespace Go.Proofs.Ytakdiiccdkjjcab
open Go.RowKit Go.WideShapes

theorem rowM_at {w0 w : World} {ts : List Thing} {g n c : Nat} {vs : List Value} {rss : List (List Int)} (L : Law w0 (tM (.slice (some ⟨g, 0, none⟩) n c) vs rss :: ts) w) (hn : rss.length = n) (k : Nat) (hk : k < n) (ys : List Int) (hy : ∀ h : k < rss.length, rss[k] = ys) :
    ∃ a2 p2, w.cell? ⟨g, k, none⟩ = some (.slice a2 ys.length p2) ∧ Reads w a2 ys.length ys := by
  have hlen := L.ownM.len
  have hrow := L.ownM.row k (by omega)
  rw [hy] at hrow
  obtain ⟨a2, p2, hv, hr⟩ := hrow.reads
  refine ⟨a2, p2, ?_, hr⟩
  rw [← hv, World.ownsRow.cellAt (by have := L.ownM.outer; rw [show vs.length = n by omega] at this; exact this) k (by omega)]
  simp
theorem rowM_own {w0 w : World} {ts : List Thing} {g n c : Nat} {vs : List Value} {rss : List (List Int)} (L : Law w0 (tM (.slice (some ⟨g, 0, none⟩) n c) vs rss :: ts) w) (hn : rss.length = n) (k : Nat) (hk : k < n) (ys : List Int) (hy : ∀ h : k < rss.length, rss[k] = ys) :
    ∃ a2 p2, w.cell? ⟨g, k, none⟩ = some (.slice a2 ys.length p2) ∧ Reads w a2 ys.length ys ∧ Own w w0.heap.size (.slice a2 ys.length p2) ys := by
  have hlen := L.ownM.len
  have hrow := L.ownMLo.row k (by omega)
  rw [hy] at hrow
  obtain ⟨a2, p2, hv, hr⟩ := hrow.reads
  refine ⟨a2, p2, ?_, hr, by rw [← hv]; exact hrow⟩
  rw [← hv, World.ownsRow.cellAt (by have := L.ownM.outer; rw [show vs.length = n by omega] at this; exact this) k (by omega)]
  simp

end Go.Proofs.Ytakdiiccdkjjcab
