/- Rook numbers by a cell, in both texts. No condition but the sizes. -/
import Derived.Test.YtdimbnkgomfojaaBc
import Derived.Deep.RegionWith
import Derived.Test.YtdimbnkgomfojaaT2
namespace Go.Proofs.Ytdimbnkgomfojaa
open Go.RowKit Go.WideShapes

theorem Law.ownLoOf {w0 w : World} {s : Value} {xs : List Int} {ts : List Thing} (h : Law w0 ts w) (hm : tOwn s xs ∈ ts) : Own w w0.heap.size s xs := by
  have h1 : Law w0 [tOwn s xs] w := ⟨h.below, fun t ht => by rw [List.mem_singleton.1 ht]; exact h.holds _ hm, fun t ht => by rw [List.mem_singleton.1 ht]; exact h.range _ hm, by simp⟩
  exact h1.ownLo
theorem Law.apart {w0 w : World} {s s2 : Value} {xs ys : List Int} {a b c : List Thing} (h : Law w0 (a ++ tOwn s xs :: (b ++ tOwn s2 ys :: c)) w) : (∀ k, s.ownBlock = some k → s2.ownBlock ≠ some k) ∧ (∀ k, s2.ownBlock = some k → s.ownBlock ≠ some k) := by
  have hd := h.dis
  rw [List.pairwise_append, List.pairwise_cons] at hd
  have := hd.2.1.1 (tOwn s2 ys) (by simp)
  exact ⟨fun k e e2 => this k e e2, fun k e e2 => this k e2 e⟩

end Go.Proofs.Ytdimbnkgomfojaa
