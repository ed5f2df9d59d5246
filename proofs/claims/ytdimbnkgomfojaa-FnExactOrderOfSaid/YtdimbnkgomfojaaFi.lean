/- The board of lengths, in both texts. No condition but the sizes. -/
import Derived.Test.YtdimbnkgomfojaaKg
namespace Go.Proofs.Ytdimbnkgomfojaa
open Go.RowKit Go.WideShapes

def bolB (xs : List Int) : BR := if lenB xs then ⟨xs.length, xs.length, xs.map (fun x => pw x - 1), true⟩ else BR.zero
theorem bolB_len (xs : List Int) : (bolB xs).xs.length ≤ 1048576 := by
  unfold bolB
  split
  · rename_i h
    have := len_facts h
    show (xs.map _).length ≤ _
    rw [List.length_map]
    omega
  · simp [BR.zero]
theorem pwmap_get (xs : List Int) (k : Nat) (h : k < xs.length) : (xs.map (fun x => pw x - 1)).getD k 0 = pw (xs.getD k 0) - 1 := by simp [List.getD, h]



end Go.Proofs.Ytdimbnkgomfojaa
