/- Factors, lists and products of a series, in the program. No condition but the sizes. -/
import Derived.Test.YtdimbnkgomfojaaFs
namespace Go.Proofs.Ytdimbnkgomfojaa
open Go.RowKit Go.WideShapes

abbrev sl0 : List Value := [.int .i64 0, .int .i64 0, .int .i64 0, .int .i64 0, .int .i64 0, .int .i64 0, .int .i64 0]

theorem sl_vals (n : Int) (L : List Int) (h : L.length ≤ 6) (j : Nat) (v : Value) (hj : (L.map (Value.int .i64))[j]? = some v) : (sl n (fl L))[1 + j]? = some v := by
  obtain ⟨hx1, rfl⟩ := List.getElem?_eq_some_iff.1 hj
  simp only [List.length_map] at hx1
  rw [sl_get _ _ j (by omega)]
  simp [hx1]

end Go.Proofs.Ytdimbnkgomfojaa
