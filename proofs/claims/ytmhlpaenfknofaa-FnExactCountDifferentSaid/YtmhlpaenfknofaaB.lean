/- The law's helpers on boards: sizes, copies, comparison, marks. No condition but the sizes. -/
import Derived.Test.YtmhlpaenfknofaaA
namespace Go.Proofs.Ytmhlpaenfknofaa
open Go.RowKit
/-- v is a board value of the call's own: its numbers and its cells. -/
def OwnB (w : World) (lo : Nat) (v : Value) (r c : Int) (xs : List Int) : Prop := ∃ s, v = .agg #[.int .i64 r, .int .i64 c, s] ∧ Own w lo s xs

end Go.Proofs.Ytmhlpaenfknofaa
