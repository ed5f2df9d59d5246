/- Placements as plain values, in the program. No condition but the sizes. -/
import Derived.Test.YtakdiiccdkjjcabPb
import Derived.Laws.Rows
import Derived.Test.YtakdiiccdkjjcabT2
namespace Go.Proofs.Ytakdiiccdkjjcab
open Go.RowKit Go.WideShapes

theorem Has.row6 {w : World} {b : Nat} {f : Nat → Int} {t : TypeId} (h : Has w b (pl6 f) t) : w.heap[b]? = some (.cells #[.int .i64 (f 0), .int .i64 (f 1), .int .i64 (f 2), .int .i64 (f 3), .int .i64 (f 4), .int .i64 (f 5)] t (0, 0)) := h


end Go.Proofs.Ytakdiiccdkjjcab
