/- Placements told apart, in both texts. No condition but the sizes. -/
import Derived.Test.YtakdiiccdkjjcabPa
import Derived.Test.YtakdiiccdkjjcabG2
import Derived.Test.YtakdiiccdkjjcabH
namespace Go.Proofs.Ytakdiiccdkjjcab
open Go.RowKit Go.WideShapes


end Go.Proofs.Ytakdiiccdkjjcab
