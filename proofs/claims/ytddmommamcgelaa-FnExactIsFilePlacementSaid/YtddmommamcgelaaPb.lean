/- Placements told apart, in both texts. No condition but the sizes. -/
import Derived.Test.YtddmommamcgelaaPa
import Derived.Test.YtddmommamcgelaaG2
import Derived.Test.YtddmommamcgelaaRd
namespace Go.Proofs.Ytddmommamcgelaa
open Go.RowKit Go.WideShapes


end Go.Proofs.Ytddmommamcgelaa
