/- Rook numbers, in the specification. No condition but the sizes. -/
import Derived.Test.YtddmommamcgelaaRw
import Derived.Test.YtddmommamcgelaaZ
import Derived.IntWalk
import Derived.Deep.RegionHeld3
namespace Go.Proofs.Ytddmommamcgelaa
open Go.RowKit Go.WideShapes



end Go.Proofs.Ytddmommamcgelaa
