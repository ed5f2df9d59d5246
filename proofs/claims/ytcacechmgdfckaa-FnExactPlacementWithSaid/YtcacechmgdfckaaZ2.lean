/- A board without a row and a column, in the specification. No condition but the sizes. -/
import Derived.Test.YtcacechmgdfckaaZ
import Derived.IntWalk
namespace Go.Proofs.Ytcacechmgdfckaa
open Go.RowKit Go.WideShapes



end Go.Proofs.Ytcacechmgdfckaa
