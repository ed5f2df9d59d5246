/- A board without a row and a column, in the specification. No condition but the sizes. -/
import Derived.Test.YthkghbnmdebhpabZ
import Derived.IntWalk
namespace Go.Proofs.Ythkghbnmdebhpab
open Go.RowKit Go.WideShapes



end Go.Proofs.Ythkghbnmdebhpab
