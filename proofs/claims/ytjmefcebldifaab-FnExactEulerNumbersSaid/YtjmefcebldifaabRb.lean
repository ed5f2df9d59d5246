/- Rook numbers, in the specification. No condition but the sizes. -/
import Derived.Test.YtjmefcebldifaabRw
import Derived.Test.YtjmefcebldifaabZ
import Derived.IntWalk
import Derived.Deep.RegionHeld3
namespace Go.Proofs.Ytjmefcebldifaab
open Go.RowKit Go.WideShapes



end Go.Proofs.Ytjmefcebldifaab
