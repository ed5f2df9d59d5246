/- Boards that a rule draws, in the specification. No condition but the sizes. -/
import Derived.Test.YtddmommamcgelaaIb
namespace Go.Proofs.Ytddmommamcgelaa
open Go.RowKit Go.WideShapes



end Go.Proofs.Ytddmommamcgelaa
