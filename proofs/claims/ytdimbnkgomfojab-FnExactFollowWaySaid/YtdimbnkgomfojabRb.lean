/- Rook numbers, in the specification. No condition but the sizes. -/
import Derived.Test.YtdimbnkgomfojabRw
import Derived.Test.YtdimbnkgomfojabZ
import Derived.IntWalk
import Derived.Deep.RegionHeld3
namespace Go.Proofs.Ytdimbnkgomfojab
open Go.RowKit Go.WideShapes



end Go.Proofs.Ytdimbnkgomfojab
