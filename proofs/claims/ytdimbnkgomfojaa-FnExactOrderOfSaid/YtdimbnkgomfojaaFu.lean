/- Factors of the specification. No condition but the sizes. -/
import Derived.Test.YtdimbnkgomfojaaFc
import Derived.Test.YtdimbnkgomfojaaAp
import Derived.Test.YtdimbnkgomfojaaP
namespace Go.Proofs.Ytdimbnkgomfojaa
open Go.RowKit Go.WideShapes
end Go.Proofs.Ytdimbnkgomfojaa
