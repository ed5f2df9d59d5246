/- The product of a series at a number, in the program. No condition but the sizes. -/
import Derived.Test.YtdimbnkgomfojaaFt
namespace Go.Proofs.Ytdimbnkgomfojaa
open Go.RowKit Go.WideShapes
end Go.Proofs.Ytdimbnkgomfojaa
