/- Equal lists, both texts. No condition but the sizes. -/
import Derived.Test.YtmhlpaenfknofabI
import Derived.Test.YtmhlpaenfknofabT2
namespace Go.Proofs.Ytmhlpaenfknofab
open Go.RowKit Go.WideShapes

theorem own_rd {w : World} {lo : Nat} {a : Option Addr} {p : Nat} {xs : List Int} (h : Own w lo (.slice a xs.length p) xs) : Reads w a xs.length xs := by
  obtain ⟨a', p', e, hr⟩ := h.reads
  injection e with e1 e2 e3
  subst e1
  exact hr


end Go.Proofs.Ytmhlpaenfknofab
