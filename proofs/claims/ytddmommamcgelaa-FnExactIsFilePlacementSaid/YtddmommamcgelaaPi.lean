/- Is a list a placement: both texts. No condition but the sizes. -/
import Derived.Test.YtddmommamcgelaaPc
import Derived.Test.YtddmommamcgelaaZ
import Derived.Test.YtddmommamcgelaaRo
namespace Go.Proofs.Ytddmommamcgelaa
open Go.RowKit Go.WideShapes

def isPlB (r c : Int) (xs P : List Int) : R2 := if goodB r c xs then ⟨placeP r.toNat c.toNat xs P, true⟩ else ⟨false, false⟩

theorem own_cap {w : World} {lo : Nat} {a : Option Addr} {n p : Nat} {xs : List Int} (h : Own w lo (.slice a n p) xs) : n ≤ p := by
  rcases h.cases with ⟨h0, _⟩ | ⟨g', p', h0, _, _, h1, _⟩
  · injection h0 with _ h2 h3
    omega
  · injection h0 with _ h2 h3
    omega


end Go.Proofs.Ytddmommamcgelaa
