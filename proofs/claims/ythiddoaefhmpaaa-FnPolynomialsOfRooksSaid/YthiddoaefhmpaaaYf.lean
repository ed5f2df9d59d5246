/- Functions that draw boards. No condition but the sizes. -/
import Derived.Test.YthiddoaefhmpaaaYe
namespace Go.Proofs.Ythiddoaefhmpaaa
open Go.RowKit Go.WideShapes

def bdV (r c : Int) (g len cap : Nat) : Value := .agg #[.int .i64 r, .int .i64 c, .slice (some ⟨g, 0, none⟩) len cap]
def AnsBd (w : World) : Ending → World → Prop := fun e w' => ∃ (r c : Int) (g len cap : Nat) (xs : List Int), e = .returned (bdV r c g len cap) ∧ xs.length = len ∧ 1 ≤ len ∧ len ≤ 7 ∧ Own w' w.heap.size (.slice (some ⟨g, 0, none⟩) len cap) xs ∧ Below w.heap.size w w'


end Go.Proofs.Ythiddoaefhmpaaa
