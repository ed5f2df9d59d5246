/- The most rooks, and permanents: both texts. No condition but the sizes. -/
import Derived.Test.YtakdiiccdkjjcabRo
import Derived.Test.YtakdiiccdkjjcabQm
namespace Go.Proofs.Ytakdiiccdkjjcab
open Go.RowKit Go.WideShapes

def mostB (r c : Int) (xs : List Int) : R1 := if goodB r c xs then ⟨(shK (numL r.toNat c.toNat (bt xs)) (min r.toNat c.toNat + 1) : Int) - 1, true⟩ else ⟨0, false⟩
/-- As many rows as columns? -/
def sqB (r c : Int) (xs : List Int) : Bool := goodB r c xs && (r == c)
def permB (r c : Int) (xs : List Int) : R1 := if sqB r c xs then ⟨(numL r.toNat r.toNat (bt xs)).getD r.toNat 0, true⟩ else ⟨0, false⟩



theorem sq_facts {r c : Int} {xs : List Int} (h : sqB r c xs = true) : goodB r c xs = true ∧ r = c := by
  rw [sqB, Bool.and_eq_true, beq_iff_eq] at h
  exact h



end Go.Proofs.Ytakdiiccdkjjcab
