/- How many cells a board has, in both texts. No condition but the sizes. -/
import Derived.Test.YtddmommamcgelaaN
import Derived.Test.YtddmommamcgelaaI

namespace Go.Proofs.Ytddmommamcgelaa
open Go.RowKit Go.WideShapes
def countB (r c : Int) (xs : List Int) : R1 := if goodB r c xs then ⟨((cellsL xs r.toNat c.toNat).length : Int), true⟩ else ⟨0, false⟩
theorem rowC_pop (xs : List Int) (a m : Nat) (hm : m ≤ 6) (h : 0 ≤ xs.getD a 0 ∧ xs.getD a 0 < pw m) : ((rowC xs a m).length : Int) = pop (xs.getD a 0) := by
  unfold rowC
  rw [List.length_map]
  generalize xs.getD a 0 = x at *
  obtain ⟨n, rfl⟩ := Int.eq_ofNat_of_zero_le h.1
  have key : ∀ m : Fin 7, ∀ n : Fin 64, ((n : Nat) : Int) < pw (m : Nat) → ((((List.range (m : Nat)).filter (fun b => ((n : Nat) : Int).toNat.testBit b)).length : Nat) : Int) = pop ((n : Nat) : Int) := by decide +kernel
  have h6 := (pw_bd (c := (m : Int)) (by omega)).2.1
  exact key ⟨m, by omega⟩ ⟨n, by omega⟩ h.2
end Go.Proofs.Ytddmommamcgelaa
