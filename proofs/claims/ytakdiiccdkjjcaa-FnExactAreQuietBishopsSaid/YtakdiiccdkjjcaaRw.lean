/- Sets of columns as the walks meet them: the plain part. No condition. -/
import Derived.Test.YtakdiiccdkjjcaaRa
import Derived.IntWalk
namespace Go.Proofs.Ytakdiiccdkjjcaa
open Go.RowKit Go.WideShapes

/-- The cells of a board, as a test. -/
abbrev bt (xs : List Int) (a b : Nat) : Bool := (xs.getD a 0).toNat.testBit b
theorem bit_nat (t c : Nat) (ht : t < 64) (hc : c < 6) : (((t : Int) / 2 ^ c).tmod 2 == 1) = t.testBit c := by
  have key : ∀ t : Fin 64, ∀ c : Fin 6, ((((t : Nat) : Int) / 2 ^ (c : Nat)).tmod 2 == 1) = (t : Nat).testBit c := by decide +kernel
  exact key ⟨t, ht⟩ ⟨c, hc⟩
theorem or_nat (t c : Nat) (ht : t < 64) (hc : c < 6) : bits .or .i64 (t : Int) (wrap64 (2 ^ c)) = ((t ||| 2 ^ c : Nat) : Int) := by
  have key : ∀ t : Fin 64, ∀ c : Fin 6, bits .or .i64 ((t : Nat) : Int) (wrap64 (2 ^ (c : Nat))) = (((t : Nat) ||| 2 ^ (c : Nat) : Nat) : Int) := by decide +kernel
  exact key ⟨t, ht⟩ ⟨c, hc⟩
theorem or_nat2 (t c : Nat) (ht : t < 64) (hc : c < 6) : bits .or .i64 (t : Int) (IntKind.i64.wrap (2 ^ c)) = ((t ||| 2 ^ c : Nat) : Int) := by
  have key : ∀ t : Fin 64, ∀ c : Fin 6, bits .or .i64 ((t : Nat) : Int) (IntKind.i64.wrap (2 ^ (c : Nat))) = (((t : Nat) ||| 2 ^ (c : Nat) : Nat) : Int) := by decide +kernel
  exact key ⟨t, ht⟩ ⟨c, hc⟩
theorem add_in (x y : Nat) (hx : x ≤ 1000000000) (hy : y ≤ 1000000000) : IntKind.i64.wrap ((x : Int) + y) = ((x + y : Nat) : Int) := by
  rw [show (x : Int) + y = ((x + y : Nat) : Int) by push_cast; rfl]
  exact IntWalk.i64_in _ (by omega)


end Go.Proofs.Ytakdiiccdkjjcaa
