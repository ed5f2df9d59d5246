/- Words for answers; bits counted; arrays of six. No condition. -/
import Derived.Test.YtmhlpaenfknofaaH
namespace Go.Proofs.Ytmhlpaenfknofaa
open Go.RowKit Go.WideShapes

/-- What a call answers that tells a number. -/
structure R1 where
  y : Int
  ok : Bool
def AnsIO (R : R1) (w : World) (e : Ending) (w' : World) : Prop := e = .returned (.tuple #[.int .i64 R.y, .bool R.ok]) ∧ Below w.heap.size w w'
/-- What a call answers that tells a list. -/
structure LR where
  ys : List Int
  ok : Bool
def AnsL (R : LR) (w : World) (e : Ending) (w' : World) : Prop := ∃ s, e = .returned (.tuple #[s, .bool R.ok]) ∧ Own w' w.heap.size s R.ys ∧ Below w.heap.size w w'

/-- How many bits a mask has. -/
def pop (x : Int) : Int := (((List.range 6).filter (fun b => x.toNat.testBit b)).length : Int)
def oc1 (n : Int) : Int := IntKind.u64.wrap (bits .and .u64 (n / 2) 6148914691236517205 + bits .and .u64 n 6148914691236517205)
def oc2 (n : Int) : Int := IntKind.u64.wrap (bits .and .u64 (oc1 n / 4) 3689348814741910323 + bits .and .u64 (oc1 n) 3689348814741910323)
def oc3 (n : Int) : Int := bits .and .u64 (IntKind.u64.wrap (oc2 n / 16 + oc2 n)) 1085102592571150095
def oc4 (n : Int) : Int := IntKind.u64.wrap (oc3 n + oc3 n / 256)
def oc5 (n : Int) : Int := IntKind.u64.wrap (oc4 n + oc4 n / 65536)
def oc6 (n : Int) : Int := IntKind.u64.wrap (oc5 n + oc5 n / 4294967296)
def oc (n : Int) : Int := bits .and .i64 (wrap64 (oc6 n)) 127
theorem oc_eq (n : Nat) (h : n < 64) : oc n = pop n := by
  have key : ∀ n : Fin 64, oc ((n : Nat) : Int) = pop ((n : Nat) : Int) := by decide +kernel
  exact key ⟨n, h⟩

theorem pop_bd (x : Int) : 0 ≤ pop x ∧ pop x ≤ 6 := by
  unfold pop
  have := List.length_filter_le (fun b => x.toNat.testBit b) (List.range 6)
  simp only [List.length_range] at this
  omega
end Go.Proofs.Ytmhlpaenfknofaa
