/- Words for answers; bits counted; arrays of six. No condition. -/
import Derived.Test.YtmhlpaenfknofabH
namespace Go.Proofs.Ytmhlpaenfknofab
open Go.RowKit Go.WideShapes

/-- What a call answers that tells a number. -/
structure R1 where
  y : Int
  ok : Bool
def AnsIO (R : R1) (w : World) (e : Ending) (w' : World) : Prop := e = .returned (.tuple #[.int .i64 R.y, .bool R.ok]) ∧ Below w.heap.size w w'
/-- What a call answers that tells a list. -/
structure LR where
  ys : List Int
  ok : Bool
def AnsL (R : LR) (w : World) (e : Ending) (w' : World) : Prop := ∃ s, e = .returned (.tuple #[s, .bool R.ok]) ∧ Own w' w.heap.size s R.ys ∧ Below w.heap.size w w'

/-- How many bits a mask has. -/
def pop (x : Int) : Int := (((List.range 6).filter (fun b => x.toNat.testBit b)).length : Int)
def oc1 (n : Int) : Int := IntKind.u64.wrap (bits .and .u64 (n / 2) 6148914691236517205 + bits .and .u64 n 6148914691236517205)
def oc2 (n : Int) : Int := IntKind.u64.wrap (bits .and .u64 (oc1 n / 4) 3689348814741910323 + bits .and .u64 (oc1 n) 3689348814741910323)
def oc3 (n : Int) : Int := bits .and .u64 (IntKind.u64.wrap (oc2 n / 16 + oc2 n)) 1085102592571150095
def oc4 (n : Int) : Int := IntKind.u64.wrap (oc3 n + oc3 n / 256)
def oc5 (n : Int) : Int := IntKind.u64.wrap (oc4 n + oc4 n / 65536)
def oc6 (n : Int) : Int := IntKind.u64.wrap (oc5 n + oc5 n / 4294967296)
def oc (n : Int) : Int := bits .and .i64 (wrap64 (oc6 n)) 127
theorem oc_eq (n : Nat) (h : n < 64) : oc n = pop n := by
  have key : ∀ n : Fin 64, oc ((n : Nat) : Int) = pop ((n : Nat) : Int) := by decide +kernel
  exact key ⟨n, h⟩

set_option maxHeartbeats 1600000 in
theorem ones64_any (n : Nat) (w : World) (hn : n < 64) :
    Calls Try.prog 127 #[.int .u64 n] w fun e w' => e = .returned (.int .i64 (pop n)) ∧ w = w' := by
  have h0 : 0 ≤ (n : Int) := by omega
  have h1 : (n : Int) < 64 := by omega
  go_enter Try.func127, Try.ntmps127
  go_wp2
  go_ret
  exact ⟨ret_int (oc_eq n hn), rfl⟩
set_option maxHeartbeats 800000 in
theorem ones_any (n : Nat) (w : World) (hn : n < 64) :
    Calls Try.prog 111 #[.int .u64 n] w fun e w' => e = .returned (.int .i64 (pop n)) ∧ w = w' := by
  go_enter Try.func111, Try.ntmps111
  go_wp2_with fail
  refine (ones64_any n w hn).mono ?_
  rintro e w' ⟨rfl, rfl⟩
  go_wp2_with fail
  go_ret
  exact ⟨rfl, rfl⟩
theorem pop_bd (x : Int) : 0 ≤ pop x ∧ pop x ≤ 6 := by
  unfold pop
  have := List.length_filter_le (fun b => x.toNat.testBit b) (List.range 6)
  simp only [List.length_range] at this
  omega
theorem ix6a (x0 x1 x2 x3 x4 x5 : Int) (W : World) : (Instr.index 72 (.agg #[.int .i64 x0, .int .i64 x1, .int .i64 x2, .int .i64 x3, .int .i64 x4, .int .i64 x5]) (.int .i64 0)).run Try.prog W = .ok (.int .i64 x0) W := by kernel_rfl
theorem ix6b (x0 x1 x2 x3 x4 x5 : Int) (W : World) : (Instr.index 72 (.agg #[.int .i64 x0, .int .i64 x1, .int .i64 x2, .int .i64 x3, .int .i64 x4, .int .i64 x5]) (.int .i64 1)).run Try.prog W = .ok (.int .i64 x1) W := by kernel_rfl
theorem ix6c (x0 x1 x2 x3 x4 x5 : Int) (W : World) : (Instr.index 72 (.agg #[.int .i64 x0, .int .i64 x1, .int .i64 x2, .int .i64 x3, .int .i64 x4, .int .i64 x5]) (.int .i64 2)).run Try.prog W = .ok (.int .i64 x2) W := by kernel_rfl
theorem ix6d (x0 x1 x2 x3 x4 x5 : Int) (W : World) : (Instr.index 72 (.agg #[.int .i64 x0, .int .i64 x1, .int .i64 x2, .int .i64 x3, .int .i64 x4, .int .i64 x5]) (.int .i64 3)).run Try.prog W = .ok (.int .i64 x3) W := by kernel_rfl
theorem ix6e (x0 x1 x2 x3 x4 x5 : Int) (W : World) : (Instr.index 72 (.agg #[.int .i64 x0, .int .i64 x1, .int .i64 x2, .int .i64 x3, .int .i64 x4, .int .i64 x5]) (.int .i64 4)).run Try.prog W = .ok (.int .i64 x4) W := by kernel_rfl
theorem ix6f (x0 x1 x2 x3 x4 x5 : Int) (W : World) : (Instr.index 72 (.agg #[.int .i64 x0, .int .i64 x1, .int .i64 x2, .int .i64 x3, .int .i64 x4, .int .i64 x5]) (.int .i64 5)).run Try.prog W = .ok (.int .i64 x5) W := by kernel_rfl
/-- The value at an index of an array of six. -/
theorem ix6 (M : Nat → Int) (k : Nat) (hk : k < 6) (W : World) : (Instr.index 72 (.agg #[.int .i64 (M 0), .int .i64 (M 1), .int .i64 (M 2), .int .i64 (M 3), .int .i64 (M 4), .int .i64 (M 5)]) (.int .i64 k)).run Try.prog W = .ok (.int .i64 (M k)) W := by
  match k, hk with
  | 0, _ => exact ix6a _ _ _ _ _ _ W
  | 1, _ => exact ix6b _ _ _ _ _ _ W
  | 2, _ => exact ix6c _ _ _ _ _ _ W
  | 3, _ => exact ix6d _ _ _ _ _ _ W
  | 4, _ => exact ix6e _ _ _ _ _ _ W
  | 5, _ => exact ix6f _ _ _ _ _ _ W

end Go.Proofs.Ytmhlpaenfknofab
