/- Whether a board has a cell, in both texts. No condition but the sizes. -/
import Derived.Test.YtmhlpaenfknofaaG2
import Derived.Test.YtmhlpaenfknofaaE
namespace Go.Proofs.Ytmhlpaenfknofaa
open Go.RowKit Go.WideShapes

/-- Is there a place? -/
def insB (r c i j : Int) : Bool := decide (0 ≤ i ∧ i < r ∧ 0 ≤ j ∧ j < c)
theorem insB_iff {r c i j : Int} : insB r c i j = true ↔ 0 ≤ i ∧ i < r ∧ 0 ≤ j ∧ j < c := by simp [insB]
theorem insB_no {r c i j : Int} (h : ¬ (0 ≤ i ∧ i < r ∧ 0 ≤ j ∧ j < c)) : insB r c i j = false := by simp only [insB, decide_eq_false_iff_not]; exact h

/-- A grid as a value. -/
abbrev gv (r c : Int) (m : Nat → Int) : Value := .agg #[.int .i64 r, .int .i64 c, .int .i64 (m 0), .int .i64 (m 1), .int .i64 (m 2), .int .i64 (m 3), .int .i64 (m 4), .int .i64 (m 5)]

/-- What a good board is. -/
theorem good_facts {r c : Int} {xs : List Int} (h : goodB r c xs = true) : (1 ≤ r ∧ r ≤ 6) ∧ (1 ≤ c ∧ c ≤ 6) ∧ (xs.length : Int) = r ∧ ∀ k, k < xs.length → 0 ≤ xs.getD k 0 ∧ xs.getD k 0 < pw c := by
  simp only [goodB, Bool.and_eq_true, inB_iff, decide_eq_true_eq] at h
  obtain ⟨h1, h2, h3, h4⟩ := h
  refine ⟨h1, h2, h3, fun k hk => ?_⟩
  rw [within, List.all_eq_true] at h4
  have := h4 (xs.getD k 0) (by simp [List.getD, hk])
  simp only [decide_eq_true_eq] at this
  omega
theorem pw_mono64 {c : Int} (h : 1 ≤ c ∧ c ≤ 6) : pw c ≤ 64 := (pw_bd (c := c) (by omega)).2.1
theorem good_cell {r c : Int} {xs : List Int} (h : goodB r c xs = true) (k : Nat) : 0 ≤ xs.getD k 0 ∧ xs.getD k 0 < 64 := by
  obtain ⟨h1, h2, h3, h4⟩ := good_facts h
  by_cases hk : k < xs.length
  · have := h4 k hk
    have := pw_mono64 h2
    omega
  · simp [List.getD, List.getElem?_eq_none (Nat.le_of_not_lt hk)]

/-- The place's bit. -/
def bitB (xs : List Int) (i j : Int) : Bool := (xs.getD i.toNat 0).toNat.testBit j.toNat

/-- What HasCell answers. -/
structure R2 where
  b : Bool
  ok : Bool
def hasB (r c : Int) (xs : List Int) (i j : Int) : R2 := if goodB r c xs && insB r c i j then ⟨bitB xs i j, true⟩ else ⟨false, false⟩
def AnsOO (R : R2) (w : World) (e : Ending) (w' : World) : Prop := e = .returned (.tuple #[.bool R.b, .bool R.ok]) ∧ Below w.heap.size w w'

/-- A contract that answers a Bool, at that Bool, where memory may be made. -/
theorem at_boolB {P : Program} {f : FuncId} {args : Array Value} {b c : Bool} {w : World} (h : Calls P f args w fun e w' => e = .returned (.bool b) ∧ Below w.heap.size w w') (e : b = c) : Calls P f args w fun e w' => e = .returned (.bool c) ∧ Below w.heap.size w w' := by
  subst e
  exact h

def placeB (r c : Int) (xs : List Int) (i j : Int) : Bool := goodB r c xs && insB r c i j

theorem bit_mod (x : Int) (j : Nat) (h : 0 ≤ x ∧ x < 64) (hj : j < 6) : ((x / 2 ^ j).tmod 2 == 1) = x.toNat.testBit j := by
  obtain ⟨n, rfl⟩ := Int.eq_ofNat_of_zero_le h.1
  have hn : n < 64 := by omega
  have key : ∀ n : Fin 64, ∀ j : Fin 6, ((((n : Nat) : Int) / 2 ^ (j : Nat)).tmod 2 == 1) = (n : Nat).testBit j := by decide +kernel
  exact key ⟨n, hn⟩ ⟨j, hj⟩

end Go.Proofs.Ytmhlpaenfknofaa
