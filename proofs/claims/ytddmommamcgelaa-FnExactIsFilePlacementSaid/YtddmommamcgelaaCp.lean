/- Placements told apart and measured, in the specification of largest placements. No condition but the sizes. -/
import Derived.Test.YtddmommamcgelaaPb
import Derived.Test.YtddmommamcgelaaC
import Derived.Test.YtddmommamcgelaaMu
import Derived.Test.YtddmommamcgelaaPi
import Derived.Test.YtddmommamcgelaaI
import Derived.Test.YtddmommamcgelaaT3
import Derived.Test.YtddmommamcgelaaP
import Derived.BigRegion
import Derived.Deep.RegionHeld3
namespace Go.Proofs.Ytddmommamcgelaa
open Go.RowKit Go.WideShapes

theorem within_at (lo hi : Int) (P : List Int) (h : within lo hi P = true) (k : Nat) (hk : k < P.length) : lo ≤ P.getD k 0 ∧ P.getD k 0 ≤ hi := by
  rw [within, List.all_eq_true] at h
  have := h P[k] (List.getElem_mem hk)
  simpa [List.getD, hk] using this
theorem within_place (n m : Nat) (xs P : List Int) (hn : P.length = n) (h : within (-1) ((m : Int) - 1) P = false) : placeP n m xs P = false := by
  rw [within, List.all_eq_false] at h
  obtain ⟨x, hx, h⟩ := h
  obtain ⟨k, hk, rfl⟩ := List.mem_iff_getElem.1 hx
  have hg : P.getD k 0 = P[k] := by simp [List.getD, hk]
  have h2 : ¬ (-1 ≤ P[k] ∧ P[k] ≤ (m : Int) - 1) := by simpa using h
  rw [placeP, goodUp_no xs m P k n ?_ (by omega), Bool.and_false]
  rw [goodAt, hg, inB_no (by omega), beq_eq_false_iff_ne.2 (by omega)]
  rfl



/-- A placement behind the first steps of a way, and whether these steps are in its rows. -/
def wOut (W P : List Int) : Nat → List Int
  | 0 => P
  | t + 1 => (wOut W P t).set (W.getD (2 * t) 0).toNat (W.getD (2 * t + 1) 0)
def wOk (n : Nat) (W : List Int) : Nat → Bool
  | 0 => true
  | t + 1 => wOk n W t && inB 0 (W.getD (2 * t) 0) ((n : Int) - 1)
theorem wOut_len (W P : List Int) (t : Nat) : (wOut W P t).length = P.length := by
  induction t with
  | zero => rfl
  | succ t ih => rw [wOut, List.length_set, ih]
theorem wOk_no (n : Nat) (W : List Int) (t T : Nat) (h : inB 0 (W.getD (2 * t) 0) ((n : Int) - 1) = false) (ht : t < T) : wOk n W T = false := by
  induction T with
  | zero => omega
  | succ T ih =>
    rw [wOk]
    by_cases e : t = T
    · subst e; rw [h, Bool.and_false]
    · rw [ih (by omega), Bool.false_and]
def lenW (W : List Int) : Bool := decide (W.length % 2 = 0) && inB 2 W.length 12
def wayR (r c : Int) (xs P W : List Int) : LR :=
  if goodB r c xs && (placeP r.toNat c.toNat xs P && (lenW W && (wOk r.toNat W (W.length / 2) && (placeP r.toNat c.toNat xs (wOut W P (W.length / 2)) && decide (rcnt P < rcnt (wOut W P (W.length / 2))))))) then ⟨wOut W P (W.length / 2), true⟩ else ⟨[], false⟩
theorem wayR_len (r c : Int) (xs P W : List Int) : (wayR r c xs P W).ys.length ≤ 1048576 := by
  unfold wayR
  split
  · rename_i h
    simp only [Bool.and_eq_true] at h
    have := good_facts h.1
    have h2 := h.2.1
    rw [placeP, Bool.and_eq_true, decide_eq_true_eq] at h2
    show (wOut W P (W.length / 2)).length ≤ _
    rw [wOut_len]
    omega
  · simp


end Go.Proofs.Ytddmommamcgelaa
