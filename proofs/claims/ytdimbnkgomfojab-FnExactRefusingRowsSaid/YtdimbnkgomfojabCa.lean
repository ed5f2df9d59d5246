/- By how many rows are more than their columns: the plain part. No condition but the sizes. -/
import Derived.Test.YtdimbnkgomfojabQw
import Derived.Test.YtdimbnkgomfojabQx
namespace Go.Proofs.Ytdimbnkgomfojab
open Go.RowKit

theorem sets_rows (n : Nat) (hn : n ≤ 6) : ∀ R ∈ sets n, ∀ r ∈ R, 0 ≤ r ∧ r < n := by
  have key : ∀ n : Fin 7, (sets (n : Nat)).all (fun R => R.all fun r => decide (0 ≤ r) && decide (r < (n : Nat))) = true := by decide +kernel
  intro R hR r hr
  have h := key ⟨n, by omega⟩
  rw [List.all_eq_true] at h
  have h2 := h R hR
  rw [List.all_eq_true] at h2
  have h3 := h2 r hr
  rw [Bool.and_eq_true, decide_eq_true_eq, decide_eq_true_eq] at h3
  exact h3
theorem sets_len (n : Nat) (hn : n ≤ 6) : 0 < (sets n).length ∧ (sets n).length ≤ 64 := by
  have key : ∀ n : Fin 7, 0 < (sets (n : Nat)).length ∧ (sets (n : Nat)).length ≤ 64 := by decide +kernel
  exact key ⟨n, by omega⟩
theorem sets_short (n : Nat) (hn : n ≤ 6) : ∀ R ∈ sets n, R.length ≤ 6 := by
  have key : ∀ n : Fin 7, (sets (n : Nat)).all (fun R => decide (R.length ≤ 6)) = true := by decide +kernel
  intro R hR
  have h := key ⟨n, by omega⟩
  rw [List.all_eq_true] at h
  simpa using h R hR
/-- By how many some rows are more than the columns of their cells. -/
def excS (xs : List Int) (n m : Nat) (R : List Int) : Int := (R.length : Int) - (colS xs n m R false).length
def lackU (xs : List Int) (n m k : Nat) : Int := ((sets n).take k).foldl (fun a R => max a (excS xs n m R)) 0
theorem lackU_succ (xs : List Int) (n m k : Nat) (R : List Int) (h : (sets n)[k]? = some R) : lackU xs n m (k + 1) = max (lackU xs n m k) (excS xs n m R) := by
  obtain ⟨hk, hR⟩ := List.getElem?_eq_some_iff.1 h
  unfold lackU
  rw [List.take_succ_eq_append_getElem hk, List.foldl_append, hR]
  rfl
theorem lackU_bd (xs : List Int) (n m k : Nat) (hn : n ≤ 6) : 0 ≤ lackU xs n m k ∧ lackU xs n m k ≤ 6 := by
  induction k with
  | zero => simp [lackU]
  | succ k ih =>
    cases h : (sets n)[k]? with
    | none =>
      have hk : (sets n).length ≤ k := List.getElem?_eq_none_iff.1 h
      have : lackU xs n m (k + 1) = lackU xs n m k := by unfold lackU; rw [List.take_of_length_le hk, List.take_of_length_le (by omega)]
      rw [this]
      exact ih
    | some R =>
      rw [lackU_succ xs n m k R h]
      have := sets_short n hn R (List.mem_of_getElem? h)
      unfold excS
      omega
def lackN (xs : List Int) (n m : Nat) : Int := lackU xs n m (sets n).length
theorem excS_pop (xs : List Int) (M : Nat → Int) (n m : Nat) (hm : m ≤ 6) (hf : fitM xs n m) (hM : ∀ k, k < n → M k = xs.getD k 0) (R : List Int) (hR : ∀ r ∈ R, 0 ≤ r ∧ r < n) : (R.length : Int) - pop (orM M R : Nat) = excS xs n m R := by
  unfold excS
  rw [← col_in xs M n m hm hf hM R hR, colsM_len]
/-- The rows at a place. -/
def setA (n j : Nat) : List Int := (sets n).getD j []
theorem setA_of {n j : Nat} {R : List Int} (h : (sets n)[j]? = some R) : setA n j = R := by
  unfold setA
  rw [List.getD_eq_getElem?_getD, h]
  rfl
def wantL (xs : List Int) (n m j : Nat) : Bool := decide (lackU xs n m j < excS xs n m (setA n j))
theorem wantL_no (xs : List Int) (n m j : Nat) (h : wantL xs n m j = false) : lackU xs n m (j + 1) = lackU xs n m j := by
  unfold wantL at h
  rw [decide_eq_false_iff_not] at h
  cases e : (sets n)[j]? with
  | none =>
    have hk : (sets n).length ≤ j := List.getElem?_eq_none_iff.1 e
    unfold lackU
    rw [List.take_of_length_le hk, List.take_of_length_le (by omega)]
  | some R =>
    rw [lackU_succ xs n m j R e]
    rw [setA_of e] at h
    omega
theorem wantL_yes (xs : List Int) (n m j : Nat) (R : List Int) (e : (sets n)[j]? = some R) (h : wantL xs n m j = true) : lackU xs n m (j + 1) = excS xs n m R := by
  unfold wantL at h
  rw [decide_eq_true_eq, setA_of e] at h
  rw [lackU_succ xs n m j R e]
  omega
theorem runW_all (cont : Nat → Bool) (h : ∀ j, cont j = true) (s : Nat) : runW cont s = (s, true) := by
  induction s with
  | zero => rfl
  | succ s ih => rw [runW, ih, if_pos rfl, h]
def lackR (r c : Int) (xs : List Int) : R1 := if goodB r c xs then ⟨lackN xs r.toNat c.toNat, true⟩ else ⟨0, false⟩

end Go.Proofs.Ytdimbnkgomfojab
