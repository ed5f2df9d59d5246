/- Rook numbers by a cell: the plain part. No condition. -/
import Derived.Test.YtakdiiccdkjjcabRp
import Derived.Test.YtakdiiccdkjjcabZ2
namespace Go.Proofs.Ytakdiiccdkjjcab
open Go.RowKit Go.WideShapes

/-- A board's cells without one. -/
def lessL (xs : List Int) (i j : Nat) : List Int := xs.set i (xs.getD i 0 - 2 ^ j)
theorem lessL_len (xs : List Int) (i j : Nat) : (lessL xs i j).length = xs.length := by simp [lessL]
theorem less_bd (x : Int) (j : Nat) (h : 0 ≤ x ∧ x < 64) (hj : j < 6) (hb : x.toNat.testBit j = true) : 0 ≤ x - 2 ^ j ∧ x - 2 ^ j < 64 ∧ bits .andNot .i64 x (wrap64 (2 ^ j)) = x - 2 ^ j ∧ IntKind.i64.wrap (x - wrap64 (2 ^ j)) = x - 2 ^ j ∧ wrap64 (x - wrap64 (2 ^ j)) = x - 2 ^ j := by
  obtain ⟨n, rfl⟩ := Int.eq_ofNat_of_zero_le h.1
  have key : ∀ n : Fin 64, ∀ j : Fin 6, ((n : Nat) : Int).toNat.testBit (j : Nat) = true → 0 ≤ ((n : Nat) : Int) - 2 ^ (j : Nat) ∧ ((n : Nat) : Int) - 2 ^ (j : Nat) < 64 ∧ bits .andNot .i64 ((n : Nat) : Int) (wrap64 (2 ^ (j : Nat))) = ((n : Nat) : Int) - 2 ^ (j : Nat) ∧ IntKind.i64.wrap (((n : Nat) : Int) - wrap64 (2 ^ (j : Nat))) = ((n : Nat) : Int) - 2 ^ (j : Nat) ∧ wrap64 (((n : Nat) : Int) - wrap64 (2 ^ (j : Nat))) = ((n : Nat) : Int) - 2 ^ (j : Nat) := by decide +kernel
  exact key ⟨n, by omega⟩ ⟨j, hj⟩ hb
theorem lessL_get (xs : List Int) (i j k : Nat) : (lessL xs i j).getD k 0 = if k = i ∧ i < xs.length then xs.getD i 0 - 2 ^ j else xs.getD k 0 := by
  unfold lessL
  by_cases e : k = i
  · subst e
    by_cases hl : k < xs.length
    · rw [if_pos ⟨rfl, hl⟩, List.getD_eq_getElem?_getD, List.getElem?_set_self hl]; rfl
    · rw [if_neg (fun h => hl h.2), List.set_eq_of_length_le (by omega)]
  · rw [if_neg (fun h => e h.1), List.getD_eq_getElem?_getD, List.getElem?_set_ne (fun h => e h.symm), ← List.getD_eq_getElem?_getD]
theorem lessL_cell (xs : List Int) (i j : Nat) (hc : ∀ k, 0 ≤ xs.getD k 0 ∧ xs.getD k 0 < 64) (hj : j < 6) (hb : (xs.getD i 0).toNat.testBit j = true) (k : Nat) : 0 ≤ (lessL xs i j).getD k 0 ∧ (lessL xs i j).getD k 0 < 64 := by
  rw [lessL_get]
  split
  · have := less_bd _ j (hc i) hj hb
    exact ⟨this.1, this.2.1⟩
  · exact hc k
theorem skv_bd (x : Int) (j m : Nat) (hm : m ≤ 6) : 0 ≤ skv x j m ∧ skv x j m < pw m ∧ skv x j m < 64 := by
  unfold skv
  have h1 := rowM_lt (fun c => x.toNat.testBit (sk c j)) m
  have h2 : 2 ^ m ≤ 2 ^ 6 := Nat.pow_le_pow_right (by omega) hm
  have h3 : pw (m : Int) = ((2 ^ m : Nat) : Int) := by unfold pw; simp
  rw [h3]
  omega
theorem strikeL_cell (xs : List Int) (i j m : Nat) (hm : m ≤ 6) (k : Nat) : 0 ≤ (strikeL xs i j m).getD k 0 ∧ (strikeL xs i j m).getD k 0 < 64 := by
  unfold strikeL
  rw [List.getD_eq_getElem?_getD, List.getElem?_map]
  cases h : (xs.eraseIdx i)[k]? with
  | none => simp
  | some x =>
    have := skv_bd x j m hm
    simp only [Option.map_some, Option.getD_some]
    omega
theorem strike_good (n m : Nat) (xs : List Int) (i j : Nat) (hl : xs.length = n + 1) (hi : i < xs.length) (hn : 1 ≤ n ∧ n ≤ 6) (hm : 1 ≤ m ∧ m ≤ 6) : goodB n m (strikeL xs i j m) = true := by
  have h1 : (strikeL xs i j m).length = n := by rw [strikeL_len _ _ _ _ hi]; omega
  simp only [goodB, Bool.and_eq_true, inB_iff, decide_eq_true_eq]
  refine ⟨by omega, by omega, by omega, ?_⟩
  rw [within, List.all_eq_true]
  intro x hx
  unfold strikeL at hx
  obtain ⟨y, _, rfl⟩ := List.mem_map.1 hx
  have := skv_bd y j m hm.2
  simp only [decide_eq_true_eq]
  omega
theorem wR_zero (m : Nat) (B : Nat → Nat → Bool) (d : Nat) : ∀ f t, wR m B d f t 0 = 1 := by
  induction d with
  | zero => intro f t; simp [wR]
  | succ d ih =>
    intro f t
    rw [wR, ih, sumN_range, sumN_congr _ (fun _ => 0) m (fun c _ => by unfold term; split <;> simp), sumN_zero]
theorem numL_one (n m : Nat) (B : Nat → Nat → Bool) (h : n = 0 ∨ m = 0) : numL n m B = [1] := by
  unfold numL
  rw [show min n m = 0 by omega]
  unfold lstL
  rw [show List.range (0 + 1) = [0] from rfl, List.map_cons, wR_zero]
  rfl

/-- What a call answers that tells two lists. -/
structure LL where
  ys0 : List Int
  ys1 : List Int
  ok : Bool
def AnsLL (R : LL) (w : World) (e : Ending) (w' : World) : Prop := ∃ s0, ∃ s1, e = .returned (.tuple #[s0, s1, .bool R.ok]) ∧ Own w' w.heap.size s0 R.ys0 ∧ Own w' w.heap.size s1 R.ys1 ∧ (∀ k, s0.ownBlock = some k → s1.ownBlock ≠ some k) ∧ Below w.heap.size w w'
def byB (r c : Int) (xs : List Int) (i j : Int) : LL := if placeB r c xs i j && bitB xs i j then ⟨numL r.toNat c.toNat (bt (lessL xs i.toNat j.toNat)), numL (r.toNat - 1) (c.toNat - 1) (bt (strikeL xs i.toNat j.toNat (c.toNat - 1))), true⟩ else ⟨[], [], false⟩
theorem byB_len (r c : Int) (xs : List Int) (i j : Int) : (byB r c xs i j).ys0.length ≤ 1048576 ∧ (byB r c xs i j).ys1.length ≤ 1048576 := by
  unfold byB
  split
  · rename_i h
    rw [Bool.and_eq_true, placeB, Bool.and_eq_true] at h
    have := good_facts h.1.1
    show (numL _ _ _).length ≤ _ ∧ (numL _ _ _).length ≤ _
    rw [numL_len, numL_len]
    omega
  · exact ⟨by simp, by simp⟩
theorem ansLL_no (w w' : World) (h : Below w.heap.size w w') : AnsLL ⟨[], [], false⟩ w (.returned (.tuple #[.slice none 0 0, .slice none 0 0, .bool false])) w' := ⟨_, _, rfl, Own.nil _ _, Own.nil _ _, (fun k e => by cases e), h⟩

end Go.Proofs.Ytakdiiccdkjjcab
