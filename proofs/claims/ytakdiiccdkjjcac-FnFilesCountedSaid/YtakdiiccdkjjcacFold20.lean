import Derived.Test.YtakdiiccdkjjcacFold7
import Derived.Test.YtakdiiccdkjjcacFold18
import Derived.Test.YtakdiiccdkjjcacFold6
namespace Go.Proofs.Ytakdiiccdkjjcac
open Go.RowKit Go.WideShapes

/-- Is a number in a list? -/
def hasI (xs : List Int) (c : Int) : Bool := xs.contains c
theorem hasI_iff {xs : List Int} {c : Int} : hasI xs c = true ↔ c ∈ xs := by unfold hasI; simp
theorem hasI_no {xs : List Int} {c : Int} : hasI xs c = false ↔ c ∉ xs := by rw [← Bool.not_eq_true, hasI_iff]
theorem hasI_nil (c : Int) : hasI [] c = false := rfl
theorem hasI_snoc (l : List Int) (y c : Int) : hasI (l ++ [y]) c = (hasI l c || y == c) := by
  rw [Bool.eq_iff_iff, Bool.or_eq_true, hasI_iff, hasI_iff, beq_iff_eq, List.mem_append, List.mem_singleton]
  exact ⟨fun h => h.imp id Eq.symm, fun h => h.imp id Eq.symm⟩
theorem take_snoc (xs : List Int) (k : Nat) (hk : k < xs.length) : xs.take (k + 1) = xs.take k ++ [xs.getD k 0] := by
  rw [List.take_succ_eq_append_getElem hk]
  simp [List.getD, hk]

/-- Is the number at j one for the row j, the ones before it being there? -/
def goodAt (xs : List Int) (m : Nat) (P : List Int) (j : Nat) : Bool :=
  (P.getD j 0 == -1) || (inB 0 (P.getD j 0) ((m : Int) - 1) && ((xs.getD j 0).toNat.testBit (P.getD j 0).toNat && !hasI (P.take j) (P.getD j 0)))
def goodUp (xs : List Int) (m : Nat) (P : List Int) : Nat → Bool
  | 0 => true
  | k + 1 => goodUp xs m P k && goodAt xs m P k
theorem goodUp_no (xs : List Int) (m : Nat) (P : List Int) (k n : Nat) (h : goodAt xs m P k = false) (hk : k < n) : goodUp xs m P n = false := by
  induction n with
  | zero => omega
  | succ n ih =>
    rw [goodUp]
    by_cases e : k = n
    · subst e; rw [h, Bool.and_false]
    · rw [ih (by omega), Bool.false_and]
theorem goodUp_at (xs : List Int) (m : Nat) (P : List Int) (n k : Nat) (h : goodUp xs m P n = true) (hk : k < n) : goodAt xs m P k = true := by
  induction n with
  | zero => omega
  | succ n ih =>
    rw [goodUp, Bool.and_eq_true] at h
    by_cases e : k = n
    · subst e; exact h.2
    · exact ih h.1 (by omega)
/-- A placement? -/
def placeP (n m : Nat) (xs P : List Int) : Bool := decide (P.length = n) && goodUp xs m P n

/-- The columns of the first rooks, as a set. -/
def tkn (P : List Int) : Nat → Nat
  | 0 => 0
  | k + 1 => if P.getD k 0 = -1 then tkn P k else tkn P k ||| 2 ^ (P.getD k 0).toNat
theorem or_put (t c d : Nat) (ht : t < 64) (hc : c < 6) (hd : d < 6) : (t ||| 2 ^ c).testBit d = (t.testBit d || decide (c = d)) := by
  have key : ∀ t : Fin 64, ∀ c : Fin 6, ∀ d : Fin 6, ((t : Nat) ||| 2 ^ (c : Nat)).testBit d = ((t : Nat).testBit d || decide ((c : Nat) = d)) := by decide +kernel
  exact key ⟨t, ht⟩ ⟨c, hc⟩ ⟨d, hd⟩
theorem good_col {xs : List Int} {m : Nat} {P : List Int} {j : Nat} (h : goodAt xs m P j = true) (he : P.getD j 0 ≠ -1) : 0 ≤ P.getD j 0 ∧ P.getD j 0 < m ∧ (xs.getD j 0).toNat.testBit (P.getD j 0).toNat = true ∧ P.getD j 0 ∉ P.take j := by
  unfold goodAt at h
  rw [Bool.or_eq_true, beq_iff_eq] at h
  rcases h with h | h
  · exact absurd h he
  · rw [Bool.and_eq_true, inB_iff, Bool.and_eq_true, Bool.not_eq_true'] at h
    refine ⟨h.1.1, by omega, h.2.1, ?_⟩
    exact hasI_no.1 h.2.2
theorem tkn_lt (xs : List Int) (m : Nat) (hm : m ≤ 6) (P : List Int) (k : Nat) (h : goodUp xs m P k = true) : tkn P k < 64 := by
  induction k with
  | zero => simp [tkn]
  | succ k ih =>
    rw [goodUp, Bool.and_eq_true] at h
    have := ih h.1
    rw [tkn]
    split
    · exact this
    · rename_i he
      obtain ⟨h1, h2, _⟩ := good_col h.2 he
      exact Nat.or_lt_two_pow (n := 6) this (Nat.pow_lt_pow_right (by omega) (by omega))
theorem tkn_mem (xs : List Int) (m : Nat) (hm : m ≤ 6) (P : List Int) (k : Nat) (hk : k ≤ P.length) (h : goodUp xs m P k = true) (c : Nat) (hc : c < 6) : (tkn P k).testBit c = hasI (P.take k) (c : Int) := by
  induction k with
  | zero => simp [tkn, hasI]
  | succ k ih =>
    have h' := h
    rw [goodUp, Bool.and_eq_true] at h
    have hlt := tkn_lt xs m hm P k h.1
    rw [tkn, take_snoc P k (by omega), hasI_snoc]
    split
    · rename_i he
      have h3 : ((-1 : Int) == (c : Int)) = false := by rw [beq_eq_false_iff_ne]; omega
      rw [ih (by omega) h.1, he, h3, Bool.or_false]
    · rename_i he
      obtain ⟨h1, h2, _⟩ := good_col h.2 he
      obtain ⟨d, hd⟩ := Int.eq_ofNat_of_zero_le h1
      rw [hd] at h2 ⊢
      rw [show ((d : Int)).toNat = d by simp, or_put _ _ _ hlt (by omega) hc, ih (by omega) h.1]
      by_cases e : d = c
      · subst e; simp
      · have h3 : (c : Int) ≠ d := by omega
        have h4 : ((d : Int) == (c : Int)) = false := by rw [beq_eq_false_iff_ne]; omega
        rw [h4]
        simp [e]
/-- The places of a list: what is laid for each of the six rows. -/
def plF (P : List Int) (k : Nat) (j : Nat) : Int := if j < k then P.getD j 0 else -1
/-- The cells of an array of six. -/
def pl6 (f : Nat → Int) : List Value := [.int .i64 (f 0), .int .i64 (f 1), .int .i64 (f 2), .int .i64 (f 3), .int .i64 (f 4), .int .i64 (f 5)]
abbrev pv6 (f : Nat → Int) : Value := .agg #[.int .i64 (f 0), .int .i64 (f 1), .int .i64 (f 2), .int .i64 (f 3), .int .i64 (f 4), .int .i64 (f 5)]
theorem pl6_get (f : Nat → Int) (i : Nat) (h : i < 6) : (pl6 f)[i]? = some (.int .i64 (f i)) := by
  have : i = 0 ∨ i = 1 ∨ i = 2 ∨ i = 3 ∨ i = 4 ∨ i = 5 := by omega
  rcases this with rfl | rfl | rfl | rfl | rfl | rfl <;> rfl
theorem pl6_set (f g : Nat → Int) (i : Nat) (h : i < 6) (x : Int) (hx : g i = x) (hg : ∀ k, k < 6 → k ≠ i → g k = f k) : (pl6 f).set i (.int .i64 x) = pl6 g := by
  have : i = 0 ∨ i = 1 ∨ i = 2 ∨ i = 3 ∨ i = 4 ∨ i = 5 := by omega
  subst hx
  rcases this with rfl | rfl | rfl | rfl | rfl | rfl <;> simp [pl6, hg]
theorem pl6_congr (f g : Nat → Int) (h : ∀ k, k < 6 → f k = g k) : pl6 f = pl6 g := by simp [pl6, h]
theorem Has.six {w : World} {b : Nat} {v0 v1 v2 v3 v4 v5 : Value} {t : TypeId} (h : Has w b [v0, v1, v2, v3, v4, v5] t) :
    w.cell? ⟨b, 0, none⟩ = some v0 ∧ w.cell? ⟨b, 1, none⟩ = some v1 ∧ w.cell? ⟨b, 2, none⟩ = some v2 ∧ w.cell? ⟨b, 3, none⟩ = some v3 ∧ w.cell? ⟨b, 4, none⟩ = some v4 ∧ w.cell? ⟨b, 5, none⟩ = some v5 ∧ ∀ o, w.frozen? ⟨b, o, none⟩ = false :=
  ⟨h.cell 0, h.cell 1, h.cell 2, h.cell 3, h.cell 4, h.cell 5, h.free⟩
theorem Reads.take {w : World} {a : Option Addr} {zs : List Int} (h : Reads w a zs.length zs) (k : Nat) (hk : k ≤ zs.length) : Reads w a k (zs.take k) := by
  refine ⟨by simp [hk], ?_⟩
  by_cases h0 : k = 0
  · exact .inl h0
  · obtain ⟨b, off, e, hb, hc⟩ := reads_row h (by omega)
    refine .inr ⟨b, off, e, hb, fun j hj => ?_⟩
    rw [hc j (by omega)]
    simp [List.getD, hj]

end Go.Proofs.Ytakdiiccdkjjcac
