import Derived.Test.YtdimbnkgomfojabFold13
import Derived.Test.YtdimbnkgomfojabFold14
import Derived.Test.YtdimbnkgomfojabFold4
import Derived.Test.YtdimbnkgomfojabFold5
import Derived.Test.YtdimbnkgomfojabFold11

section
namespace Go.Proofs.Ytdimbnkgomfojab
open Go.RowKit Go.WideShapes

theorem shK_eq (xs : List Int) (L N : Nat) (hL : L ≤ N) (h0 : ∀ j, L ≤ j → j < N → xs.getD j 0 = 0) (h1 : 0 < L → xs.getD (L - 1) 0 ≠ 0) : shK xs N = L := by
  induction N with
  | zero => rw [shK]; omega
  | succ N ih =>
    rw [shK]
    by_cases e : L = N + 1
    · subst e
      have h2 := h1 (by omega)
      rw [Nat.add_sub_cancel] at h2
      rw [if_neg h2]
    · rw [if_pos (h0 N (by omega) (by omega)), ih (by omega) (fun j a b => h0 j a (by omega))]
set_option maxRecDepth 100000 in
set_option maxHeartbeats 1600000 in
theorem mostRooks_any (n m : Nat) (M : Nat → Int) (w : World) (hn : n ≤ 6) (hm : m ≤ 6) (hgc : ∀ k, k < 6 → 0 ≤ M k ∧ M k < 64) :
    Calls Try.prog 66 #[gv n m M] w fun e w' => e = .returned (.int .i64 ((shK (numL n m (bM M)) (min n m + 1) : Int) - 1)) ∧ Below w.heap.size w w' := by
  have L0 := (Law.start w).has (gl n m M) 68
  have hn := fun W => rookNumbers_any n m M W hn hm hgc
  have hd : lstL (min n m + 1) (wR m (bM M) n 0 0) = numL n m (bM M) := rfl
  rw [hd] at hn
  have HN := Lib.hid hn
  have HK := Lib.hid (numL_len n m (bM M))
  have HL := Lib.hid L0
  have hq6 : min n m ≤ 6 := by omega
  have hsk := shK_le (numL n m (bM M)) (min n m + 1)
  clear hgc hn hd L0
  generalize numL n m (bM M) = ys at *
  generalize min n m = q at *
  go_enter Try.func66, Try.ntmps66
  go_wp2_with fail
  refine (HN.out _).mono ?_
  rintro e w2 ⟨g, p, rfl, hO, hb⟩
  · have hqp := hO.capLe
    have HB := Lib.hid (HL.out.kept hb).below
    clear HL hb
    go_wp2_with fail
    refine (withoutLast_any g (q + 1) p ys _ (by omega) hqp HK.out _ hO).mono ?_
    rintro e w' ⟨rfl, rfl⟩
    clear hO
    go_wp2_with fail
    go_ret
    exact ⟨rfl, HB.out⟩
end Go.Proofs.Ytdimbnkgomfojab
end

section
namespace Go.Proofs.Ytdimbnkgomfojab
open Go.RowKit

def plusAt (l : List Int) (p : Nat) (v : Int) : List Int := l.set p (l.getD p 0 + v)
theorem plusAt_len (l : List Int) (p : Nat) (v : Int) : (plusAt l p v).length = l.length := by simp [plusAt]
def Bd (K : Int) (l : List Int) : Prop := ∀ p, 0 ≤ l.getD p 0 ∧ l.getD p 0 ≤ K
theorem Bd.plus {K V : Int} {l : List Int} (h : Bd K l) (p : Nat) (v : Int) (h0 : 0 ≤ v) (h1 : v ≤ V) : Bd (K + V) (plusAt l p v) := by
  intro q
  have hq := h q
  have hp := h p
  unfold plusAt
  by_cases e : p = q
  · subst e
    by_cases hl : p < l.length
    · rw [List.getD_eq_getElem?_getD, List.getElem?_set_self (by exact hl)]
      simp only [Option.getD_some]
      omega
    · rw [List.set_eq_of_length_le (by omega)]
      omega
  · have : (l.set p (l.getD p 0 + v)).getD q 0 = l.getD q 0 := by
      rw [List.getD_eq_getElem?_getD, List.getElem?_set_ne e, ← List.getD_eq_getElem?_getD]
    rw [this]
    omega
theorem Bd.mono {K K' : Int} {l : List Int} (h : Bd K l) (hk : K ≤ K') : Bd K' l := fun p => ⟨(h p).1, by have := (h p).2; omega⟩
/-- One row of the product. -/
def rowP (z : List Int) (x : Int) (i : Nat) (b : List Int) : Nat → List Int
  | 0 => z
  | j + 1 => plusAt (rowP z x i b j) (i + j) (x * b.getD j 0)
theorem rowP_len (z : List Int) (x : Int) (i : Nat) (b : List Int) (j : Nat) : (rowP z x i b j).length = z.length := by
  induction j with
  | zero => rfl
  | succ j ih => rw [rowP, plusAt_len, ih]
/-- The first rows of the product. -/
def allP (a b : List Int) : Nat → List Int
  | 0 => List.replicate (a.length + b.length - 1) 0
  | i + 1 => rowP (allP a b i) (a.getD i 0) i b b.length
theorem allP_len (a b : List Int) (i : Nat) : (allP a b i).length = a.length + b.length - 1 := by
  induction i with
  | zero => simp [allP]
  | succ i ih => rw [allP, rowP_len, ih]
theorem mul_bd (x y : Int) (hx : 0 ≤ x ∧ x ≤ 100000) (hy : 0 ≤ y ∧ y ≤ 100000) : 0 ≤ x * y ∧ x * y ≤ 10000000000 := by
  refine ⟨Int.mul_nonneg hx.1 hy.1, ?_⟩
  have := Int.mul_le_mul hx.2 hy.2 hy.1 (by decide)
  omega
theorem rowP_bd (z : List Int) (x : Int) (i : Nat) (b : List Int) (K : Int) (hz : Bd K z) (hx : 0 ≤ x ∧ x ≤ 100000) (hb : ∀ j, 0 ≤ b.getD j 0 ∧ b.getD j 0 ≤ 100000) (j : Nat) : Bd (K + j * 10000000000) (rowP z x i b j) := by
  induction j with
  | zero => exact hz.mono (by simp)
  | succ j ih =>
    have h := mul_bd x _ hx (hb j)
    exact (ih.plus (i + j) _ h.1 h.2).mono (by push_cast; omega)
theorem allP_bd (a b : List Int) (hb7 : b.length ≤ 7) (ha : ∀ j, 0 ≤ a.getD j 0 ∧ a.getD j 0 ≤ 100000) (hb : ∀ j, 0 ≤ b.getD j 0 ∧ b.getD j 0 ≤ 100000) (i : Nat) : Bd (i * 70000000000) (allP a b i) := by
  induction i with
  | zero =>
    intro p
    have : (List.replicate (a.length + b.length - 1) (0 : Int)).getD p 0 = 0 := by
      simp only [List.getD_eq_getElem?_getD, List.getElem?_replicate]
      split <;> rfl
    simp only [allP, this]
    simp
  | succ i ih => exact (rowP_bd _ _ i b _ ih (ha i) hb b.length).mono (by push_cast; omega)
theorem within_get {lo hi : Int} {xs : List Int} (h : within lo hi xs = true) (h0 : lo ≤ 0 ∧ 0 ≤ hi) (j : Nat) : lo ≤ xs.getD j 0 ∧ xs.getD j 0 ≤ hi := by
  by_cases hj : j < xs.length
  · rw [within, List.all_eq_true] at h
    have := h (xs.getD j 0) (by simp [List.getD, hj])
    simpa using this
  · rw [List.getD_eq_getElem?_getD, List.getElem?_eq_none (by omega)]
    exact h0
/-- May a list be multiplied? -/
def facB (xs : List Int) : Bool := inB 1 xs.length 7 && within 0 100000 xs
theorem facB_facts {xs : List Int} (h : facB xs = true) : (1 ≤ xs.length ∧ xs.length ≤ 7) ∧ ∀ j, 0 ≤ xs.getD j 0 ∧ xs.getD j 0 ≤ 100000 := by
  rw [facB, Bool.and_eq_true, inB_iff] at h
  exact ⟨by omega, within_get h.2 (by decide)⟩

/-- Rooks: numbers that are none below 0. -/
def rcnt (xs : List Int) : Nat := (xs.filter (fun x => decide (0 ≤ x))).length
theorem rcnt_le (xs : List Int) : rcnt xs ≤ xs.length := List.length_filter_le _ _
theorem rcnt_succ (xs : List Int) (k : Nat) (h : k < xs.length) : rcnt (xs.take (k + 1)) = rcnt (xs.take k) + if 0 ≤ xs.getD k 0 then 1 else 0 := by
  rw [List.take_succ_eq_append_getElem h, rcnt, List.filter_append, List.length_append]
  have e : xs.getD k 0 = xs[k] := by simp [List.getD, h]
  rw [e]
  unfold rcnt
  by_cases h2 : 0 ≤ xs[k] <;> simp [h2]
end Go.Proofs.Ytdimbnkgomfojab
end

section
namespace Go.Proofs.Ytdimbnkgomfojab
open Go.RowKit Go.WideShapes

/-- Is a number in a list? -/
def hasI (xs : List Int) (c : Int) : Bool := xs.contains c
theorem hasI_iff {xs : List Int} {c : Int} : hasI xs c = true ↔ c ∈ xs := by unfold hasI; simp
theorem hasI_no {xs : List Int} {c : Int} : hasI xs c = false ↔ c ∉ xs := by rw [← Bool.not_eq_true, hasI_iff]
theorem hasI_nil (c : Int) : hasI [] c = false := rfl
theorem hasI_snoc (l : List Int) (y c : Int) : hasI (l ++ [y]) c = (hasI l c || y == c) := by
  rw [Bool.eq_iff_iff, Bool.or_eq_true, hasI_iff, hasI_iff, beq_iff_eq, List.mem_append, List.mem_singleton]
  exact ⟨fun h => h.imp id Eq.symm, fun h => h.imp id Eq.symm⟩
theorem take_snoc (xs : List Int) (k : Nat) (hk : k < xs.length) : xs.take (k + 1) = xs.take k ++ [xs.getD k 0] := by
  rw [List.take_succ_eq_append_getElem hk]
  simp [List.getD, hk]

/-- Is the number at j one for the row j, the ones before it being there? -/
def goodAt (xs : List Int) (m : Nat) (P : List Int) (j : Nat) : Bool :=
  (P.getD j 0 == -1) || (inB 0 (P.getD j 0) ((m : Int) - 1) && ((xs.getD j 0).toNat.testBit (P.getD j 0).toNat && !hasI (P.take j) (P.getD j 0)))
def goodUp (xs : List Int) (m : Nat) (P : List Int) : Nat → Bool
  | 0 => true
  | k + 1 => goodUp xs m P k && goodAt xs m P k
theorem goodUp_no (xs : List Int) (m : Nat) (P : List Int) (k n : Nat) (h : goodAt xs m P k = false) (hk : k < n) : goodUp xs m P n = false := by
  induction n with
  | zero => omega
  | succ n ih =>
    rw [goodUp]
    by_cases e : k = n
    · subst e; rw [h, Bool.and_false]
    · rw [ih (by omega), Bool.false_and]
theorem goodUp_at (xs : List Int) (m : Nat) (P : List Int) (n k : Nat) (h : goodUp xs m P n = true) (hk : k < n) : goodAt xs m P k = true := by
  induction n with
  | zero => omega
  | succ n ih =>
    rw [goodUp, Bool.and_eq_true] at h
    by_cases e : k = n
    · subst e; exact h.2
    · exact ih h.1 (by omega)
/-- A placement? -/
def placeP (n m : Nat) (xs P : List Int) : Bool := decide (P.length = n) && goodUp xs m P n

/-- The columns of the first rooks, as a set. -/
def tkn (P : List Int) : Nat → Nat
  | 0 => 0
  | k + 1 => if P.getD k 0 = -1 then tkn P k else tkn P k ||| 2 ^ (P.getD k 0).toNat
theorem or_put (t c d : Nat) (ht : t < 64) (hc : c < 6) (hd : d < 6) : (t ||| 2 ^ c).testBit d = (t.testBit d || decide (c = d)) := by
  have key : ∀ t : Fin 64, ∀ c : Fin 6, ∀ d : Fin 6, ((t : Nat) ||| 2 ^ (c : Nat)).testBit d = ((t : Nat).testBit d || decide ((c : Nat) = d)) := by decide +kernel
  exact key ⟨t, ht⟩ ⟨c, hc⟩ ⟨d, hd⟩
theorem good_col {xs : List Int} {m : Nat} {P : List Int} {j : Nat} (h : goodAt xs m P j = true) (he : P.getD j 0 ≠ -1) : 0 ≤ P.getD j 0 ∧ P.getD j 0 < m ∧ (xs.getD j 0).toNat.testBit (P.getD j 0).toNat = true ∧ P.getD j 0 ∉ P.take j := by
  unfold goodAt at h
  rw [Bool.or_eq_true, beq_iff_eq] at h
  rcases h with h | h
  · exact absurd h he
  · rw [Bool.and_eq_true, inB_iff, Bool.and_eq_true, Bool.not_eq_true'] at h
    refine ⟨h.1.1, by omega, h.2.1, ?_⟩
    exact hasI_no.1 h.2.2
theorem tkn_lt (xs : List Int) (m : Nat) (hm : m ≤ 6) (P : List Int) (k : Nat) (h : goodUp xs m P k = true) : tkn P k < 64 := by
  induction k with
  | zero => simp [tkn]
  | succ k ih =>
    rw [goodUp, Bool.and_eq_true] at h
    have := ih h.1
    rw [tkn]
    split
    · exact this
    · rename_i he
      obtain ⟨h1, h2, _⟩ := good_col h.2 he
      exact Nat.or_lt_two_pow (n := 6) this (Nat.pow_lt_pow_right (by omega) (by omega))
theorem tkn_mem (xs : List Int) (m : Nat) (hm : m ≤ 6) (P : List Int) (k : Nat) (hk : k ≤ P.length) (h : goodUp xs m P k = true) (c : Nat) (hc : c < 6) : (tkn P k).testBit c = hasI (P.take k) (c : Int) := by
  induction k with
  | zero => simp [tkn, hasI]
  | succ k ih =>
    have h' := h
    rw [goodUp, Bool.and_eq_true] at h
    have hlt := tkn_lt xs m hm P k h.1
    rw [tkn, take_snoc P k (by omega), hasI_snoc]
    split
    · rename_i he
      have h3 : ((-1 : Int) == (c : Int)) = false := by rw [beq_eq_false_iff_ne]; omega
      rw [ih (by omega) h.1, he, h3, Bool.or_false]
    · rename_i he
      obtain ⟨h1, h2, _⟩ := good_col h.2 he
      obtain ⟨d, hd⟩ := Int.eq_ofNat_of_zero_le h1
      rw [hd] at h2 ⊢
      rw [show ((d : Int)).toNat = d by simp, or_put _ _ _ hlt (by omega) hc, ih (by omega) h.1]
      by_cases e : d = c
      · subst e; simp
      · have h3 : (c : Int) ≠ d := by omega
        have h4 : ((d : Int) == (c : Int)) = false := by rw [beq_eq_false_iff_ne]; omega
        rw [h4]
        simp [e]
/-- The places of a list: what is laid for each of the six rows. -/
def plF (P : List Int) (k : Nat) (j : Nat) : Int := if j < k then P.getD j 0 else -1
/-- The cells of an array of six. -/
def pl6 (f : Nat → Int) : List Value := [.int .i64 (f 0), .int .i64 (f 1), .int .i64 (f 2), .int .i64 (f 3), .int .i64 (f 4), .int .i64 (f 5)]
abbrev pv6 (f : Nat → Int) : Value := .agg #[.int .i64 (f 0), .int .i64 (f 1), .int .i64 (f 2), .int .i64 (f 3), .int .i64 (f 4), .int .i64 (f 5)]
theorem pl6_get (f : Nat → Int) (i : Nat) (h : i < 6) : (pl6 f)[i]? = some (.int .i64 (f i)) := by
  have : i = 0 ∨ i = 1 ∨ i = 2 ∨ i = 3 ∨ i = 4 ∨ i = 5 := by omega
  rcases this with rfl | rfl | rfl | rfl | rfl | rfl <;> rfl
theorem pl6_set (f g : Nat → Int) (i : Nat) (h : i < 6) (x : Int) (hx : g i = x) (hg : ∀ k, k < 6 → k ≠ i → g k = f k) : (pl6 f).set i (.int .i64 x) = pl6 g := by
  have : i = 0 ∨ i = 1 ∨ i = 2 ∨ i = 3 ∨ i = 4 ∨ i = 5 := by omega
  subst hx
  rcases this with rfl | rfl | rfl | rfl | rfl | rfl <;> simp [pl6, hg]
theorem pl6_congr (f g : Nat → Int) (h : ∀ k, k < 6 → f k = g k) : pl6 f = pl6 g := by simp [pl6, h]
theorem Has.six {w : World} {b : Nat} {v0 v1 v2 v3 v4 v5 : Value} {t : TypeId} (h : Has w b [v0, v1, v2, v3, v4, v5] t) :
    w.cell? ⟨b, 0, none⟩ = some v0 ∧ w.cell? ⟨b, 1, none⟩ = some v1 ∧ w.cell? ⟨b, 2, none⟩ = some v2 ∧ w.cell? ⟨b, 3, none⟩ = some v3 ∧ w.cell? ⟨b, 4, none⟩ = some v4 ∧ w.cell? ⟨b, 5, none⟩ = some v5 ∧ ∀ o, w.frozen? ⟨b, o, none⟩ = false :=
  ⟨h.cell 0, h.cell 1, h.cell 2, h.cell 3, h.cell 4, h.cell 5, h.free⟩
theorem Reads.take {w : World} {a : Option Addr} {zs : List Int} (h : Reads w a zs.length zs) (k : Nat) (hk : k ≤ zs.length) : Reads w a k (zs.take k) := by
  refine ⟨by simp [hk], ?_⟩
  by_cases h0 : k = 0
  · exact .inl h0
  · obtain ⟨b, off, e, hb, hc⟩ := reads_row h (by omega)
    refine .inr ⟨b, off, e, hb, fun j hj => ?_⟩
    rw [hc j (by omega)]
    simp [List.getD, hj]

end Go.Proofs.Ytdimbnkgomfojab
end
