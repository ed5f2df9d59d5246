import Derived.Test.YtabfiafjcnilnaaFold3
import Derived.Test.YtabfiafjcnilnaaFold0

section
namespace Go.Proofs.Ytabfiafjcnilnaa
open Go.RowKit

/-- Numbers that do not fall. -/
def sortB (xs : List Int) : Bool := (List.range (xs.length - 1)).all fun k => decide (xs.getD k 0 ≤ xs.getD (k + 1) 0)
theorem sortB_iff {xs : List Int} : sortB xs = true ↔ ∀ k, k + 1 < xs.length → xs.getD k 0 ≤ xs.getD (k + 1) 0 := by
  simp only [sortB, List.all_eq_true, List.mem_range, decide_eq_true_eq]
  exact ⟨fun h k hk => h k (by omega), fun h k hk => h k (by omega)⟩
theorem sortB_no {xs : List Int} (k : Nat) (hk : k + 1 < xs.length) (h : ¬ xs.getD k 0 ≤ xs.getD (k + 1) 0) : sortB xs = false := by
  rw [← Bool.not_eq_true, sortB_iff]
  exact fun h2 => h (h2 k hk)
theorem sortB_up {xs : List Int} (h : sortB xs = true) (i j : Nat) (hij : i ≤ j) (hj : j < xs.length) : xs.getD i 0 ≤ xs.getD j 0 := by
  rw [sortB_iff] at h
  induction j with
  | zero => rw [show i = 0 by omega]; exact Int.le_refl _
  | succ j ih =>
    by_cases e : i = j + 1
    · rw [e]; exact Int.le_refl _
    · exact Int.le_trans (ih (by omega) (by omega)) (h j hj)

/-- What makes lengths. -/
def lenB (xs : List Int) : Bool := inB 1 xs.length 6 && (within 0 xs.length xs && sortB xs)
theorem len_facts {xs : List Int} (h : lenB xs = true) : 1 ≤ xs.length ∧ xs.length ≤ 6 ∧ (∀ k, 0 ≤ xs.getD k 0 ∧ xs.getD k 0 ≤ 6) ∧ (∀ k, xs.getD k 0 ≤ xs.length) ∧ sortB xs = true := by
  rw [lenB, Bool.and_eq_true, Bool.and_eq_true, inB_iff] at h
  obtain ⟨⟨h1, h2⟩, h3, h4⟩ := h
  have key : ∀ k, 0 ≤ xs.getD k 0 ∧ xs.getD k 0 ≤ xs.length := by
    intro j
    by_cases hj : j < xs.length
    · rw [within, List.all_eq_true] at h3
      have := h3 (xs.getD j 0) (by simp [List.getD, hj])
      simpa using this
    · rw [List.getD_eq_getElem?_getD, List.getElem?_eq_none (by omega)]
      simp
  exact ⟨by omega, by omega, fun k => ⟨(key k).1, by have := (key k).2; omega⟩, fun k => (key k).2, h4⟩
/-- What the program asks: the first and the last one tell all. -/
theorem len_ends {xs : List Int} (h1 : inB 1 xs.length 6 = true) (h2 : sortB xs = true) : lenB xs = (decide (0 ≤ xs.getD 0 0) && decide (xs.getD (xs.length - 1) 0 ≤ xs.length)) := by
  have hl := inB_iff.1 h1
  rw [lenB, h1, h2, Bool.true_and, Bool.and_true]
  by_cases ha : 0 ≤ xs.getD 0 0
  · by_cases hb : xs.getD (xs.length - 1) 0 ≤ xs.length
    · simp only [ha, hb, decide_true, Bool.and_true]
      rw [within, List.all_eq_true]
      intro x hx
      obtain ⟨i, hi, rfl⟩ := List.getElem_of_mem hx
      have e : xs[i] = xs.getD i 0 := by simp [List.getD, hi]
      have p := sortB_up h2 0 i (by omega) hi
      have q := sortB_up h2 i (xs.length - 1) (by omega) (by omega)
      rw [e, decide_eq_true_eq]
      omega
    · rw [within_no 0 _ xs (xs.length - 1) (by omega) (fun h => hb h.2)]
      rw [decide_eq_false hb, Bool.and_false]
  · rw [within_no 0 _ xs 0 (by omega) (fun h => ha h.1)]
    rw [decide_eq_false ha, Bool.false_and]

/-- All lists that go on: c numbers from l to n that do not fall. -/
def goOn (n : Nat) : Nat → Nat → List (List Int)
  | 0, _ => [[]]
  | c + 1, l => (List.range (n + 1)).flatMap fun m => if l ≤ m then (goOn n c m).map (fun t => (m : Int) :: t) else []
theorem goOn_mem (n : Nat) (xs : List Int) (l : Nat) (hs : sortB xs = true) (h0 : ∀ k, k < xs.length → (l : Int) ≤ xs.getD k 0 ∧ xs.getD k 0 ≤ n) : xs ∈ goOn n xs.length l := by
  induction xs generalizing l with
  | nil => simp [goOn]
  | cons x t ih =>
    have hx := h0 0 (by simp)
    simp only [List.getD_cons_zero] at hx
    obtain ⟨m, rfl⟩ := Int.eq_ofNat_of_zero_le (show 0 ≤ x by omega)
    rw [List.length_cons, goOn, List.mem_flatMap]
    refine ⟨m, by rw [List.mem_range]; omega, ?_⟩
    rw [if_pos (by omega), List.mem_map]
    refine ⟨t, ih m ?_ ?_, rfl⟩
    · rw [sortB_iff] at hs ⊢
      intro k hk
      have := hs (k + 1) (by simp; omega)
      simpa using this
    · intro k hk
      have a := h0 (k + 1) (by simp; omega)
      have b := sortB_up hs 0 (k + 1) (by omega) (by simp; omega)
      simp only [List.getD_cons_succ, List.getD_cons_zero] at a b
      omega
/-- What is tried at all lengths holds at all lengths. -/
theorem all_lens (P : List Int → Bool) (h : ∀ n, n < 6 → (goOn (n + 1) (n + 1) 0).all P = true) {xs : List Int} (hx : lenB xs = true) : P xs = true := by
  obtain ⟨h1, h2, h3, h4, h5⟩ := len_facts hx
  have hm := goOn_mem xs.length xs 0 h5 (fun k _ => ⟨by have := (h3 k).1; simpa using this, h4 k⟩)
  have := h (xs.length - 1) (by omega)
  rw [show xs.length - 1 + 1 = xs.length by omega, List.all_eq_true] at this
  exact this xs hm

/-- One number brought into an ordered list, behind those that are as great. -/
def insL (x : Int) (p : List Int) : List Int := p.takeWhile (fun y => decide (y ≤ x)) ++ x :: p.dropWhile (fun y => decide (y ≤ x))
theorem insL_at (x : Int) (p : List Int) (k : Nat) (hk : k ≤ p.length) (h1 : ∀ i, i < k → p.getD i 0 ≤ x) (h2 : k < p.length → x < p.getD k 0) : insL x p = p.take k ++ x :: p.drop k := by
  induction p generalizing k with
  | nil => simp [insL]
  | cons y t ih =>
    cases k with
    | zero =>
      have := h2 (by simp)
      simp only [List.getD_cons_zero] at this
      simp [insL, show ¬ y ≤ x by omega]
    | succ k =>
      have a := h1 0 (by omega)
      simp only [List.getD_cons_zero] at a
      have := ih k (by simpa using hk) (fun i hi => by have := h1 (i + 1) (by omega); simpa using this) (fun hk => by have := h2 (by simp; omega); simpa using this)
      simp only [insL] at this ⊢
      simp [a, this]
theorem insL_len (x : Int) (p : List Int) : (insL x p).length = p.length + 1 := by
  have := congrArg List.length (List.takeWhile_append_dropWhile (p := fun y => decide (y ≤ x)) (l := p))
  simp only [List.length_append] at this
  simp only [insL, List.length_append, List.length_cons]
  omega
theorem insL_mem (x y : Int) (p : List Int) : y ∈ insL x p ↔ y = x ∨ y ∈ p := by
  have : y ∈ p ↔ y ∈ p.takeWhile (fun z => decide (z ≤ x)) ∨ y ∈ p.dropWhile (fun z => decide (z ≤ x)) := by
    rw [← List.mem_append, List.takeWhile_append_dropWhile]
  rw [this]
  simp only [insL, List.mem_append, List.mem_cons]
  constructor <;> rintro (h | h | h) <;> simp [h]
theorem insL_sorted (x : Int) (p : List Int) (h : p.Pairwise (· ≤ ·)) : (insL x p).Pairwise (· ≤ ·) := by
  induction p with
  | nil => simp [insL]
  | cons y t ih =>
    obtain ⟨h1, h2⟩ := List.pairwise_cons.1 h
    by_cases hy : y ≤ x
    · have e : insL x (y :: t) = y :: insL x t := by simp [insL, hy]
      rw [e, List.pairwise_cons]
      refine ⟨fun z hz => ?_, ih h2⟩
      rw [insL_mem] at hz
      rcases hz with rfl | hz
      · exact hy
      · exact h1 z hz
    · have e : insL x (y :: t) = x :: y :: t := by simp [insL, hy]
      rw [e, List.pairwise_cons]
      refine ⟨fun z hz => ?_, h⟩
      rcases List.mem_cons.1 hz with rfl | hz
      · omega
      · have := h1 z hz
        omega
/-- A list brought to order. -/
def sortL (xs : List Int) : List Int := xs.foldl (fun p x => insL x p) []
theorem sortL_snoc (xs : List Int) (x : Int) : sortL (xs ++ [x]) = insL x (sortL xs) := by simp [sortL]
theorem sortL_succ (xs : List Int) (k : Nat) (hk : k < xs.length) : sortL (xs.take (k + 1)) = insL (xs.getD k 0) (sortL (xs.take k)) := by
  rw [List.take_succ_eq_append_getElem hk, sortL_snoc]
  simp [List.getD, hk]
theorem foldl_len (xs p : List Int) : (xs.foldl (fun p x => insL x p) p).length = p.length + xs.length := by
  induction xs generalizing p with
  | nil => simp
  | cons x t ih => rw [List.foldl_cons, ih, insL_len, List.length_cons]; omega
theorem sortL_len (xs : List Int) : (sortL xs).length = xs.length := by rw [sortL, foldl_len]; simp
theorem foldl_mem (xs p : List Int) (y : Int) : y ∈ xs.foldl (fun p x => insL x p) p ↔ y ∈ xs ∨ y ∈ p := by
  induction xs generalizing p with
  | nil => simp
  | cons x t ih =>
    rw [List.foldl_cons, ih, insL_mem, List.mem_cons]
    constructor
    · rintro (h | h | h) <;> simp [h]
    · rintro ((h | h) | h) <;> simp [h]
theorem sortL_mem (xs : List Int) (y : Int) : y ∈ sortL xs ↔ y ∈ xs := by rw [sortL, foldl_mem]; simp
theorem foldl_sorted (xs p : List Int) (h : p.Pairwise (· ≤ ·)) : (xs.foldl (fun p x => insL x p) p).Pairwise (· ≤ ·) := by
  induction xs generalizing p with
  | nil => exact h
  | cons x t ih => exact ih _ (insL_sorted x p h)
theorem sortL_sorted (xs : List Int) : (sortL xs).Pairwise (· ≤ ·) := foldl_sorted xs [] List.Pairwise.nil
theorem sortL_get (xs : List Int) (i j : Nat) (hij : i < j) (hj : j < xs.length) : (sortL xs).getD i 0 ≤ (sortL xs).getD j 0 := by
  have h := List.pairwise_iff_getElem.1 (sortL_sorted xs) i j (by rw [sortL_len]; omega) (by rw [sortL_len]; omega) hij
  simpa [List.getD, sortL_len, show i < xs.length by omega, hj] using h
theorem sortL_bd (lo hi : Int) (h0 : lo ≤ 0 ∧ 0 ≤ hi) (xs : List Int) (h : ∀ k, lo ≤ xs.getD k 0 ∧ xs.getD k 0 ≤ hi) (k : Nat) : lo ≤ (sortL xs).getD k 0 ∧ (sortL xs).getD k 0 ≤ hi := by
  by_cases hk : k < xs.length
  · have hm : (sortL xs).getD k 0 ∈ xs := by
      rw [← sortL_mem]
      simp [List.getD, sortL_len, hk]
    obtain ⟨i, hi2, e⟩ := List.getElem_of_mem hm
    have := h i
    rw [show xs.getD i 0 = xs[i] by simp [List.getD, hi2], e] at this
    exact this
  · rw [List.getD_eq_getElem?_getD, List.getElem?_eq_none (by rw [sortL_len]; omega)]
    exact h0

/-- Each length less its index. -/
def facU (xs : List Int) : List Int := (List.range xs.length).map (fun (i : Nat) => xs.getD i 0 - (i : Int))
theorem facU_len (xs : List Int) : (facU xs).length = xs.length := by simp [facU]
theorem facU_get (xs : List Int) (k : Nat) (h : k < xs.length) : (facU xs).getD k 0 = xs.getD k 0 - k := by simp [facU, List.getD, h]
theorem facU_bd {xs : List Int} (h : lenB xs = true) (k : Nat) : -6 ≤ (facU xs).getD k 0 ∧ (facU xs).getD k 0 ≤ 6 := by
  obtain ⟨h1, h2, h3, h4, h5⟩ := len_facts h
  by_cases hk : k < xs.length
  · rw [facU_get xs k hk]
    have := h3 k
    omega
  · rw [List.getD_eq_getElem?_getD, List.getElem?_eq_none (by rw [facU_len]; omega)]
    simp
/-- The factors. -/
def facs (xs : List Int) : List Int := sortL (facU xs)
theorem facs_len (xs : List Int) : (facs xs).length = xs.length := by rw [facs, sortL_len, facU_len]
theorem facs_bd {xs : List Int} (h : lenB xs = true) (k : Nat) : -6 ≤ (facs xs).getD k 0 ∧ (facs xs).getD k 0 ≤ 6 := sortL_bd (-6) 6 (by decide) _ (facU_bd h) k

/-- The product of all x and a factor together. -/
def prodX (L : List Int) (x : Int) : Nat → Int
  | 0 => 1
  | k + 1 => prodX L x k * (x + L.getD k 0)
theorem prodX_abs (L : List Int) (x : Int) (hx : -20 ≤ x ∧ x ≤ 20) (hL : ∀ k, -6 ≤ L.getD k 0 ∧ L.getD k 0 ≤ 6) (k : Nat) : (prodX L x k).natAbs ≤ 26 ^ k := by
  induction k with
  | zero => simp [prodX]
  | succ k ih =>
    rw [prodX, Int.natAbs_mul, Nat.pow_succ]
    have := hL k
    exact Nat.mul_le_mul ih (by omega)
theorem pow26 (k : Nat) (h : k ≤ 6) : 26 ^ k ≤ 308915776 := by
  match k, h with
  | 0, _ | 1, _ | 2, _ | 3, _ | 4, _ | 5, _ | 6, _ => decide

/-- The product of all lengths less their indices, each at least 0. -/
def fullX (xs : List Int) : Nat → Int
  | 0 => 1
  | k + 1 => fullX xs k * max 0 (xs.getD k 0 - k)
theorem full_same {xs : List Int} (h : lenB xs = true) : prodX (facs xs) 0 xs.length = fullX xs xs.length := by
  have := all_lens (fun xs => decide (prodX (facs xs) 0 xs.length = fullX xs xs.length)) (by decide +kernel) h
  simpa using this

end Go.Proofs.Ytabfiafjcnilnaa
end

section
namespace Go.Proofs.Ytabfiafjcnilnaa
open Go.RowKit

/-- A list by its numbers. -/
def lstI (L : Nat) (g : Nat → Int) : List Int := (List.range L).map g
theorem lstI_len (L : Nat) (g : Nat → Int) : (lstI L g).length = L := by simp [lstI]
theorem lstI_get (L : Nat) (g : Nat → Int) (k : Nat) (h : k < L) : (lstI L g).getD k 0 = g k := by simp [lstI, List.getD, h]
theorem lstI_congr (L : Nat) (g g' : Nat → Int) (h : ∀ k, k < L → g k = g' k) : lstI L g = lstI L g' := by
  unfold lstI
  refine List.map_congr_left fun k hk => h k ?_
  simpa using hk
theorem lstI_zero (L : Nat) : List.replicate L (0 : Int) = lstI L (fun _ => 0) := by
  refine List.ext_getElem ?_ fun k h1 h2 => ?_
  · simp [lstI]
  · simp [lstI]
theorem lstI_set (L : Nat) (g g' : Nat → Int) (i : Nat) (x : Int) (hx : g' i = x) (ho : ∀ k, k < L → k ≠ i → g' k = g k) : (lstI L g).set i x = lstI L g' := by
  refine List.ext_getElem ?_ fun k h1 h2 => ?_
  · simp [lstI]
  · have hk : k < L := by simpa [lstI] using h2
    rw [List.getElem_set]
    by_cases e : i = k
    · subst e
      simp [lstI, hx]
    · rw [if_neg e]
      simp [lstI, ho k hk (fun h => e h.symm)]
theorem lstI_snoc (L : Nat) (g : Nat → Int) : lstI L g ++ [g L] = lstI (L + 1) g := by simp [lstI, List.range_succ]
theorem lstI_self (xs : List Int) : lstI xs.length (fun k => xs.getD k 0) = xs := by
  refine List.ext_getElem ?_ fun k h1 h2 => ?_
  · simp [lstI]
  · simp [lstI, List.getD, h2]

end Go.Proofs.Ytabfiafjcnilnaa
end
