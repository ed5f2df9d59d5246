import Derived.Test.YtakdiiccdkjjcacFold4

section
namespace Go.Proofs.Ytakdiiccdkjjcac
open Go.RowKit

def plusAt (l : List Int) (p : Nat) (v : Int) : List Int := l.set p (l.getD p 0 + v)
theorem plusAt_len (l : List Int) (p : Nat) (v : Int) : (plusAt l p v).length = l.length := by simp [plusAt]
def Bd (K : Int) (l : List Int) : Prop := ∀ p, 0 ≤ l.getD p 0 ∧ l.getD p 0 ≤ K
theorem Bd.plus {K V : Int} {l : List Int} (h : Bd K l) (p : Nat) (v : Int) (h0 : 0 ≤ v) (h1 : v ≤ V) : Bd (K + V) (plusAt l p v) := by
  intro q
  have hq := h q
  have hp := h p
  unfold plusAt
  by_cases e : p = q
  · subst e
    by_cases hl : p < l.length
    · rw [List.getD_eq_getElem?_getD, List.getElem?_set_self (by exact hl)]
      simp only [Option.getD_some]
      omega
    · rw [List.set_eq_of_length_le (by omega)]
      omega
  · have : (l.set p (l.getD p 0 + v)).getD q 0 = l.getD q 0 := by
      rw [List.getD_eq_getElem?_getD, List.getElem?_set_ne e, ← List.getD_eq_getElem?_getD]
    rw [this]
    omega
theorem Bd.mono {K K' : Int} {l : List Int} (h : Bd K l) (hk : K ≤ K') : Bd K' l := fun p => ⟨(h p).1, by have := (h p).2; omega⟩
/-- One row of the product. -/
def rowP (z : List Int) (x : Int) (i : Nat) (b : List Int) : Nat → List Int
  | 0 => z
  | j + 1 => plusAt (rowP z x i b j) (i + j) (x * b.getD j 0)
theorem rowP_len (z : List Int) (x : Int) (i : Nat) (b : List Int) (j : Nat) : (rowP z x i b j).length = z.length := by
  induction j with
  | zero => rfl
  | succ j ih => rw [rowP, plusAt_len, ih]
/-- The first rows of the product. -/
def allP (a b : List Int) : Nat → List Int
  | 0 => List.replicate (a.length + b.length - 1) 0
  | i + 1 => rowP (allP a b i) (a.getD i 0) i b b.length
theorem allP_len (a b : List Int) (i : Nat) : (allP a b i).length = a.length + b.length - 1 := by
  induction i with
  | zero => simp [allP]
  | succ i ih => rw [allP, rowP_len, ih]
theorem mul_bd (x y : Int) (hx : 0 ≤ x ∧ x ≤ 100000) (hy : 0 ≤ y ∧ y ≤ 100000) : 0 ≤ x * y ∧ x * y ≤ 10000000000 := by
  refine ⟨Int.mul_nonneg hx.1 hy.1, ?_⟩
  have := Int.mul_le_mul hx.2 hy.2 hy.1 (by decide)
  omega
theorem rowP_bd (z : List Int) (x : Int) (i : Nat) (b : List Int) (K : Int) (hz : Bd K z) (hx : 0 ≤ x ∧ x ≤ 100000) (hb : ∀ j, 0 ≤ b.getD j 0 ∧ b.getD j 0 ≤ 100000) (j : Nat) : Bd (K + j * 10000000000) (rowP z x i b j) := by
  induction j with
  | zero => exact hz.mono (by simp)
  | succ j ih =>
    have h := mul_bd x _ hx (hb j)
    exact (ih.plus (i + j) _ h.1 h.2).mono (by push_cast; omega)
theorem allP_bd (a b : List Int) (hb7 : b.length ≤ 7) (ha : ∀ j, 0 ≤ a.getD j 0 ∧ a.getD j 0 ≤ 100000) (hb : ∀ j, 0 ≤ b.getD j 0 ∧ b.getD j 0 ≤ 100000) (i : Nat) : Bd (i * 70000000000) (allP a b i) := by
  induction i with
  | zero =>
    intro p
    have : (List.replicate (a.length + b.length - 1) (0 : Int)).getD p 0 = 0 := by
      simp only [List.getD_eq_getElem?_getD, List.getElem?_replicate]
      split <;> rfl
    simp only [allP, this]
    simp
  | succ i ih => exact (rowP_bd _ _ i b _ ih (ha i) hb b.length).mono (by push_cast; omega)
theorem within_get {lo hi : Int} {xs : List Int} (h : within lo hi xs = true) (h0 : lo ≤ 0 ∧ 0 ≤ hi) (j : Nat) : lo ≤ xs.getD j 0 ∧ xs.getD j 0 ≤ hi := by
  by_cases hj : j < xs.length
  · rw [within, List.all_eq_true] at h
    have := h (xs.getD j 0) (by simp [List.getD, hj])
    simpa using this
  · rw [List.getD_eq_getElem?_getD, List.getElem?_eq_none (by omega)]
    exact h0
/-- May a list be multiplied? -/
def facB (xs : List Int) : Bool := inB 1 xs.length 7 && within 0 100000 xs
theorem facB_facts {xs : List Int} (h : facB xs = true) : (1 ≤ xs.length ∧ xs.length ≤ 7) ∧ ∀ j, 0 ≤ xs.getD j 0 ∧ xs.getD j 0 ≤ 100000 := by
  rw [facB, Bool.and_eq_true, inB_iff] at h
  exact ⟨by omega, within_get h.2 (by decide)⟩

/-- Rooks: numbers that are none below 0. -/
def rcnt (xs : List Int) : Nat := (xs.filter (fun x => decide (0 ≤ x))).length
theorem rcnt_le (xs : List Int) : rcnt xs ≤ xs.length := List.length_filter_le _ _
theorem rcnt_succ (xs : List Int) (k : Nat) (h : k < xs.length) : rcnt (xs.take (k + 1)) = rcnt (xs.take k) + if 0 ≤ xs.getD k 0 then 1 else 0 := by
  rw [List.take_succ_eq_append_getElem h, rcnt, List.filter_append, List.length_append]
  have e : xs.getD k 0 = xs[k] := by simp [List.getD, h]
  rw [e]
  unfold rcnt
  by_cases h2 : 0 ≤ xs[k] <;> simp [h2]
end Go.Proofs.Ytakdiiccdkjjcac
end

section
namespace Go.Proofs.Ytakdiiccdkjjcac
open Go.RowKit

/-- A list told by a function. -/
def lstL (L : Nat) (g : Nat → Nat) : List Int := (List.range L).map (fun k => (g k : Int))
theorem lstL_len (L : Nat) (g : Nat → Nat) : (lstL L g).length = L := by simp [lstL]
theorem lstL_get (L : Nat) (g : Nat → Nat) (k : Nat) (h : k < L) : (lstL L g).getD k 0 = g k := by simp [lstL, List.getD, h]
theorem lstL_zero (L : Nat) : List.replicate L (0 : Int) = lstL L (fun _ => 0) := by
  apply List.ext_getElem
  · simp [lstL]
  · intro i h1 h2
    simp [lstL]
theorem lstL_congr (L : Nat) (g g' : Nat → Nat) (h : ∀ k, k < L → g k = g' k) : lstL L g = lstL L g' := by
  unfold lstL
  refine List.map_congr_left (fun k hk => ?_)
  rw [h k (List.mem_range.1 hk)]
theorem lstL_set (L : Nat) (g g' : Nat → Nat) (i : Nat) (x : Int) (hx : (g' i : Int) = x) (ho : ∀ k, k < L → k ≠ i → g' k = g k) : (lstL L g).set i x = lstL L g' := by
  apply List.ext_getElem
  · simp [lstL]
  · intro k h1 h2
    have hk : k < L := by simpa [lstL] using h2
    by_cases e : k = i
    · subst e
      rw [List.getElem_set_self]
      simp [lstL, hx]
    · rw [List.getElem_set_ne (fun h => e h.symm)]
      simp [lstL, ho k hk e]

/-- What one column adds: w d rows on, the column taken. -/
def term (B : Nat → Nat → Bool) (w : Nat → Nat → Nat) (f t k c : Nat) : Nat := if B f c && !t.testBit c then (if k = 0 then 0 else w (t ||| 2 ^ c) (k - 1)) else 0
/-- In how many ways d rows from f on carry k rooks in columns that are not in t. -/
def wR (m : Nat) (B : Nat → Nat → Bool) : Nat → Nat → Nat → Nat → Nat
  | 0, _, _, k => if k = 0 then 1 else 0
  | d + 1, f, t, k => wR m B d (f + 1) t k + ((List.range m).map (term B (wR m B d (f + 1)) f t k)).sum
/-- .. with the first c columns looked at. -/
def accC (m : Nat) (B : Nat → Nat → Bool) (d f t c k : Nat) : Nat := wR m B d (f + 1) t k + ((List.range c).map (term B (wR m B d (f + 1)) f t k)).sum
theorem accC_zero (m : Nat) (B : Nat → Nat → Bool) (d f t k : Nat) : accC m B d f t 0 k = wR m B d (f + 1) t k := by simp [accC]
theorem accC_full (m : Nat) (B : Nat → Nat → Bool) (d f t k : Nat) : accC m B d f t m k = wR m B (d + 1) f t k := rfl
theorem accC_succ (m : Nat) (B : Nat → Nat → Bool) (d f t c k : Nat) : accC m B d f t (c + 1) k = accC m B d f t c k + term B (wR m B d (f + 1)) f t k c := by
  unfold accC
  rw [List.range_succ, List.map_append, List.sum_append]
  simp [Nat.add_assoc]

theorem sum_le (l : List Nat) (b : Nat) (h : ∀ x ∈ l, x ≤ b) : l.sum ≤ l.length * b := by
  induction l with
  | nil => simp
  | cons a l ih =>
    rw [List.sum_cons, List.length_cons, Nat.succ_mul]
    have := h a (by simp)
    have := ih (fun x hx => h x (by simp [hx]))
    omega
theorem term_le (B : Nat → Nat → Bool) (w : Nat → Nat → Nat) (f t k c b : Nat) (h : ∀ t k, w t k ≤ b) : term B w f t k c ≤ b := by
  unfold term
  split
  · split
    · omega
    · exact h _ _
  · omega
theorem accC_le (m : Nat) (B : Nat → Nat → Bool) (d f t c k b : Nat) (h : ∀ t k, wR m B d (f + 1) t k ≤ b) : accC m B d f t c k ≤ (c + 1) * b := by
  have h1 := h t k
  have h2 := sum_le ((List.range c).map (term B (wR m B d (f + 1)) f t k)) b (fun x hx => by
    obtain ⟨c', _, rfl⟩ := List.mem_map.1 hx
    exact term_le B _ f t k c' b h)
  rw [List.length_map, List.length_range] at h2
  unfold accC
  rw [Nat.succ_mul]
  omega
theorem wR_le (m : Nat) (hm : m ≤ 6) (B : Nat → Nat → Bool) (d : Nat) : ∀ f t k, wR m B d f t k ≤ 7 ^ d := by
  induction d with
  | zero => intro f t k; unfold wR; split <;> simp
  | succ d ih =>
    intro f t k
    have h := accC_le m B d f t m k (7 ^ d) (fun t k => ih (f + 1) t k)
    rw [accC_full] at h
    have h2 : (m + 1) * 7 ^ d ≤ 7 * 7 ^ d := Nat.mul_le_mul_right _ (by omega)
    rw [Nat.pow_succ]
    omega
theorem pow7 (d : Nat) (h : d ≤ 6) : 7 ^ d ≤ 117649 := by
  have : d = 0 ∨ d = 1 ∨ d = 2 ∨ d = 3 ∨ d = 4 ∨ d = 5 ∨ d = 6 := by omega
  rcases this with rfl | rfl | rfl | rfl | rfl | rfl | rfl <;> simp

/-- How many of the first m columns are taken. -/
def cntT (m t : Nat) : Nat := ((List.range m).filter (fun c => t.testBit c)).length
theorem cntT_put (m t c : Nat) (hm : m ≤ 6) (ht : t < 64) (hc : c < m) (h : t.testBit c = false) : cntT m (t ||| 2 ^ c) = cntT m t + 1 ∧ t ||| 2 ^ c < 64 := by
  have key : ∀ m : Fin 7, ∀ t : Fin 64, ∀ c : Fin 6, (c : Nat) < (m : Nat) → (t : Nat).testBit c = false → cntT m (t ||| 2 ^ (c : Nat)) = cntT m t + 1 ∧ (t : Nat) ||| 2 ^ (c : Nat) < 64 := by decide +kernel
  exact key ⟨m, by omega⟩ ⟨t, ht⟩ ⟨c, by omega⟩ hc h
theorem sum_pos (l : List Nat) (h : l.sum ≠ 0) : ∃ x ∈ l, x ≠ 0 := by
  induction l with
  | nil => simp at h
  | cons a l ih =>
    by_cases ha : a = 0
    · rw [List.sum_cons, ha, Nat.zero_add] at h
      obtain ⟨x, hx, h2⟩ := ih h
      exact ⟨x, by simp [hx], h2⟩
    · exact ⟨a, by simp, ha⟩
/-- More rooks than rows or than columns that are left have no way. -/
theorem wR_off (m : Nat) (hm : m ≤ 6) (B : Nat → Nat → Bool) (d : Nat) : ∀ f t k, t < 64 → cntT m t ≤ m → wR m B d f t k ≠ 0 → k ≤ d ∧ k + cntT m t ≤ m := by
  induction d with
  | zero =>
    intro f t k _ hc h
    unfold wR at h
    split at h
    · omega
    · simp at h
  | succ d ih =>
    intro f t k ht hc h
    by_cases h1 : wR m B d (f + 1) t k ≠ 0
    · have := ih _ _ _ ht hc h1; omega
    · have h2 : ((List.range m).map (term B (wR m B d (f + 1)) f t k)).sum ≠ 0 := by
        unfold wR at h
        omega
      obtain ⟨x, hx, hx0⟩ := sum_pos _ h2
      obtain ⟨c, hcm, rfl⟩ := List.mem_map.1 hx
      have hcm := List.mem_range.1 hcm
      unfold term at hx0
      split at hx0
      · rename_i hb
        rw [Bool.and_eq_true, Bool.not_eq_true'] at hb
        split at hx0
        · omega
        · obtain ⟨e1, e2⟩ := cntT_put m t c hm ht hcm hb.2
          have hle : cntT m (t ||| 2 ^ c) ≤ m := by
            unfold cntT
            have := List.length_filter_le (fun c' => (t ||| 2 ^ c).testBit c') (List.range m)
            simpa using this
          have := ih _ _ _ e2 hle hx0
          omega
      · omega
theorem cntT_zero (m : Nat) : cntT m 0 = 0 := by simp [cntT]
theorem cntT_le (m t : Nat) : cntT m t ≤ m := by
  unfold cntT
  have := List.length_filter_le (fun c => t.testBit c) (List.range m)
  simpa using this

end Go.Proofs.Ytakdiiccdkjjcac
end

section
namespace Go.Proofs.Ytakdiiccdkjjcac
open Go.RowKit

/-- Not farther from 0 than b. -/
def Abs (b : Int) (x : Int) : Prop := -b ≤ x ∧ x ≤ b
theorem Abs.iff {b : Nat} {x : Int} : Abs b x ↔ x.natAbs ≤ b := by unfold Abs; omega
theorem Abs.mul {a b : Nat} {x y : Int} (hx : Abs a x) (hy : Abs b y) : Abs ((a * b : Nat) : Int) (x * y) := by
  rw [Abs.iff] at *
  rw [Int.natAbs_mul]
  exact Nat.mul_le_mul hx hy
theorem Abs.add {a b : Int} {x y : Int} (hx : Abs a x) (hy : Abs b y) : Abs (a + b) (x + y) := by unfold Abs at *; omega
theorem Abs.mono {a b : Int} {x : Int} (hx : Abs a x) (h : a ≤ b) : Abs b x := by unfold Abs at *; omega
theorem Abs.neg {a : Int} {x : Int} (hx : Abs a x) : Abs a (-x) := by unfold Abs at *; omega

theorem pow_abs (x : Int) (hx : Abs 20 x) (k : Nat) (hk : k ≤ 7) : Abs 1280000000 (x ^ k) := by
  have h1 : (x ^ k).natAbs ≤ 20 ^ k := by
    rw [Int.natAbs_pow]
    exact Nat.pow_le_pow_left (by unfold Abs at hx; omega) k
  have h2 : 20 ^ k ≤ 20 ^ 7 := Nat.pow_le_pow_right (by omega) hk
  unfold Abs
  omega

/-- The falling product. -/
def fal (x : Int) : Nat → Int
  | 0 => 1
  | k + 1 => fal x k * (x - k)
theorem fal_abs (x : Int) (hx : Abs 20 x) (k : Nat) (hk : k ≤ 6) : Abs ((26 ^ k : Nat) : Int) (fal x k) := by
  induction k with
  | zero => simp [fal, Abs]
  | succ k ih =>
    rw [fal, Nat.pow_succ]
    exact (ih (by omega)).mul (show Abs ((26 : Nat) : Int) (x - k) by unfold Abs at *; omega)
theorem fal_bd (x : Int) (hx : Abs 20 x) (k : Nat) (hk : k ≤ 6) : Abs 308915776 (fal x k) :=
  (fal_abs x hx k hk).mono (by
    have h2 : 26 ^ k ≤ 26 ^ 6 := Nat.pow_le_pow_right (by omega) hk
    omega)

/-- A sum of the first k terms. -/
def sumT (f : Nat → Int) : Nat → Int
  | 0 => 0
  | k + 1 => sumT f k + f k
theorem sumT_abs (f : Nat → Int) (b : Int) (n : Nat) (h : ∀ k, k < n → Abs b (f k)) : Abs (n * b) (sumT f n) := by
  induction n with
  | zero => simp [sumT, Abs]
  | succ n ih =>
    rw [sumT]
    refine ((ih (fun k hk => h k (by omega))).add (h n (by omega))).mono ?_
    rw [Int.natCast_succ, Int.add_mul, Int.one_mul]
    omega
theorem sumT_congr (f g : Nat → Int) (n : Nat) (h : ∀ k, k < n → f k = g k) : sumT f n = sumT g n := by
  induction n with
  | zero => rfl
  | succ n ih => rw [sumT, sumT, ih (fun k hk => h k (by omega)), h n (by omega)]

def polT (g : Nat → Nat) (x : Int) (k : Nat) : Int := (g k : Int) * x ^ k
theorem polT_abs (g : Nat → Nat) (x : Int) (hx : Abs 20 x) (k : Nat) (hk : k ≤ 7) (hg : g k ≤ 117649) : Abs 150590720000000 (polT g x k) :=
  ((show Abs ((117649 : Nat) : Int) (g k : Int) by unfold Abs; omega).mul (show Abs ((1280000000 : Nat) : Int) (x ^ k) from pow_abs x hx k hk)).mono (by decide)
def falT (g : Nat → Nat) (x : Int) (n k : Nat) : Int := (g k : Int) * fal x (n - k)
theorem falT_abs (g : Nat → Nat) (x : Int) (hx : Abs 20 x) (n k : Nat) (hn : n ≤ 6) (hg : g k ≤ 117649) : Abs 36343632130624 (falT g x n k) :=
  ((show Abs ((117649 : Nat) : Int) (g k : Int) by unfold Abs; omega).mul (show Abs ((308915776 : Nat) : Int) (fal x (n - k)) from fal_bd x hx _ (by omega))).mono (by decide)

/-- Choices of k of n things. -/
def chs : Nat → Nat → Nat
  | _, 0 => 1
  | 0, _ + 1 => 0
  | n + 1, k + 1 => chs n k + chs n (k + 1)
theorem chs_le (n k : Nat) (hn : n ≤ 6) (hk : k ≤ 6) : chs n k ≤ 20 := by
  have key : ∀ n : Fin 7, ∀ k : Fin 7, chs n k ≤ 20 := by decide +kernel
  exact key ⟨n, by omega⟩ ⟨k, by omega⟩
theorem chs_fal (n k : Nat) (hn : n ≤ 6) (hk : k ≤ n) : fal n k / fal k k = chs n k := by
  have key : ∀ n : Fin 7, ∀ k : Fin 7, (k : Nat) ≤ n → fal (n : Nat) (k : Nat) / fal (k : Nat) (k : Nat) = chs n k := by decide +kernel
  exact key ⟨n, by omega⟩ ⟨k, by omega⟩ hk
theorem chs_step (n k i : Nat) (hn : n ≤ 6) (hk : k ≤ n) (hi : i < k) : (chs (n - k + i) i : Int) * ((n : Int) - k + ((i : Int) + 1)) / ((i : Int) + 1) = chs (n - k + (i + 1)) (i + 1) := by
  have key : ∀ n : Fin 7, ∀ k : Fin 7, ∀ i : Fin 6, (k : Nat) ≤ n → (i : Nat) < k → (chs ((n : Nat) - k + i) i : Int) * (((n : Nat) : Int) - (k : Nat) + (((i : Nat) : Int) + 1)) / (((i : Nat) : Int) + 1) = chs ((n : Nat) - k + (i + 1)) (i + 1) := by decide +kernel
  exact key ⟨n, by omega⟩ ⟨k, by omega⟩ ⟨i, by omega⟩ hk hi
def fct (k : Nat) : Int := fal k k
theorem fct_bd (k : Nat) (hk : k ≤ 6) : 1 ≤ fct k ∧ fct k ≤ 720 := by
  have key : ∀ k : Fin 7, 1 ≤ fct k ∧ fct k ≤ 720 := by decide +kernel
  exact key ⟨k, by omega⟩

/-- One term of the alternating sum, without its sign. -/
def cmpT (g : Nat → Nat) (n k j : Nat) : Int := (g j : Int) * chs (n - j) (k - j) * chs (n - j) (k - j) * fct (k - j)
theorem cmpT_abs (g : Nat → Nat) (n k j : Nat) (hn : n ≤ 6) (hk : k ≤ n) (hg : g j ≤ 117649) : Abs 33882912000 (cmpT g n k j) := by
  have h1 := chs_le (n - j) (k - j) (by omega) (by omega)
  have h2 := fct_bd (k - j) (by omega)
  have hc : Abs ((20 : Nat) : Int) (chs (n - j) (k - j) : Int) := by unfold Abs; omega
  exact ((((show Abs ((117649 : Nat) : Int) (g j : Int) by unfold Abs; omega).mul hc).mul hc).mul (show Abs ((720 : Nat) : Int) (fct (k - j)) by unfold Abs; omega)).mono (by decide)
def sgn (j : Nat) : Int := if j % 2 = 1 then -1 else 1
def cmpS (g : Nat → Nat) (n k j : Nat) : Int := sgn j * cmpT g n k j
theorem cmpS_abs (g : Nat → Nat) (n k j : Nat) (hn : n ≤ 6) (hk : k ≤ n) (hg : g j ≤ 117649) : Abs 33882912000 (cmpS g n k j) := by
  have := cmpT_abs g n k j hn hk hg
  unfold cmpS sgn
  split
  · rw [Int.neg_one_mul]; exact this.neg
  · rw [Int.one_mul]; exact this
theorem sgn_succ (j : Nat) : sgn (j + 1) = - sgn j := by
  unfold sgn
  by_cases h : j % 2 = 1
  · rw [if_pos h, if_neg (by omega)]; rfl
  · rw [if_neg h, if_pos (by omega)]

end Go.Proofs.Ytakdiiccdkjjcac
end
