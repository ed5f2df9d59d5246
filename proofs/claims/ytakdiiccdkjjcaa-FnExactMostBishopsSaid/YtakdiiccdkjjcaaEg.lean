/- Products of lists without zeros at their end: the plain part. No condition. -/
import Derived.Test.YtakdiiccdkjjcaaEa
import Derived.Test.YtakdiiccdkjjcaaMv
import Derived.Test.YtakdiiccdkjjcaaRn
namespace Go.Proofs.Ytakdiiccdkjjcaa
open Go.RowKit Go.WideShapes

theorem rowP_get (z : List Int) (x : Int) (i : Nat) (b : List Int) (j : Nat) (h : i + j ≤ z.length) (k : Nat) :
    (rowP z x i b j).getD k 0 = z.getD k 0 + if i ≤ k ∧ k < i + j then x * b.getD (k - i) 0 else 0 := by
  induction j with
  | zero => rw [rowP, if_neg (by omega), Int.add_zero]
  | succ j ih =>
    rw [rowP]
    unfold plusAt
    by_cases e : k = i + j
    · subst e
      rw [List.getD_eq_getElem?_getD, List.getElem?_set_self (by rw [rowP_len]; omega), Option.getD_some, ih (by omega), if_neg (by omega), if_pos (by omega), Nat.add_sub_cancel_left, Int.add_zero]
    · rw [List.getD_eq_getElem?_getD, List.getElem?_set_ne (fun h => e h.symm), ← List.getD_eq_getElem?_getD, ih (by omega)]
      by_cases h1 : i ≤ k ∧ k < i + j
      · rw [if_pos h1, if_pos (by omega)]
      · rw [if_neg h1, if_neg (by omega)]
theorem far_zero (xs : List Int) (k : Nat) (h : xs.length ≤ k) : xs.getD k 0 = 0 := by simp [List.getD, h]
/-- A number of the product. -/
def cvP (a b : List Int) (i k : Nat) : Int := sg i (fun p => if p ≤ k then a.getD p 0 * b.getD (k - p) 0 else 0)
theorem allP_get (a b : List Int) (hb : 0 < b.length) (i : Nat) (hi : i ≤ a.length) (k : Nat) : (allP a b i).getD k 0 = cvP a b i k := by
  induction i with
  | zero =>
    show (List.replicate (a.length + b.length - 1) (0 : Int)).getD k 0 = 0
    rw [List.getD_eq_getElem?_getD, List.getElem?_replicate]
    split <;> rfl
  | succ i ih =>
    rw [allP, rowP_get _ _ _ _ _ (by rw [allP_len]; omega), ih (by omega)]
    unfold cvP
    rw [sg]
    congr 1
    by_cases h1 : i ≤ k
    · rw [if_pos h1]
      by_cases h2 : k < i + b.length
      · rw [if_pos ⟨h1, h2⟩]
      · rw [if_neg (by omega), far_zero b (k - i) (by omega), Int.mul_zero]
    · rw [if_neg h1, if_neg (by omega)]
/-- The list without zeros at its end. -/
def shcL (xs : List Int) : List Int := xs.take (shK xs xs.length)
theorem shK_zero (xs : List Int) (n k : Nat) (h1 : shK xs n ≤ k) (h2 : k < n) : xs.getD k 0 = 0 := by
  induction n with
  | zero => omega
  | succ n ih =>
    rw [shK] at h1
    split at h1
    · rename_i h0
      by_cases e : k = n
      · rw [e]; exact h0
      · exact ih h1 (by omega)
    · omega
theorem shK_last (xs : List Int) (n : Nat) (h : 0 < shK xs n) : xs.getD (shK xs n - 1) 0 ≠ 0 := by
  induction n with
  | zero => simp [shK] at h
  | succ n ih =>
    rw [shK] at h ⊢
    split
    · rename_i h0
      rw [if_pos h0] at h
      exact ih h
    · rename_i h0
      rw [Nat.add_sub_cancel]
      exact h0
theorem shK_is (xs : List Int) (e : Nat) (n : Nat) (he : e ≤ n) (hz : ∀ k, e ≤ k → k < n → xs.getD k 0 = 0) (hl : 0 < e → xs.getD (e - 1) 0 ≠ 0) : shK xs n = e := by
  induction n with
  | zero => rw [shK]; omega
  | succ n ih =>
    rw [shK]
    by_cases h : e = n + 1
    · rw [if_neg (by have := hl (by omega); rw [h, Nat.add_sub_cancel] at this; exact this), h]
    · rw [if_pos (hz n (by omega) (by omega)), ih (by omega) (fun k h1 h2 => hz k h1 (by omega))]
theorem shcL_len (xs : List Int) : (shcL xs).length = shK xs xs.length := by
  unfold shcL
  rw [List.length_take]
  have := shK_le xs xs.length
  omega
theorem shcL_get (xs : List Int) (k : Nat) : (shcL xs).getD k 0 = xs.getD k 0 := by
  unfold shcL
  by_cases h : k < shK xs xs.length
  · simp [List.getD, h]
  · rw [far_zero _ k (by rw [List.length_take]; omega)]
    by_cases h2 : k < xs.length
    · exact (shK_zero xs xs.length k (by omega) h2).symm
    · exact (far_zero xs k (by omega)).symm
theorem sg_more (f : Nat → Int) (n d : Nat) (h : ∀ k, n ≤ k → f k = 0) : sg (n + d) f = sg n f := by
  induction d with
  | zero => rfl
  | succ d ih => rw [← Nat.add_assoc, sg, ih, h (n + d) (by omega), Int.add_zero]
theorem cvP_short (a b : List Int) (k : Nat) : cvP (shcL a) (shcL b) (shcL a).length k = cvP a b a.length k := by
  have h1 := shK_le a a.length
  have e : a.length = (shcL a).length + (a.length - (shcL a).length) := by rw [shcL_len]; omega
  unfold cvP
  rw [e, sg_more]
  · exact sg_congr _ _ _ (fun p _ => by rw [shcL_get, shcL_get])
  · intro p hp
    rw [← shcL_get a p, far_zero (shcL a) p hp, Int.zero_mul]
    simp
/-- The product of shortened lists is the shortened product. -/
theorem all_short (a b : List Int) (ha : 0 < shK a a.length) (hb : 0 < shK b b.length) : shcL (allP a b a.length) = allP (shcL a) (shcL b) (shcL a).length := by
  have la := shK_le a a.length
  have lb := shK_le b b.length
  have hla := shcL_len a
  have hlb := shcL_len b
  have hg : ∀ k, (allP a b a.length).getD k 0 = (allP (shcL a) (shcL b) (shcL a).length).getD k 0 := fun k => by
    rw [allP_get a b (by omega) _ (Nat.le_refl _), allP_get (shcL a) (shcL b) (by omega) _ (Nat.le_refl _), cvP_short]
  have hlen : shK (allP a b a.length) (allP a b a.length).length = (shcL a).length + (shcL b).length - 1 := by
    refine shK_is _ _ _ (by rw [allP_len]; omega) (fun k h1 h2 => ?_) (fun h0 => ?_)
    · rw [hg, far_zero _ k (by rw [allP_len]; omega)]
    · rw [hg, allP_get _ _ (by omega) _ (Nat.le_refl _)]
      unfold cvP
      have hA : (shcL a).getD ((shcL a).length - 1) 0 ≠ 0 := by rw [shcL_get, hla]; exact shK_last a a.length ha
      have hB : (shcL b).getD ((shcL b).length - 1) 0 ≠ 0 := by rw [shcL_get, hlb]; exact shK_last b b.length hb
      have e : (shcL a).length = ((shcL a).length - 1) + 1 := by omega
      rw [e, sg, sg_congr _ _ (fun _ => 0) (fun p hp => ?_), sg_zero, Int.zero_add, if_pos (by omega)]
      · rw [show (shcL a).length - 1 + 1 + (shcL b).length - 1 - 1 - ((shcL a).length - 1) = (shcL b).length - 1 by omega]
        exact Int.mul_ne_zero hA hB
      · by_cases h3 : p ≤ (shcL a).length - 1 + 1 + (shcL b).length - 1 - 1
        · rw [if_pos h3, far_zero (shcL b) _ (by omega), Int.mul_zero]
        · rw [if_neg h3]
  have e1 : (shcL (allP a b a.length)).length = (allP (shcL a) (shcL b) (shcL a).length).length := by rw [shcL_len, hlen, allP_len]
  refine List.ext_getElem e1 fun k h1 h2 => ?_
  have h3 := hg k
  rw [← shcL_get (allP a b a.length) k] at h3
  rw [List.getD_eq_getElem?_getD, List.getD_eq_getElem?_getD, List.getElem?_eq_getElem h1, List.getElem?_eq_getElem h2] at h3
  exact h3
theorem all_one (b : List Int) (hb : 0 < b.length) : allP [1] b 1 = b := by
  have e1 : (allP [1] b 1).length = b.length := by rw [allP_len]; simp
  refine List.ext_getElem e1 fun k h1 h2 => ?_
  have h3 := allP_get [1] b hb 1 (by simp) k
  unfold cvP at h3
  rw [sg, sg, if_pos (by omega)] at h3
  simp only [List.getD_cons_zero, Nat.sub_zero, Int.one_mul, Int.zero_add] at h3
  rw [List.getD_eq_getElem?_getD, List.getD_eq_getElem?_getD, List.getElem?_eq_getElem h1, List.getElem?_eq_getElem h2] at h3
  exact h3

/-- Rook numbers: a bound, and the first one. -/
def chB : Nat → Nat → Nat
  | 0, k => if k = 0 then 1 else 0
  | d + 1, 0 => chB d 0
  | d + 1, k + 1 => chB d (k + 1) + chB d k
theorem sum_map_le (l : List Nat) (f : Nat → Nat) (X : Nat) (h : ∀ c, f c ≤ X) : (l.map f).sum ≤ l.length * X := by
  induction l with
  | nil => simp
  | cons c l ih =>
    rw [List.map_cons, List.sum_cons, List.length_cons, Nat.succ_mul]
    have := h c
    omega
theorem wR_ch (m : Nat) (B : Nat → Nat → Bool) (d : Nat) : ∀ f t k, wR m B d f t k ≤ chB d k * m ^ k := by
  induction d with
  | zero => intro f t k; unfold wR chB; split <;> simp_all
  | succ d ih =>
    intro f t k
    rw [wR]
    cases k with
    | zero =>
      have h1 := ih (f + 1) t 0
      have h2 := sum_map_le (List.range m) (term B (wR m B d (f + 1)) f t 0) 0 (fun c => by unfold term; split <;> simp)
      rw [chB]
      omega
    | succ k =>
      have h1 := ih (f + 1) t (k + 1)
      have h2 := sum_map_le (List.range m) (term B (wR m B d (f + 1)) f t (k + 1)) (chB d k * m ^ k) (fun c => by
        unfold term
        split
        · rw [if_neg (by omega), Nat.add_sub_cancel]; exact ih _ _ _
        · exact Nat.zero_le _)
      rw [List.length_range] at h2
      rw [chB, Nat.add_mul]
      have e : m * (chB d k * m ^ k) = chB d k * m ^ (k + 1) := by rw [Nat.pow_succ, Nat.mul_comm m, Nat.mul_assoc]
      omega
theorem wR_first (m : Nat) (B : Nat → Nat → Bool) (d : Nat) : ∀ f t, wR m B d f t 0 = 1 := by
  induction d with
  | zero => intro f t; rfl
  | succ d ih =>
    intro f t
    have h2 := sum_map_le (List.range m) (term B (wR m B d (f + 1)) f t 0) 0 (fun c => by unfold term; split <;> simp)
    rw [wR, ih]
    omega
theorem numL_small (n m : Nat) (hn : n ≤ 6) (hm : m ≤ 6) (B : Nat → Nat → Bool) (k : Nat) : 0 ≤ (numL n m B).getD k 0 ∧ (numL n m B).getD k 0 ≤ 100000 := by
  by_cases h : k < min n m + 1
  · rw [numL_get n m B k h]
    have h1 := wR_ch m B n 0 0 k
    have key : ∀ n m k : Fin 7, chB n k * m.val ^ k.val ≤ 100000 := by decide +kernel
    have h2 := key ⟨n, by omega⟩ ⟨m, by omega⟩ ⟨k, by omega⟩
    simp only at h2
    omega
  · rw [far_zero _ k (by rw [numL_len]; omega)]
    omega
theorem numL_sh (n m : Nat) (B : Nat → Nat → Bool) : 0 < shK (numL n m B) (numL n m B).length := by
  rcases Nat.eq_zero_or_pos (shK (numL n m B) (numL n m B).length) with h | h
  · have h1 := shK_zero (numL n m B) (numL n m B).length 0 (by omega) (by rw [numL_len]; omega)
    rw [numL_get n m B 0 (by omega), wR_first] at h1
    simp at h1
  · exact h
theorem facB_of (xs : List Int) (h1 : 1 ≤ xs.length) (h2 : xs.length ≤ 7) (hb : ∀ k, 0 ≤ xs.getD k 0 ∧ xs.getD k 0 ≤ 100000) : facB xs = true := by
  unfold facB within
  rw [Bool.and_eq_true, List.all_eq_true]
  refine ⟨inB_yes (by omega) (by omega), fun x hx => ?_⟩
  obtain ⟨k, hk, rfl⟩ := List.getElem_of_mem hx
  have := hb k
  rw [List.getD_eq_getElem?_getD, List.getElem?_eq_getElem hk] at this
  simpa using this
theorem numL_fac (n m : Nat) (hn : n ≤ 6) (hm : m ≤ 6) (B : Nat → Nat → Bool) : facB (numL n m B) = true ∧ facB (shcL (numL n m B)) = true := by
  have h0 := numL_sh n m B
  have h1 := shK_le (numL n m B) (numL n m B).length
  have hl := numL_len n m B
  have hs := shcL_len (numL n m B)
  refine ⟨facB_of _ (by omega) (by omega) (numL_small n m hn hm B), facB_of _ (by omega) (by omega) (fun k => ?_)⟩
  rw [shcL_get]
  exact numL_small n m hn hm B k

end Go.Proofs.Ytakdiiccdkjjcaa
