import Derived.Test.YtakdiiccdkjjcacFold18
import Derived.Test.YtakdiiccdkjjcacFold7
import Derived.Test.YtakdiiccdkjjcacFold20
namespace Go.Proofs.Ytakdiiccdkjjcac
open Go.RowKit

theorem cntG_rest (m t : Nat) : sumN (fun c => if t.testBit c = false then 1 else 0) m + cntG m t = m := by
  unfold cntG
  rw [← sumN_add, sumN_congr _ (fun _ => 1) m (fun c _ => by cases t.testBit c <;> rfl)]
  induction m with
  | zero => rfl
  | succ m ih => rw [sumN, ih]
theorem wR_succ (m : Nat) (B : Nat → Nat → Bool) (d f t k : Nat) : wR m B (d + 1) f t k = wR m B d (f + 1) t k + sumN (term B (wR m B d (f + 1)) f t k) m := by
  rw [wR, sumN_range]
theorem wR_more (m : Nat) (B : Nat → Nat → Bool) (d : Nat) : ∀ f t k, d < k → wR m B d f t k = 0 := by
  induction d with
  | zero => intro f t k h; rw [wR, if_neg (by omega)]
  | succ d ih =>
    intro f t k h
    rw [wR_succ, ih _ _ _ (by omega), sumN_congr _ (fun _ => 0) m (fun c _ => by
      unfold term
      split
      · rw [if_neg (by omega)]; exact ih _ _ _ (by omega)
      · rfl), sumN_zero]
theorem term_zero (B : Nat → Nat → Bool) (w : Nat → Nat → Nat) (f t m : Nat) : sumN (term B w f t 0) m = 0 := by
  rw [sumN_congr _ (fun _ => 0) m (fun c _ => by unfold term; split <;> rfl), sumN_zero]
/-- The second part of the ways: a rook in the row f. -/
def put1 (m : Nat) (B : Nat → Nat → Bool) (w : Nat → Nat → Nat) (f t i : Nat) : Nat := sumN (fun c => if t.testBit c = false then (if B f c = true then w (t ||| 2 ^ c) i else 0) else 0) m
theorem term_succ (m : Nat) (B : Nat → Nat → Bool) (w : Nat → Nat → Nat) (f t i : Nat) : sumN (term B w f t (i + 1)) m = put1 m B w f t i := by
  unfold put1
  refine sumN_congr _ _ _ (fun c _ => ?_)
  unfold term
  cases B f c <;> cases t.testBit c <;> simp
theorem or_swap (t a b : Nat) : (t ||| a) ||| b = (t ||| b) ||| a := by
  rw [Nat.or_assoc, Nat.or_comm a b, Nat.or_assoc]
theorem bit_both (t c c' : Nat) : (t ||| 2 ^ c).testBit c' = (t.testBit c' || decide (c = c')) := by
  rw [Nat.testBit_or, Nat.testBit_two_pow]
/-- Each way leaves the columns free that it doesn't take. -/
theorem freeSum (m : Nat) (B : Nat → Nat → Bool) (d : Nat) : ∀ f t j, sumN (fun c => if t.testBit c = false then wR m B d f (t ||| 2 ^ c) j else 0) m + (cntG m t + j) * wR m B d f t j = m * wR m B d f t j := by
  induction d with
  | zero =>
    intro f t j
    by_cases h : j = 0
    · subst h
      have := cntG_rest m t
      simp only [wR, if_true]
      omega
    · rw [sumN_congr _ (fun _ => 0) m (fun c _ => by
        show (if _ then wR m B 0 f _ j else 0) = 0
        rw [wR, if_neg h]; split <;> rfl), sumN_zero, wR, if_neg h]
      simp
  | succ d ih =>
    intro f t j
    cases j with
    | zero =>
      have e : ∀ t, wR m B (d + 1) f t 0 = wR m B d (f + 1) t 0 := fun t => by rw [wR_succ, term_zero, Nat.add_zero]
      rw [sumN_congr _ (fun c => if t.testBit c = false then wR m B d (f + 1) (t ||| 2 ^ c) 0 else 0) m (fun c _ => by
        show (if _ then _ else _) = (if _ then _ else _)
        rw [e]), e]
      exact ih _ _ _
    | succ i =>
      have e : ∀ t, wR m B (d + 1) f t (i + 1) = wR m B d (f + 1) t (i + 1) + put1 m B (wR m B d (f + 1)) f t i := fun t => by rw [wR_succ, term_succ]
      have h1 := ih (f + 1) t (i + 1)
      have e2 : sumN (fun c => if t.testBit c = false then wR m B (d + 1) f (t ||| 2 ^ c) (i + 1) else 0) m = sumN (fun c => if t.testBit c = false then wR m B d (f + 1) (t ||| 2 ^ c) (i + 1) else 0) m + sumN (fun c => if t.testBit c = false then put1 m B (wR m B d (f + 1)) f (t ||| 2 ^ c) i else 0) m := by
        rw [← sumN_add]
        refine sumN_congr _ _ _ (fun c _ => ?_)
        rw [e]
        split <;> rfl
      have e3 : sumN (fun c => if t.testBit c = false then put1 m B (wR m B d (f + 1)) f (t ||| 2 ^ c) i else 0) m = sumN (fun c' => if t.testBit c' = false then (if B f c' = true then sumN (fun c => if (t ||| 2 ^ c').testBit c = false then wR m B d (f + 1) ((t ||| 2 ^ c') ||| 2 ^ c) i else 0) m else 0) else 0) m := by
        have a1 : sumN (fun c => if t.testBit c = false then put1 m B (wR m B d (f + 1)) f (t ||| 2 ^ c) i else 0) m = sumN (fun c => sumN (fun c' => if t.testBit c = false then (if (t ||| 2 ^ c).testBit c' = false then (if B f c' = true then wR m B d (f + 1) ((t ||| 2 ^ c) ||| 2 ^ c') i else 0) else 0) else 0) m) m := by
          refine sumN_congr _ _ _ (fun c _ => ?_)
          split
          · rfl
          · rw [sumN_zero]
        have a2 : sumN (fun c' => if t.testBit c' = false then (if B f c' = true then sumN (fun c => if (t ||| 2 ^ c').testBit c = false then wR m B d (f + 1) ((t ||| 2 ^ c') ||| 2 ^ c) i else 0) m else 0) else 0) m = sumN (fun c' => sumN (fun c => if t.testBit c = false then (if (t ||| 2 ^ c).testBit c' = false then (if B f c' = true then wR m B d (f + 1) ((t ||| 2 ^ c) ||| 2 ^ c') i else 0) else 0) else 0) m) m := by
          refine sumN_congr _ _ _ (fun c' _ => ?_)
          cases ht : t.testBit c'
          · cases hB : B f c'
            · exact Eq.trans (by simp) ((sumN_zero m).symm.trans (sumN_congr _ _ _ (fun c _ => by simp)))
            · rw [if_pos rfl, if_pos rfl]
              refine sumN_congr _ _ _ (fun c _ => ?_)
              rw [bit_both, bit_both, ht, or_swap t (2 ^ c') (2 ^ c)]
              by_cases hc : c = c'
              · subst hc; simp
              · have hc2 : ¬ c' = c := fun h => hc h.symm
                cases t.testBit c <;> simp [hc, hc2]
          · exact Eq.trans (by simp) ((sumN_zero m).symm.trans (sumN_congr _ _ _ (fun c _ => by rw [bit_both, ht]; simp)))
        rw [a1, a2, sumN_swap]
      have e4 : sumN (fun c' => if t.testBit c' = false then (if B f c' = true then sumN (fun c => if (t ||| 2 ^ c').testBit c = false then wR m B d (f + 1) ((t ||| 2 ^ c') ||| 2 ^ c) i else 0) m else 0) else 0) m + (cntG m t + (i + 1)) * put1 m B (wR m B d (f + 1)) f t i = m * put1 m B (wR m B d (f + 1)) f t i := by
        unfold put1
        rw [← sumN_mul, ← sumN_mul, ← sumN_add]
        refine sumN_congr _ _ _ (fun c' hc' => ?_)
        cases ht : t.testBit c'
        · cases hB : B f c'
          · simp
          · simp only [if_true]
            have := ih (f + 1) (t ||| 2 ^ c') i
            rw [cntG_put m t c' hc' ht] at this
            rw [show cntG m t + (i + 1) = cntG m t + 1 + i by omega]
            exact this
        · simp
      rw [e2, e3, e, Nat.mul_add, Nat.mul_add]
      omega

/-- k! -/
def fN : Nat → Nat
  | 0 => 1
  | k + 1 => (k + 1) * fN k
/-- In how many ways d rows from f on carry rooks in columns that are not in t, j of those on the board being marked. -/
def eH (m : Nat) (B : Nat → Nat → Bool) : Nat → Nat → Nat → Nat → Nat
  | 0, _, _, j => if j = 0 then 1 else 0
  | d + 1, f, t, j => sumN (fun c => if t.testBit c = false then eH m B d (f + 1) (t ||| 2 ^ c) j else 0) m + (if j = 0 then 0 else sumN (fun c => if t.testBit c = false then (if B f c = true then eH m B d (f + 1) (t ||| 2 ^ c) (j - 1) else 0) else 0) m)
theorem eH_eq (m : Nat) (B : Nat → Nat → Bool) (d : Nat) : ∀ f t j, cntG m t + d = m → eH m B d f t j = wR m B d f t j * fN (d - j) := by
  induction d with
  | zero => intro f t j _; rw [eH, wR]; split <;> simp [fN]
  | succ d ih =>
    intro f t j hm
    rw [eH, wR_succ, Nat.add_mul]
    congr 1
    · rw [sumN_congr _ (fun c => (if t.testBit c = false then wR m B d (f + 1) (t ||| 2 ^ c) j else 0) * fN (d - j)) m (fun c hc => by
        show (if _ then _ else _) = (if _ then _ else _) * _
        cases ht : t.testBit c
        · have := cntG_put m t c hc ht
          simp only [if_true]
          exact ih _ _ _ (by omega)
        · simp), sumN_mulr]
      have h := freeSum m B d (f + 1) t j
      by_cases hj : d < j
      · have h0 := wR_more m B d (f + 1) t j hj
        rw [h0] at h ⊢
        simp only [Nat.mul_zero, Nat.add_zero] at h
        rw [h, Nat.zero_mul, Nat.zero_mul]
      · have e : sumN (fun c => if t.testBit c = false then wR m B d (f + 1) (t ||| 2 ^ c) j else 0) m = (d + 1 - j) * wR m B d (f + 1) t j := by
          have : m = (cntG m t + j) + (d + 1 - j) := by omega
          have h2 : m * wR m B d (f + 1) t j = (cntG m t + j) * wR m B d (f + 1) t j + (d + 1 - j) * wR m B d (f + 1) t j := by rw [← Nat.add_mul, ← this]
          omega
        rw [e, show d + 1 - j = (d - j) + 1 by omega, fN, Nat.mul_comm (d - j + 1), Nat.mul_assoc]
    · cases j with
      | zero => rw [if_pos rfl, term_zero, Nat.zero_mul]
      | succ i =>
        rw [if_neg (by omega), term_succ]
        unfold put1
        rw [← sumN_mulr]
        refine sumN_congr _ _ _ (fun c hc => ?_)
        cases ht : t.testBit c
        · have := cntG_put m t c hc ht
          cases B f c
          · simp
          · simp only [if_true]
            rw [Nat.add_sub_cancel, ih _ _ _ (by omega), show d + 1 - (i + 1) = d - i by omega]
        · simp
theorem eH_more (m : Nat) (B : Nat → Nat → Bool) (d : Nat) : ∀ f t j, d < j → eH m B d f t j = 0 := by
  induction d with
  | zero => intro f t j h; rw [eH, if_neg (by omega)]
  | succ d ih =>
    intro f t j h
    rw [eH, if_neg (by omega), sumN_congr _ (fun _ => 0) m (fun c _ => by
      show (if _ then _ else _) = _
      rw [ih _ _ _ (by omega)]; split <;> rfl), sumN_zero, sumN_congr _ (fun _ => 0) m (fun c _ => by
      show (if _ then _ else _) = _
      rw [ih _ _ _ (by omega)]; split <;> (try split) <;> rfl), sumN_zero]

/-- .. just k of those on the board. -/
def pH (m : Nat) (B : Nat → Nat → Bool) : Nat → Nat → Nat → Nat → Nat
  | 0, _, _, k => if k = 0 then 1 else 0
  | d + 1, f, t, k => sumN (fun c => if t.testBit c = false then (if B f c = true then (if k = 0 then 0 else pH m B d (f + 1) (t ||| 2 ^ c) (k - 1)) else pH m B d (f + 1) (t ||| 2 ^ c) k) else 0) m
/-- Choices, by turns with a sign. -/
def sgC : Nat → Nat → Int
  | 0, k => if k = 0 then 1 else 0
  | j + 1, k => (if k = 0 then 0 else sgC j (k - 1)) - sgC j k

theorem sumT_add (f g : Nat → Int) (n : Nat) : sumT (fun k => f k + g k) n = sumT f n + sumT g n := by
  induction n with
  | zero => rfl
  | succ n ih => rw [sumT, sumT, sumT, ih]; omega
theorem sumT_neg (f : Nat → Int) (n : Nat) : sumT (fun k => - f k) n = - sumT f n := by
  induction n with
  | zero => rfl
  | succ n ih => rw [sumT, sumT, ih]; omega
theorem sumT_zero (n : Nat) : sumT (fun _ => 0) n = 0 := by
  induction n with
  | zero => rfl
  | succ n ih => rw [sumT, ih]; rfl
theorem sumT_mul (a : Int) (f : Nat → Int) (n : Nat) : sumT (fun k => a * f k) n = a * sumT f n := by
  induction n with
  | zero => simp [sumT]
  | succ n ih => rw [sumT, sumT, ih, Int.mul_add]
theorem sumT_first (f : Nat → Int) (n : Nat) : sumT f (n + 1) = f 0 + sumT (fun k => f (k + 1)) n := by
  induction n with
  | zero => simp [sumT]
  | succ n ih => rw [sumT, ih, sumT]; omega
/-- A sum over columns of sums. -/
theorem sumT_sumN (f : Nat → Int) (g : Nat → Nat → Nat) (n m : Nat) : sumT (fun j => f j * (sumN (g j) m : Nat)) n = sumT (fun c => sumT (fun j => f j * (g j c : Nat)) n) m := by
  induction m with
  | zero =>
    simp only [sumN, sumT]
    rw [← sumT_zero n]
    exact sumT_congr _ _ _ (fun k _ => by simp)
  | succ m ih =>
    rw [sumT, ← ih, ← sumT_add]
    refine sumT_congr _ _ _ (fun k _ => ?_)
    rw [sumN, Int.natCast_add, Int.mul_add]
theorem sumN_cast (g : Nat → Nat) (m : Nat) : ((sumN g m : Nat) : Int) = sumT (fun c => (g c : Int)) m := by
  induction m with
  | zero => rfl
  | succ m ih => rw [sumN, sumT, Int.natCast_add, ih]

theorem pH_eq (m : Nat) (B : Nat → Nat → Bool) (d : Nat) : ∀ N f t k, d < N → (pH m B d f t k : Int) = sumT (fun j => sgC j k * (eH m B d f t j : Nat)) N := by
  induction d with
  | zero =>
    intro N f t k hN
    obtain ⟨N, rfl⟩ : ∃ M, N = M + 1 := ⟨N - 1, by omega⟩
    rw [sumT_first, sumT_congr _ (fun _ => 0) N (fun j _ => by simp [eH]), sumT_zero, pH, eH, if_pos rfl, sgC]
    split <;> simp
  | succ d ih =>
    intro N f t k hN
    have e1 : sumT (fun j => sgC j k * (eH m B (d + 1) f t j : Nat)) N = sumT (fun j => sgC j k * (sumN (fun c => if t.testBit c = false then eH m B d (f + 1) (t ||| 2 ^ c) j else 0) m : Nat)) N + sumT (fun j => sgC j k * (sumN (fun c => if j = 0 then 0 else if t.testBit c = false then (if B f c = true then eH m B d (f + 1) (t ||| 2 ^ c) (j - 1) else 0) else 0) m : Nat)) N := by
      rw [← sumT_add]
      refine sumT_congr _ _ _ (fun j _ => ?_)
      rw [eH, Int.natCast_add, Int.mul_add]
      congr 2
      by_cases h : j = 0
      · subst h
        simp only [if_true]
        rw [sumN_zero]
      · simp only [if_neg h]
    rw [e1, sumT_sumN, sumT_sumN, ← sumT_add, pH, sumN_cast]
    refine sumT_congr _ _ _ (fun c _ => ?_)
    cases ht : t.testBit c
    · simp only [if_true]
      rw [← ih N (f + 1) (t ||| 2 ^ c) k (by omega)]
      cases hB : B f c
      · rw [sumT_congr (fun j => sgC j k * ((if j = 0 then 0 else (if false = true then eH m B d (f + 1) (t ||| 2 ^ c) (j - 1) else 0) : Nat) : Int)) (fun _ => 0) N (fun j _ => by
          show _ * ((if _ then _ else _ : Nat) : Int) = _
          split <;> simp), sumT_zero]
        simp
      · obtain ⟨M, rfl⟩ : ∃ M, N = M + 1 := ⟨N - 1, by omega⟩
        rw [sumT_first]
        simp only [if_true, Int.natCast_zero, Int.mul_zero, Int.zero_add, Nat.add_eq_zero_iff, Nat.one_ne_zero, and_false, if_false, Nat.add_sub_cancel]
        have a1 := ih M (f + 1) (t ||| 2 ^ c) k (show d < M by omega)
        have a2 : sumT (fun j => sgC (j + 1) k * (eH m B d (f + 1) (t ||| 2 ^ c) j : Nat)) M = (if k = 0 then 0 else (pH m B d (f + 1) (t ||| 2 ^ c) (k - 1) : Int)) - (pH m B d (f + 1) (t ||| 2 ^ c) k : Int) := by
          rw [a1]
          by_cases hk : k = 0
          · subst hk
            rw [if_pos rfl, Int.zero_sub, ← sumT_neg]
            refine sumT_congr _ _ _ (fun j _ => ?_)
            rw [sgC, if_pos rfl, Int.zero_sub, Int.neg_mul]
          · rw [if_neg hk, ih M (f + 1) (t ||| 2 ^ c) (k - 1) (show d < M by omega), Int.sub_eq_add_neg, ← sumT_neg, ← sumT_add]
            refine sumT_congr _ _ _ (fun j _ => ?_)
            rw [sgC, if_neg hk, Int.sub_mul, Int.sub_eq_add_neg]
        rw [a2]
        by_cases hk : k = 0
        · simp [hk]; omega
        · simp [hk]; omega
    · simp
      rw [sumT_zero]; rfl
/-- Hits of the whole board, off rook numbers. -/
theorem hits_of (n : Nat) (B : Nat → Nat → Bool) (k : Nat) : (pH n B n 0 0 k : Int) = sumT (fun j => sgC j k * ((wR n B n 0 0 j * fN (n - j) : Nat) : Int)) (n + 1) := by
  rw [pH_eq n B n (n + 1) 0 0 k (by omega)]
  refine sumT_congr _ _ _ (fun j _ => ?_)
  rw [eH_eq n B n 0 0 j (by rw [cntG_zero]; omega)]

end Go.Proofs.Ytakdiiccdkjjcac
