/- The values of weights: the plain part. No condition. -/
import Derived.Test.YtakdiiccdkjjcabKa
import Derived.Test.YtakdiiccdkjjcabPo
namespace Go.Proofs.Ytakdiiccdkjjcab
open Go.RowKit

/-- One term of a value. -/
def trmW (x : Int) (xs : List Int) (e : Nat) : Int := xs.getD e 0 * x ^ e
/-- The value of weights. -/
def valW (x : Int) (xs : List Int) : Int := sumT (trmW x xs) xs.length
theorem sumT_far (f : Nat → Int) (n N : Nat) (h : n ≤ N) (h0 : ∀ k, n ≤ k → f k = 0) : sumT f N = sumT f n := by
  induction N with
  | zero => rw [show n = 0 by omega]
  | succ N ih =>
    by_cases e : n = N + 1
    · rw [e]
    · rw [sumT, ih (by omega), h0 N (by omega), Int.add_zero]
theorem sumT_add (f g : Nat → Int) (n : Nat) : sumT (fun k => f k + g k) n = sumT f n + sumT g n := by
  induction n with
  | zero => rfl
  | succ n ih => rw [sumT, sumT, sumT, ih]; omega
theorem sumT_mul (c : Int) (f : Nat → Int) (n : Nat) : sumT (fun k => c * f k) n = c * sumT f n := by
  induction n with
  | zero => simp [sumT]
  | succ n ih => rw [sumT, sumT, ih, Int.mul_add]
theorem sumT_shift (f : Nat → Int) (s n : Nat) : sumT f (s + n) = sumT f s + sumT (fun k => f (s + k)) n := by
  induction n with
  | zero => simp [sumT]
  | succ n ih => rw [← Nat.add_assoc, sumT, sumT, ih]; omega
theorem sumT_none (n : Nat) : sumT (fun _ => 0) n = 0 := by
  induction n with
  | zero => rfl
  | succ n ih => rw [sumT, ih]; rfl
theorem valW_far (x : Int) (xs : List Int) (N : Nat) (h : xs.length ≤ N) : valW x xs = sumT (trmW x xs) N :=
  (sumT_far _ _ _ h (fun k hk => by rw [trmW, getD_far _ _ hk, Int.zero_mul])).symm
theorem valW_add (x : Int) (a b : List Int) : valW x (addL a b) = valW x a + valW x b := by
  rw [valW_far x a (max a.length b.length) (by omega), valW_far x b (max a.length b.length) (by omega), ← sumT_add, valW, addL_len]
  exact sumT_congr _ _ _ (fun k _ => by rw [trmW, trmW, trmW, addL_get, Int.add_mul])
theorem valW_up (x : Int) (s : Nat) (a : List Int) : valW x (upL s a) = x ^ s * valW x a := by
  rw [valW_far x (upL s a) (s + a.length) (by rw [upL_len]; split <;> omega), sumT_shift, valW, ← sumT_mul]
  rw [sumT_congr (trmW x (upL s a)) (fun _ => 0) s (fun k hk => by rw [trmW, upL_get, if_pos hk, Int.zero_mul]), sumT_none, Int.zero_add]
  refine sumT_congr _ _ _ (fun k _ => ?_)
  show trmW x (upL s a) (s + k) = x ^ s * trmW x a k
  rw [trmW, trmW, upL_get, if_neg (by omega), Nat.add_sub_cancel_left, Int.pow_add, Int.mul_left_comm]
/-- The bracket. -/
def brk (x : Int) (t : Nat) : Int := sumT (fun a => x ^ a) t
theorem brk_succ (x : Int) (t : Nat) : brk x (t + 1) = brk x t + x ^ t := rfl
theorem brk_horner (x : Int) (t : Nat) : brk x (t + 1) = brk x t * x + 1 := by
  induction t with
  | zero => simp [brk, sumT]
  | succ t ih =>
    have h : brk x (t + 1) * x = brk x t * x + x ^ (t + 1) := by rw [brk_succ, Int.add_mul, Int.pow_succ]
    rw [brk_succ x (t + 1), h]
    omega
theorem valW_beh (x : Int) (same fewer : List Int) (s t : Nat) : valW x (behL same fewer s t) = x ^ s * valW x same + brk x t * valW x fewer := by
  induction t with
  | zero => rw [behL, valW_up]; simp [brk, sumT]
  | succ t ih => rw [behL, valW_add, ih, valW_up, brk_succ, Int.add_mul]; omega

def preV (V : Nat → Int) : Nat → Int
  | 0 => 0
  | k + 1 => V k
/-- The values of the weights, by themselves. -/
def vN (x : Int) (xs : List Int) : Nat → Nat → Int
  | 0, k => if k = 0 then 1 else 0
  | i + 1, k => if xs.getD i 0 < k then 0 else x ^ (xs.getD i 0 - k).toNat * vN x xs i k + brk x ((xs.getD i 0 - k).toNat + 1) * preV (vN x xs i) k
theorem valW_nil (x : Int) : valW x [] = 0 := rfl
theorem valW_wts (x : Int) (xs : List Int) (i k : Nat) : valW x (wts xs i k) = vN x xs i k := by
  induction i generalizing k with
  | zero =>
    rw [wts, vN]
    split
    · simp [valW, sumT, trmW]
    · rfl
  | succ i ih =>
    rw [wts, rowW, vN]
    split
    · rfl
    · rw [valW_beh, ih]
      cases k with
      | zero => rw [preW, preV, valW_nil]
      | succ k => rw [preW, preV, ih]

theorem brk_bd : ∀ q : Fin 4, ∀ t : Fin 7, 0 ≤ brk ((q : Nat) : Int) t ∧ brk ((q : Nat) : Int) t ≤ 364 := by decide +kernel
theorem pow_bd3 : ∀ q : Fin 4, ∀ t : Fin 7, 0 ≤ (((q : Nat) : Int)) ^ (t : Nat) ∧ (((q : Nat) : Int)) ^ (t : Nat) ≤ 729 ∧ ((t : Nat) < 6 → (((q : Nat) : Int)) ^ (t : Nat) ≤ 243) := by decide +kernel
theorem vN_bd (q : Nat) (hq : q ≤ 3) (xs : List Int) (h : ∀ k, xs.getD k 0 ≤ 6) (i k : Nat) : 0 ≤ vN q xs i k ∧ vN q xs i k ≤ 729 ^ i := by
  induction i generalizing k with
  | zero => rw [vN]; split <;> simp
  | succ i ih =>
    have p : (0 : Int) ≤ 729 ^ i := Int.pow_nonneg (by decide)
    rw [vN, Int.pow_succ]
    have hm := h i
    split
    · exact ⟨Int.le_refl _, Int.mul_nonneg p (by decide)⟩
    · rename_i hk
      have a := ih k
      generalize hs : (xs.getD i 0 - (k : Int)).toNat = s
      have p1 := pow_bd3 ⟨q, by omega⟩ ⟨s, by omega⟩
      simp only at p1
      cases k with
      | zero =>
        rw [preV, Int.mul_zero, Int.add_zero]
        refine ⟨Int.mul_nonneg p1.1 a.1, ?_⟩
        have := Int.mul_le_mul p1.2.1 a.2 a.1 (by decide)
        omega
      | succ k =>
        have b := ih k
        have p2 := brk_bd ⟨q, by omega⟩ ⟨s + 1, by omega⟩
        simp only at p2
        rw [preV]
        have u1 := Int.mul_nonneg p1.1 a.1
        have u2 := Int.mul_nonneg p2.1 b.1
        have u3 := Int.mul_le_mul (p1.2.2 (by omega)) a.2 a.1 (by decide)
        have u4 := Int.mul_le_mul p2.2 b.2 b.1 (by decide)
        omega
theorem pow729 (i : Nat) (h : i ≤ 6) : (729 : Int) ^ i ≤ 150094635296999121 := by
  match i, h with
  | 0, _ | 1, _ | 2, _ | 3, _ | 4, _ | 5, _ | 6, _ => decide
theorem trmW_pos {xs : List Int} (h : CanL xs) (q : Nat) (e : Nat) : 0 ≤ trmW q xs e := Int.mul_nonneg (h.pos e) (Int.pow_nonneg (by omega))
theorem sumT_up (f : Nat → Int) (h : ∀ k, 0 ≤ f k) (a b : Nat) (hab : a ≤ b) : sumT f a ≤ sumT f b := by
  induction b with
  | zero => rw [show a = 0 by omega]; exact Int.le_refl _
  | succ b ih =>
    by_cases e : a = b + 1
    · rw [e]; exact Int.le_refl _
    · have := ih (by omega)
      have := h b
      rw [sumT]
      omega
theorem sumT_pos (f : Nat → Int) (h : ∀ k, 0 ≤ f k) (a : Nat) : 0 ≤ sumT f a := sumT_up f h 0 a (Nat.zero_le _)
/-- No sum on the way to a value of weights is too great. -/
theorem valW_parts (q : Nat) (hq : q ≤ 3) (xs : List Int) (h : ∀ k, xs.getD k 0 ≤ 6) (i k : Nat) (hi : i ≤ 6) (e : Nat) (he : e < (wts xs i k).length) :
    0 ≤ trmW q (wts xs i k) e ∧ trmW q (wts xs i k) e ≤ 150094635296999121 ∧ 0 ≤ sumT (trmW q (wts xs i k)) e ∧ sumT (trmW q (wts xs i k)) e + trmW q (wts xs i k) e ≤ 150094635296999121 := by
  have hp := trmW_pos (wts_can xs i k) q
  have h1 := sumT_pos _ hp e
  have h2 := sumT_up _ hp (e + 1) _ (by omega : e + 1 ≤ (wts xs i k).length)
  have h3 := valW_wts q xs i k
  have h4 := (vN_bd q hq xs h i k).2
  have h5 := pow729 i hi
  have h6 := hp e
  rw [sumT] at h2
  rw [valW] at h3
  omega
end Go.Proofs.Ytakdiiccdkjjcab
