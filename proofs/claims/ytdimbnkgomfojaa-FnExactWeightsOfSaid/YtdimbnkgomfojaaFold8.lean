import Derived.Test.YtdimbnkgomfojaaFold6
import Derived.Test.YtdimbnkgomfojaaFold7
import Derived.Test.YtdimbnkgomfojaaFold4
import Derived.IntWalk

section
namespace Go.Proofs.Ytdimbnkgomfojaa
open Go.RowKit

/-- One term of a value. -/
def trmW (x : Int) (xs : List Int) (e : Nat) : Int := xs.getD e 0 * x ^ e
/-- The value of weights. -/
def valW (x : Int) (xs : List Int) : Int := sumT (trmW x xs) xs.length
theorem sumT_far (f : Nat → Int) (n N : Nat) (h : n ≤ N) (h0 : ∀ k, n ≤ k → f k = 0) : sumT f N = sumT f n := by
  induction N with
  | zero => rw [show n = 0 by omega]
  | succ N ih =>
    by_cases e : n = N + 1
    · rw [e]
    · rw [sumT, ih (by omega), h0 N (by omega), Int.add_zero]
theorem sumT_add (f g : Nat → Int) (n : Nat) : sumT (fun k => f k + g k) n = sumT f n + sumT g n := by
  induction n with
  | zero => rfl
  | succ n ih => rw [sumT, sumT, sumT, ih]; omega
theorem sumT_mul (c : Int) (f : Nat → Int) (n : Nat) : sumT (fun k => c * f k) n = c * sumT f n := by
  induction n with
  | zero => simp [sumT]
  | succ n ih => rw [sumT, sumT, ih, Int.mul_add]
theorem sumT_shift (f : Nat → Int) (s n : Nat) : sumT f (s + n) = sumT f s + sumT (fun k => f (s + k)) n := by
  induction n with
  | zero => simp [sumT]
  | succ n ih => rw [← Nat.add_assoc, sumT, sumT, ih]; omega
theorem sumT_none (n : Nat) : sumT (fun _ => 0) n = 0 := by
  induction n with
  | zero => rfl
  | succ n ih => rw [sumT, ih]; rfl
theorem valW_far (x : Int) (xs : List Int) (N : Nat) (h : xs.length ≤ N) : valW x xs = sumT (trmW x xs) N :=
  (sumT_far _ _ _ h (fun k hk => by rw [trmW, getD_far _ _ hk, Int.zero_mul])).symm
theorem valW_add (x : Int) (a b : List Int) : valW x (addL a b) = valW x a + valW x b := by
  rw [valW_far x a (max a.length b.length) (by omega), valW_far x b (max a.length b.length) (by omega), ← sumT_add, valW, addL_len]
  exact sumT_congr _ _ _ (fun k _ => by rw [trmW, trmW, trmW, addL_get, Int.add_mul])
theorem valW_up (x : Int) (s : Nat) (a : List Int) : valW x (upL s a) = x ^ s * valW x a := by
  rw [valW_far x (upL s a) (s + a.length) (by rw [upL_len]; split <;> omega), sumT_shift, valW, ← sumT_mul]
  rw [sumT_congr (trmW x (upL s a)) (fun _ => 0) s (fun k hk => by rw [trmW, upL_get, if_pos hk, Int.zero_mul]), sumT_none, Int.zero_add]
  refine sumT_congr _ _ _ (fun k _ => ?_)
  show trmW x (upL s a) (s + k) = x ^ s * trmW x a k
  rw [trmW, trmW, upL_get, if_neg (by omega), Nat.add_sub_cancel_left, Int.pow_add, Int.mul_left_comm]
/-- The bracket. -/
def brk (x : Int) (t : Nat) : Int := sumT (fun a => x ^ a) t
theorem brk_succ (x : Int) (t : Nat) : brk x (t + 1) = brk x t + x ^ t := rfl
theorem brk_horner (x : Int) (t : Nat) : brk x (t + 1) = brk x t * x + 1 := by
  induction t with
  | zero => simp [brk, sumT]
  | succ t ih =>
    have h : brk x (t + 1) * x = brk x t * x + x ^ (t + 1) := by rw [brk_succ, Int.add_mul, Int.pow_succ]
    rw [brk_succ x (t + 1), h]
    omega
theorem valW_beh (x : Int) (same fewer : List Int) (s t : Nat) : valW x (behL same fewer s t) = x ^ s * valW x same + brk x t * valW x fewer := by
  induction t with
  | zero => rw [behL, valW_up]; simp [brk, sumT]
  | succ t ih => rw [behL, valW_add, ih, valW_up, brk_succ, Int.add_mul]; omega

def preV (V : Nat → Int) : Nat → Int
  | 0 => 0
  | k + 1 => V k
/-- The values of the weights, by themselves. -/
def vN (x : Int) (xs : List Int) : Nat → Nat → Int
  | 0, k => if k = 0 then 1 else 0
  | i + 1, k => if xs.getD i 0 < k then 0 else x ^ (xs.getD i 0 - k).toNat * vN x xs i k + brk x ((xs.getD i 0 - k).toNat + 1) * preV (vN x xs i) k
theorem valW_nil (x : Int) : valW x [] = 0 := rfl
theorem valW_wts (x : Int) (xs : List Int) (i k : Nat) : valW x (wts xs i k) = vN x xs i k := by
  induction i generalizing k with
  | zero =>
    rw [wts, vN]
    split
    · simp [valW, sumT, trmW]
    · rfl
  | succ i ih =>
    rw [wts, rowW, vN]
    split
    · rfl
    · rw [valW_beh, ih]
      cases k with
      | zero => rw [preW, preV, valW_nil]
      | succ k => rw [preW, preV, ih]

theorem brk_bd : ∀ q : Fin 4, ∀ t : Fin 7, 0 ≤ brk ((q : Nat) : Int) t ∧ brk ((q : Nat) : Int) t ≤ 364 := by decide +kernel
theorem pow_bd3 : ∀ q : Fin 4, ∀ t : Fin 7, 0 ≤ (((q : Nat) : Int)) ^ (t : Nat) ∧ (((q : Nat) : Int)) ^ (t : Nat) ≤ 729 ∧ ((t : Nat) < 6 → (((q : Nat) : Int)) ^ (t : Nat) ≤ 243) := by decide +kernel
theorem vN_bd (q : Nat) (hq : q ≤ 3) (xs : List Int) (h : ∀ k, xs.getD k 0 ≤ 6) (i k : Nat) : 0 ≤ vN q xs i k ∧ vN q xs i k ≤ 729 ^ i := by
  induction i generalizing k with
  | zero => rw [vN]; split <;> simp
  | succ i ih =>
    have p : (0 : Int) ≤ 729 ^ i := Int.pow_nonneg (by decide)
    rw [vN, Int.pow_succ]
    have hm := h i
    split
    · exact ⟨Int.le_refl _, Int.mul_nonneg p (by decide)⟩
    · rename_i hk
      have a := ih k
      generalize hs : (xs.getD i 0 - (k : Int)).toNat = s
      have p1 := pow_bd3 ⟨q, by omega⟩ ⟨s, by omega⟩
      simp only at p1
      cases k with
      | zero =>
        rw [preV, Int.mul_zero, Int.add_zero]
        refine ⟨Int.mul_nonneg p1.1 a.1, ?_⟩
        have := Int.mul_le_mul p1.2.1 a.2 a.1 (by decide)
        omega
      | succ k =>
        have b := ih k
        have p2 := brk_bd ⟨q, by omega⟩ ⟨s + 1, by omega⟩
        simp only at p2
        rw [preV]
        have u1 := Int.mul_nonneg p1.1 a.1
        have u2 := Int.mul_nonneg p2.1 b.1
        have u3 := Int.mul_le_mul (p1.2.2 (by omega)) a.2 a.1 (by decide)
        have u4 := Int.mul_le_mul p2.2 b.2 b.1 (by decide)
        omega
theorem pow729 (i : Nat) (h : i ≤ 6) : (729 : Int) ^ i ≤ 150094635296999121 := by
  match i, h with
  | 0, _ | 1, _ | 2, _ | 3, _ | 4, _ | 5, _ | 6, _ => decide
theorem trmW_pos {xs : List Int} (h : CanL xs) (q : Nat) (e : Nat) : 0 ≤ trmW q xs e := Int.mul_nonneg (h.pos e) (Int.pow_nonneg (by omega))
theorem sumT_up (f : Nat → Int) (h : ∀ k, 0 ≤ f k) (a b : Nat) (hab : a ≤ b) : sumT f a ≤ sumT f b := by
  induction b with
  | zero => rw [show a = 0 by omega]; exact Int.le_refl _
  | succ b ih =>
    by_cases e : a = b + 1
    · rw [e]; exact Int.le_refl _
    · have := ih (by omega)
      have := h b
      rw [sumT]
      omega
theorem sumT_pos (f : Nat → Int) (h : ∀ k, 0 ≤ f k) (a : Nat) : 0 ≤ sumT f a := sumT_up f h 0 a (Nat.zero_le _)
/-- No sum on the way to a value of weights is too great. -/
theorem valW_parts (q : Nat) (hq : q ≤ 3) (xs : List Int) (h : ∀ k, xs.getD k 0 ≤ 6) (i k : Nat) (hi : i ≤ 6) (e : Nat) (he : e < (wts xs i k).length) :
    0 ≤ trmW q (wts xs i k) e ∧ trmW q (wts xs i k) e ≤ 150094635296999121 ∧ 0 ≤ sumT (trmW q (wts xs i k)) e ∧ sumT (trmW q (wts xs i k)) e + trmW q (wts xs i k) e ≤ 150094635296999121 := by
  have hp := trmW_pos (wts_can xs i k) q
  have h1 := sumT_pos _ hp e
  have h2 := sumT_up _ hp (e + 1) _ (by omega : e + 1 ≤ (wts xs i k).length)
  have h3 := valW_wts q xs i k
  have h4 := (vN_bd q hq xs h i k).2
  have h5 := pow729 i hi
  have h6 := hp e
  rw [sumT] at h2
  rw [valW] at h3
  omega
end Go.Proofs.Ytdimbnkgomfojaa
end

section
namespace Go.Proofs.Ytdimbnkgomfojaa
open Go.RowKit

def plusAt (l : List Int) (p : Nat) (v : Int) : List Int := l.set p (l.getD p 0 + v)
theorem plusAt_len (l : List Int) (p : Nat) (v : Int) : (plusAt l p v).length = l.length := by simp [plusAt]
def Bd (K : Int) (l : List Int) : Prop := ∀ p, 0 ≤ l.getD p 0 ∧ l.getD p 0 ≤ K
theorem Bd.plus {K V : Int} {l : List Int} (h : Bd K l) (p : Nat) (v : Int) (h0 : 0 ≤ v) (h1 : v ≤ V) : Bd (K + V) (plusAt l p v) := by
  intro q
  have hq := h q
  have hp := h p
  unfold plusAt
  by_cases e : p = q
  · subst e
    by_cases hl : p < l.length
    · rw [List.getD_eq_getElem?_getD, List.getElem?_set_self (by exact hl)]
      simp only [Option.getD_some]
      omega
    · rw [List.set_eq_of_length_le (by omega)]
      omega
  · have : (l.set p (l.getD p 0 + v)).getD q 0 = l.getD q 0 := by
      rw [List.getD_eq_getElem?_getD, List.getElem?_set_ne e, ← List.getD_eq_getElem?_getD]
    rw [this]
    omega
theorem Bd.mono {K K' : Int} {l : List Int} (h : Bd K l) (hk : K ≤ K') : Bd K' l := fun p => ⟨(h p).1, by have := (h p).2; omega⟩
/-- One row of the product. -/
def rowP (z : List Int) (x : Int) (i : Nat) (b : List Int) : Nat → List Int
  | 0 => z
  | j + 1 => plusAt (rowP z x i b j) (i + j) (x * b.getD j 0)
theorem rowP_len (z : List Int) (x : Int) (i : Nat) (b : List Int) (j : Nat) : (rowP z x i b j).length = z.length := by
  induction j with
  | zero => rfl
  | succ j ih => rw [rowP, plusAt_len, ih]
/-- The first rows of the product. -/
def allP (a b : List Int) : Nat → List Int
  | 0 => List.replicate (a.length + b.length - 1) 0
  | i + 1 => rowP (allP a b i) (a.getD i 0) i b b.length
theorem allP_len (a b : List Int) (i : Nat) : (allP a b i).length = a.length + b.length - 1 := by
  induction i with
  | zero => simp [allP]
  | succ i ih => rw [allP, rowP_len, ih]
theorem mul_bd (x y : Int) (hx : 0 ≤ x ∧ x ≤ 100000) (hy : 0 ≤ y ∧ y ≤ 100000) : 0 ≤ x * y ∧ x * y ≤ 10000000000 := by
  refine ⟨Int.mul_nonneg hx.1 hy.1, ?_⟩
  have := Int.mul_le_mul hx.2 hy.2 hy.1 (by decide)
  omega
theorem rowP_bd (z : List Int) (x : Int) (i : Nat) (b : List Int) (K : Int) (hz : Bd K z) (hx : 0 ≤ x ∧ x ≤ 100000) (hb : ∀ j, 0 ≤ b.getD j 0 ∧ b.getD j 0 ≤ 100000) (j : Nat) : Bd (K + j * 10000000000) (rowP z x i b j) := by
  induction j with
  | zero => exact hz.mono (by simp)
  | succ j ih =>
    have h := mul_bd x _ hx (hb j)
    exact (ih.plus (i + j) _ h.1 h.2).mono (by push_cast; omega)
theorem allP_bd (a b : List Int) (hb7 : b.length ≤ 7) (ha : ∀ j, 0 ≤ a.getD j 0 ∧ a.getD j 0 ≤ 100000) (hb : ∀ j, 0 ≤ b.getD j 0 ∧ b.getD j 0 ≤ 100000) (i : Nat) : Bd (i * 70000000000) (allP a b i) := by
  induction i with
  | zero =>
    intro p
    have : (List.replicate (a.length + b.length - 1) (0 : Int)).getD p 0 = 0 := by
      simp only [List.getD_eq_getElem?_getD, List.getElem?_replicate]
      split <;> rfl
    simp only [allP, this]
    simp
  | succ i ih => exact (rowP_bd _ _ i b _ ih (ha i) hb b.length).mono (by push_cast; omega)
theorem within_get {lo hi : Int} {xs : List Int} (h : within lo hi xs = true) (h0 : lo ≤ 0 ∧ 0 ≤ hi) (j : Nat) : lo ≤ xs.getD j 0 ∧ xs.getD j 0 ≤ hi := by
  by_cases hj : j < xs.length
  · rw [within, List.all_eq_true] at h
    have := h (xs.getD j 0) (by simp [List.getD, hj])
    simpa using this
  · rw [List.getD_eq_getElem?_getD, List.getElem?_eq_none (by omega)]
    exact h0
/-- May a list be multiplied? -/
def facB (xs : List Int) : Bool := inB 1 xs.length 7 && within 0 100000 xs
theorem facB_facts {xs : List Int} (h : facB xs = true) : (1 ≤ xs.length ∧ xs.length ≤ 7) ∧ ∀ j, 0 ≤ xs.getD j 0 ∧ xs.getD j 0 ≤ 100000 := by
  rw [facB, Bool.and_eq_true, inB_iff] at h
  exact ⟨by omega, within_get h.2 (by decide)⟩

/-- Rooks: numbers that are none below 0. -/
def rcnt (xs : List Int) : Nat := (xs.filter (fun x => decide (0 ≤ x))).length
theorem rcnt_le (xs : List Int) : rcnt xs ≤ xs.length := List.length_filter_le _ _
theorem rcnt_succ (xs : List Int) (k : Nat) (h : k < xs.length) : rcnt (xs.take (k + 1)) = rcnt (xs.take k) + if 0 ≤ xs.getD k 0 then 1 else 0 := by
  rw [List.take_succ_eq_append_getElem h, rcnt, List.filter_append, List.length_append]
  have e : xs.getD k 0 = xs[k] := by simp [List.getD, h]
  rw [e]
  unfold rcnt
  by_cases h2 : 0 ≤ xs[k] <;> simp [h2]
end Go.Proofs.Ytdimbnkgomfojaa
end

section
namespace Go.Proofs.Ytdimbnkgomfojaa
open Go.RowKit Go.WideShapes

/-- The cells of a board, as a test. -/
abbrev bt (xs : List Int) (a b : Nat) : Bool := (xs.getD a 0).toNat.testBit b
theorem bit_nat (t c : Nat) (ht : t < 64) (hc : c < 6) : (((t : Int) / 2 ^ c).tmod 2 == 1) = t.testBit c := by
  have key : ∀ t : Fin 64, ∀ c : Fin 6, ((((t : Nat) : Int) / 2 ^ (c : Nat)).tmod 2 == 1) = (t : Nat).testBit c := by decide +kernel
  exact key ⟨t, ht⟩ ⟨c, hc⟩
theorem or_nat (t c : Nat) (ht : t < 64) (hc : c < 6) : bits .or .i64 (t : Int) (wrap64 (2 ^ c)) = ((t ||| 2 ^ c : Nat) : Int) := by
  have key : ∀ t : Fin 64, ∀ c : Fin 6, bits .or .i64 ((t : Nat) : Int) (wrap64 (2 ^ (c : Nat))) = (((t : Nat) ||| 2 ^ (c : Nat) : Nat) : Int) := by decide +kernel
  exact key ⟨t, ht⟩ ⟨c, hc⟩
theorem or_nat2 (t c : Nat) (ht : t < 64) (hc : c < 6) : bits .or .i64 (t : Int) (IntKind.i64.wrap (2 ^ c)) = ((t ||| 2 ^ c : Nat) : Int) := by
  have key : ∀ t : Fin 64, ∀ c : Fin 6, bits .or .i64 ((t : Nat) : Int) (IntKind.i64.wrap (2 ^ (c : Nat))) = (((t : Nat) ||| 2 ^ (c : Nat) : Nat) : Int) := by decide +kernel
  exact key ⟨t, ht⟩ ⟨c, hc⟩
theorem add_in (x y : Nat) (hx : x ≤ 1000000000) (hy : y ≤ 1000000000) : IntKind.i64.wrap ((x : Int) + y) = ((x + y : Nat) : Int) := by
  rw [show (x : Int) + y = ((x + y : Nat) : Int) by push_cast; rfl]
  exact IntWalk.i64_in _ (by omega)


end Go.Proofs.Ytdimbnkgomfojaa
end
