import Derived.Test.YtabfiafjcnilnaaFold11
import Derived.Test.YtabfiafjcnilnaaFold5
import Derived.Test.YtabfiafjcnilnaaFold10

section
namespace Go.Proofs.Ytabfiafjcnilnaa
open Go.RowKit

/-- Not farther from 0 than b. -/
def Abs (b : Int) (x : Int) : Prop := -b ≤ x ∧ x ≤ b
theorem Abs.iff {b : Nat} {x : Int} : Abs b x ↔ x.natAbs ≤ b := by unfold Abs; omega
theorem Abs.mul {a b : Nat} {x y : Int} (hx : Abs a x) (hy : Abs b y) : Abs ((a * b : Nat) : Int) (x * y) := by
  rw [Abs.iff] at *
  rw [Int.natAbs_mul]
  exact Nat.mul_le_mul hx hy
theorem Abs.add {a b : Int} {x y : Int} (hx : Abs a x) (hy : Abs b y) : Abs (a + b) (x + y) := by unfold Abs at *; omega
theorem Abs.mono {a b : Int} {x : Int} (hx : Abs a x) (h : a ≤ b) : Abs b x := by unfold Abs at *; omega
theorem Abs.neg {a : Int} {x : Int} (hx : Abs a x) : Abs a (-x) := by unfold Abs at *; omega

theorem pow_abs (x : Int) (hx : Abs 20 x) (k : Nat) (hk : k ≤ 7) : Abs 1280000000 (x ^ k) := by
  have h1 : (x ^ k).natAbs ≤ 20 ^ k := by
    rw [Int.natAbs_pow]
    exact Nat.pow_le_pow_left (by unfold Abs at hx; omega) k
  have h2 : 20 ^ k ≤ 20 ^ 7 := Nat.pow_le_pow_right (by omega) hk
  unfold Abs
  omega

/-- The falling product. -/
def fal (x : Int) : Nat → Int
  | 0 => 1
  | k + 1 => fal x k * (x - k)
theorem fal_abs (x : Int) (hx : Abs 20 x) (k : Nat) (hk : k ≤ 6) : Abs ((26 ^ k : Nat) : Int) (fal x k) := by
  induction k with
  | zero => simp [fal, Abs]
  | succ k ih =>
    rw [fal, Nat.pow_succ]
    exact (ih (by omega)).mul (show Abs ((26 : Nat) : Int) (x - k) by unfold Abs at *; omega)
theorem fal_bd (x : Int) (hx : Abs 20 x) (k : Nat) (hk : k ≤ 6) : Abs 308915776 (fal x k) :=
  (fal_abs x hx k hk).mono (by
    have h2 : 26 ^ k ≤ 26 ^ 6 := Nat.pow_le_pow_right (by omega) hk
    omega)

/-- A sum of the first k terms. -/
def sumT (f : Nat → Int) : Nat → Int
  | 0 => 0
  | k + 1 => sumT f k + f k
theorem sumT_abs (f : Nat → Int) (b : Int) (n : Nat) (h : ∀ k, k < n → Abs b (f k)) : Abs (n * b) (sumT f n) := by
  induction n with
  | zero => simp [sumT, Abs]
  | succ n ih =>
    rw [sumT]
    refine ((ih (fun k hk => h k (by omega))).add (h n (by omega))).mono ?_
    rw [Int.natCast_succ, Int.add_mul, Int.one_mul]
    omega
theorem sumT_congr (f g : Nat → Int) (n : Nat) (h : ∀ k, k < n → f k = g k) : sumT f n = sumT g n := by
  induction n with
  | zero => rfl
  | succ n ih => rw [sumT, sumT, ih (fun k hk => h k (by omega)), h n (by omega)]

def polT (g : Nat → Nat) (x : Int) (k : Nat) : Int := (g k : Int) * x ^ k
theorem polT_abs (g : Nat → Nat) (x : Int) (hx : Abs 20 x) (k : Nat) (hk : k ≤ 7) (hg : g k ≤ 117649) : Abs 150590720000000 (polT g x k) :=
  ((show Abs ((117649 : Nat) : Int) (g k : Int) by unfold Abs; omega).mul (show Abs ((1280000000 : Nat) : Int) (x ^ k) from pow_abs x hx k hk)).mono (by decide)
def falT (g : Nat → Nat) (x : Int) (n k : Nat) : Int := (g k : Int) * fal x (n - k)
theorem falT_abs (g : Nat → Nat) (x : Int) (hx : Abs 20 x) (n k : Nat) (hn : n ≤ 6) (hg : g k ≤ 117649) : Abs 36343632130624 (falT g x n k) :=
  ((show Abs ((117649 : Nat) : Int) (g k : Int) by unfold Abs; omega).mul (show Abs ((308915776 : Nat) : Int) (fal x (n - k)) from fal_bd x hx _ (by omega))).mono (by decide)

/-- Choices of k of n things. -/
def chs : Nat → Nat → Nat
  | _, 0 => 1
  | 0, _ + 1 => 0
  | n + 1, k + 1 => chs n k + chs n (k + 1)
theorem chs_le (n k : Nat) (hn : n ≤ 6) (hk : k ≤ 6) : chs n k ≤ 20 := by
  have key : ∀ n : Fin 7, ∀ k : Fin 7, chs n k ≤ 20 := by decide +kernel
  exact key ⟨n, by omega⟩ ⟨k, by omega⟩
theorem chs_fal (n k : Nat) (hn : n ≤ 6) (hk : k ≤ n) : fal n k / fal k k = chs n k := by
  have key : ∀ n : Fin 7, ∀ k : Fin 7, (k : Nat) ≤ n → fal (n : Nat) (k : Nat) / fal (k : Nat) (k : Nat) = chs n k := by decide +kernel
  exact key ⟨n, by omega⟩ ⟨k, by omega⟩ hk
theorem chs_step (n k i : Nat) (hn : n ≤ 6) (hk : k ≤ n) (hi : i < k) : (chs (n - k + i) i : Int) * ((n : Int) - k + ((i : Int) + 1)) / ((i : Int) + 1) = chs (n - k + (i + 1)) (i + 1) := by
  have key : ∀ n : Fin 7, ∀ k : Fin 7, ∀ i : Fin 6, (k : Nat) ≤ n → (i : Nat) < k → (chs ((n : Nat) - k + i) i : Int) * (((n : Nat) : Int) - (k : Nat) + (((i : Nat) : Int) + 1)) / (((i : Nat) : Int) + 1) = chs ((n : Nat) - k + (i + 1)) (i + 1) := by decide +kernel
  exact key ⟨n, by omega⟩ ⟨k, by omega⟩ ⟨i, by omega⟩ hk hi
def fct (k : Nat) : Int := fal k k
theorem fct_bd (k : Nat) (hk : k ≤ 6) : 1 ≤ fct k ∧ fct k ≤ 720 := by
  have key : ∀ k : Fin 7, 1 ≤ fct k ∧ fct k ≤ 720 := by decide +kernel
  exact key ⟨k, by omega⟩

/-- One term of the alternating sum, without its sign. -/
def cmpT (g : Nat → Nat) (n k j : Nat) : Int := (g j : Int) * chs (n - j) (k - j) * chs (n - j) (k - j) * fct (k - j)
theorem cmpT_abs (g : Nat → Nat) (n k j : Nat) (hn : n ≤ 6) (hk : k ≤ n) (hg : g j ≤ 117649) : Abs 33882912000 (cmpT g n k j) := by
  have h1 := chs_le (n - j) (k - j) (by omega) (by omega)
  have h2 := fct_bd (k - j) (by omega)
  have hc : Abs ((20 : Nat) : Int) (chs (n - j) (k - j) : Int) := by unfold Abs; omega
  exact ((((show Abs ((117649 : Nat) : Int) (g j : Int) by unfold Abs; omega).mul hc).mul hc).mul (show Abs ((720 : Nat) : Int) (fct (k - j)) by unfold Abs; omega)).mono (by decide)
def sgn (j : Nat) : Int := if j % 2 = 1 then -1 else 1
def cmpS (g : Nat → Nat) (n k j : Nat) : Int := sgn j * cmpT g n k j
theorem cmpS_abs (g : Nat → Nat) (n k j : Nat) (hn : n ≤ 6) (hk : k ≤ n) (hg : g j ≤ 117649) : Abs 33882912000 (cmpS g n k j) := by
  have := cmpT_abs g n k j hn hk hg
  unfold cmpS sgn
  split
  · rw [Int.neg_one_mul]; exact this.neg
  · rw [Int.one_mul]; exact this
theorem sgn_succ (j : Nat) : sgn (j + 1) = - sgn j := by
  unfold sgn
  by_cases h : j % 2 = 1
  · rw [if_pos h, if_neg (by omega)]; rfl
  · rw [if_neg h, if_pos (by omega)]

end Go.Proofs.Ytabfiafjcnilnaa
end

section
namespace Go.Proofs.Ytabfiafjcnilnaa
open Go.RowKit

/-- One term of a value. -/
def trmW (x : Int) (xs : List Int) (e : Nat) : Int := xs.getD e 0 * x ^ e
/-- The value of weights. -/
def valW (x : Int) (xs : List Int) : Int := sumT (trmW x xs) xs.length
theorem sumT_far (f : Nat → Int) (n N : Nat) (h : n ≤ N) (h0 : ∀ k, n ≤ k → f k = 0) : sumT f N = sumT f n := by
  induction N with
  | zero => rw [show n = 0 by omega]
  | succ N ih =>
    by_cases e : n = N + 1
    · rw [e]
    · rw [sumT, ih (by omega), h0 N (by omega), Int.add_zero]
theorem sumT_add (f g : Nat → Int) (n : Nat) : sumT (fun k => f k + g k) n = sumT f n + sumT g n := by
  induction n with
  | zero => rfl
  | succ n ih => rw [sumT, sumT, sumT, ih]; omega
theorem sumT_mul (c : Int) (f : Nat → Int) (n : Nat) : sumT (fun k => c * f k) n = c * sumT f n := by
  induction n with
  | zero => simp [sumT]
  | succ n ih => rw [sumT, sumT, ih, Int.mul_add]
theorem sumT_shift (f : Nat → Int) (s n : Nat) : sumT f (s + n) = sumT f s + sumT (fun k => f (s + k)) n := by
  induction n with
  | zero => simp [sumT]
  | succ n ih => rw [← Nat.add_assoc, sumT, sumT, ih]; omega
theorem sumT_none (n : Nat) : sumT (fun _ => 0) n = 0 := by
  induction n with
  | zero => rfl
  | succ n ih => rw [sumT, ih]; rfl
theorem valW_far (x : Int) (xs : List Int) (N : Nat) (h : xs.length ≤ N) : valW x xs = sumT (trmW x xs) N :=
  (sumT_far _ _ _ h (fun k hk => by rw [trmW, getD_far _ _ hk, Int.zero_mul])).symm
theorem valW_add (x : Int) (a b : List Int) : valW x (addL a b) = valW x a + valW x b := by
  rw [valW_far x a (max a.length b.length) (by omega), valW_far x b (max a.length b.length) (by omega), ← sumT_add, valW, addL_len]
  exact sumT_congr _ _ _ (fun k _ => by rw [trmW, trmW, trmW, addL_get, Int.add_mul])
theorem valW_up (x : Int) (s : Nat) (a : List Int) : valW x (upL s a) = x ^ s * valW x a := by
  rw [valW_far x (upL s a) (s + a.length) (by rw [upL_len]; split <;> omega), sumT_shift, valW, ← sumT_mul]
  rw [sumT_congr (trmW x (upL s a)) (fun _ => 0) s (fun k hk => by rw [trmW, upL_get, if_pos hk, Int.zero_mul]), sumT_none, Int.zero_add]
  refine sumT_congr _ _ _ (fun k _ => ?_)
  show trmW x (upL s a) (s + k) = x ^ s * trmW x a k
  rw [trmW, trmW, upL_get, if_neg (by omega), Nat.add_sub_cancel_left, Int.pow_add, Int.mul_left_comm]
/-- The bracket. -/
def brk (x : Int) (t : Nat) : Int := sumT (fun a => x ^ a) t
theorem brk_succ (x : Int) (t : Nat) : brk x (t + 1) = brk x t + x ^ t := rfl
theorem brk_horner (x : Int) (t : Nat) : brk x (t + 1) = brk x t * x + 1 := by
  induction t with
  | zero => simp [brk, sumT]
  | succ t ih =>
    have h : brk x (t + 1) * x = brk x t * x + x ^ (t + 1) := by rw [brk_succ, Int.add_mul, Int.pow_succ]
    rw [brk_succ x (t + 1), h]
    omega
theorem valW_beh (x : Int) (same fewer : List Int) (s t : Nat) : valW x (behL same fewer s t) = x ^ s * valW x same + brk x t * valW x fewer := by
  induction t with
  | zero => rw [behL, valW_up]; simp [brk, sumT]
  | succ t ih => rw [behL, valW_add, ih, valW_up, brk_succ, Int.add_mul]; omega

def preV (V : Nat → Int) : Nat → Int
  | 0 => 0
  | k + 1 => V k
/-- The values of the weights, by themselves. -/
def vN (x : Int) (xs : List Int) : Nat → Nat → Int
  | 0, k => if k = 0 then 1 else 0
  | i + 1, k => if xs.getD i 0 < k then 0 else x ^ (xs.getD i 0 - k).toNat * vN x xs i k + brk x ((xs.getD i 0 - k).toNat + 1) * preV (vN x xs i) k
theorem valW_nil (x : Int) : valW x [] = 0 := rfl
theorem valW_wts (x : Int) (xs : List Int) (i k : Nat) : valW x (wts xs i k) = vN x xs i k := by
  induction i generalizing k with
  | zero =>
    rw [wts, vN]
    split
    · simp [valW, sumT, trmW]
    · rfl
  | succ i ih =>
    rw [wts, rowW, vN]
    split
    · rfl
    · rw [valW_beh, ih]
      cases k with
      | zero => rw [preW, preV, valW_nil]
      | succ k => rw [preW, preV, ih]

theorem brk_bd : ∀ q : Fin 4, ∀ t : Fin 7, 0 ≤ brk ((q : Nat) : Int) t ∧ brk ((q : Nat) : Int) t ≤ 364 := by decide +kernel
theorem pow_bd3 : ∀ q : Fin 4, ∀ t : Fin 7, 0 ≤ (((q : Nat) : Int)) ^ (t : Nat) ∧ (((q : Nat) : Int)) ^ (t : Nat) ≤ 729 ∧ ((t : Nat) < 6 → (((q : Nat) : Int)) ^ (t : Nat) ≤ 243) := by decide +kernel
theorem vN_bd (q : Nat) (hq : q ≤ 3) (xs : List Int) (h : ∀ k, xs.getD k 0 ≤ 6) (i k : Nat) : 0 ≤ vN q xs i k ∧ vN q xs i k ≤ 729 ^ i := by
  induction i generalizing k with
  | zero => rw [vN]; split <;> simp
  | succ i ih =>
    have p : (0 : Int) ≤ 729 ^ i := Int.pow_nonneg (by decide)
    rw [vN, Int.pow_succ]
    have hm := h i
    split
    · exact ⟨Int.le_refl _, Int.mul_nonneg p (by decide)⟩
    · rename_i hk
      have a := ih k
      generalize hs : (xs.getD i 0 - (k : Int)).toNat = s
      have p1 := pow_bd3 ⟨q, by omega⟩ ⟨s, by omega⟩
      simp only at p1
      cases k with
      | zero =>
        rw [preV, Int.mul_zero, Int.add_zero]
        refine ⟨Int.mul_nonneg p1.1 a.1, ?_⟩
        have := Int.mul_le_mul p1.2.1 a.2 a.1 (by decide)
        omega
      | succ k =>
        have b := ih k
        have p2 := brk_bd ⟨q, by omega⟩ ⟨s + 1, by omega⟩
        simp only at p2
        rw [preV]
        have u1 := Int.mul_nonneg p1.1 a.1
        have u2 := Int.mul_nonneg p2.1 b.1
        have u3 := Int.mul_le_mul (p1.2.2 (by omega)) a.2 a.1 (by decide)
        have u4 := Int.mul_le_mul p2.2 b.2 b.1 (by decide)
        omega
theorem pow729 (i : Nat) (h : i ≤ 6) : (729 : Int) ^ i ≤ 150094635296999121 := by
  match i, h with
  | 0, _ | 1, _ | 2, _ | 3, _ | 4, _ | 5, _ | 6, _ => decide
theorem trmW_pos {xs : List Int} (h : CanL xs) (q : Nat) (e : Nat) : 0 ≤ trmW q xs e := Int.mul_nonneg (h.pos e) (Int.pow_nonneg (by omega))
theorem sumT_up (f : Nat → Int) (h : ∀ k, 0 ≤ f k) (a b : Nat) (hab : a ≤ b) : sumT f a ≤ sumT f b := by
  induction b with
  | zero => rw [show a = 0 by omega]; exact Int.le_refl _
  | succ b ih =>
    by_cases e : a = b + 1
    · rw [e]; exact Int.le_refl _
    · have := ih (by omega)
      have := h b
      rw [sumT]
      omega
theorem sumT_pos (f : Nat → Int) (h : ∀ k, 0 ≤ f k) (a : Nat) : 0 ≤ sumT f a := sumT_up f h 0 a (Nat.zero_le _)
/-- No sum on the way to a value of weights is too great. -/
theorem valW_parts (q : Nat) (hq : q ≤ 3) (xs : List Int) (h : ∀ k, xs.getD k 0 ≤ 6) (i k : Nat) (hi : i ≤ 6) (e : Nat) (he : e < (wts xs i k).length) :
    0 ≤ trmW q (wts xs i k) e ∧ trmW q (wts xs i k) e ≤ 150094635296999121 ∧ 0 ≤ sumT (trmW q (wts xs i k)) e ∧ sumT (trmW q (wts xs i k)) e + trmW q (wts xs i k) e ≤ 150094635296999121 := by
  have hp := trmW_pos (wts_can xs i k) q
  have h1 := sumT_pos _ hp e
  have h2 := sumT_up _ hp (e + 1) _ (by omega : e + 1 ≤ (wts xs i k).length)
  have h3 := valW_wts q xs i k
  have h4 := (vN_bd q hq xs h i k).2
  have h5 := pow729 i hi
  have h6 := hp e
  rw [sumT] at h2
  rw [valW] at h3
  omega
end Go.Proofs.Ytabfiafjcnilnaa
end

section
namespace Go.Proofs.Ytabfiafjcnilnaa
open Go.RowKit Go.WideShapes

/-- All lists added. -/
def sumR (rss : List (List Int)) : List Int := rss.foldl addL []
theorem sumR_snoc (rss : List (List Int)) (x : List Int) : sumR (rss ++ [x]) = addL (sumR rss) x := by simp [sumR]
theorem sumR_take (rss : List (List Int)) (k : Nat) (h : k < rss.length) : sumR (rss.take (k + 1)) = addL (sumR (rss.take k)) rss[k] := by
  rw [List.take_succ_eq_append_getElem h, sumR_snoc]
/-- The longest one of the first k. -/
theorem sumR_len (rss : List (List Int)) (k : Nat) (h : k < rss.length) : (sumR (rss.take (k + 1))).length = max (sumR (rss.take k)).length rss[k].length := by
  rw [sumR_take rss k h, addL_len]
theorem sumR_mono (rss : List (List Int)) (k n : Nat) (hk : k ≤ n) (hn : n ≤ rss.length) : (sumR (rss.take k)).length ≤ (sumR (rss.take n)).length := by
  induction n with
  | zero => rw [show k = 0 by omega]; exact Nat.le_refl _
  | succ n ih =>
    by_cases e : k = n + 1
    · rw [e]; exact Nat.le_refl _
    · have := ih (by omega) (by omega)
      rw [sumR_len rss n (by omega)]
      omega
theorem sumR_row (rss : List (List Int)) (k : Nat) (h : k < rss.length) : rss[k].length ≤ (sumR rss).length := by
  have a := sumR_len rss k h
  have b := sumR_mono rss (k + 1) rss.length (by omega) (Nat.le_refl _)
  rw [List.take_length] at b
  omega
/-- In the midst of the row r: the sums of the first j numbers have it already. -/
def midA (A r : List Int) (j e : Nat) : Int := if e < j then A.getD e 0 + r.getD e 0 else A.getD e 0
theorem midA_zero (A r : List Int) : midA A r 0 = fun e => A.getD e 0 := by funext e; simp [midA]
theorem midA_full (A r : List Int) (e : Nat) : midA A r r.length e = (addL A r).getD e 0 := by
  rw [addL_get]
  unfold midA
  split
  · rfl
  · rename_i h
    rw [getD_far r e (by omega), Int.add_zero]
theorem midA_set (L : Nat) (A r : List Int) (j : Nat) : (lstI L (midA A r j)).set j (A.getD j 0 + r.getD j 0) = lstI L (midA A r (j + 1)) :=
  lstI_set L _ _ j _ (by simp [midA]) (fun k _ hk => by
    unfold midA
    by_cases h : k < j
    · rw [if_pos h, if_pos (by omega)]
    · rw [if_neg h, if_neg (by omega)])
theorem midA_at (A r : List Int) (j : Nat) : midA A r j j = A.getD j 0 := by simp [midA]


/-- The lists behind a row, with k places of a rook so far. -/
def behR (same fewer : List Int) (s k : Nat) : List (List Int) := upL s same :: (List.range k).map (fun t => upL t fewer)
theorem behR_len (same fewer : List Int) (s k : Nat) : (behR same fewer s k).length = k + 1 := by simp [behR]
theorem behR_snoc (same fewer : List Int) (s k : Nat) : behR same fewer s k ++ [upL k fewer] = behR same fewer s (k + 1) := by simp [behR, List.range_succ]
theorem behR_sum (same fewer : List Int) (s k : Nat) : sumR (behR same fewer s k) = behL same fewer s k := by
  induction k with
  | zero => simp [behR, sumR, behL, nil_addL]
  | succ k ih => rw [← behR_snoc, sumR_snoc, ih, behL]
theorem behR_take (same fewer : List Int) (s K k : Nat) (h : k ≤ K) : (behR same fewer s K).take (k + 1) = behR same fewer s k := by
  unfold behR
  rw [List.take_succ_cons, ← List.map_take, List.take_range, show min k K = k by omega]
theorem behR_get (same fewer : List Int) (s K k : Nat) (h : k < (behR same fewer s K).length) : (behR same fewer s K)[k] = if k = 0 then upL s same else upL (k - 1) fewer := by
  cases k with
  | zero => rfl
  | succ k => simp [behR]
theorem behR_wrap (same fewer : List Int) (s K : Nat) (hK : K ≤ 7) (h1 : ∀ e, 0 ≤ same.getD e 0 ∧ same.getD e 0 ≤ 262144) (h2 : ∀ e, 0 ≤ fewer.getD e 0 ∧ fewer.getD e 0 ≤ 262144) (k : Nat) (h : k < (behR same fewer s K).length) (e : Nat) :
    IntKind.i64.wrap ((sumR ((behR same fewer s K).take k)).getD e 0 + (behR same fewer s K)[k].getD e 0) = (sumR ((behR same fewer s K).take k)).getD e 0 + (behR same fewer s K)[k].getD e 0 := by
  have hb := fun t => behL_bd same fewer s t 262144 (fun k => (h1 k).2) (fun k => (h2 k).2) (by omega) e
  have pos : ∀ t, 0 ≤ (behL same fewer s t).getD e 0 := by
    intro t
    induction t with
    | zero =>
      rw [behL, upL_get]
      split
      · exact Int.le_refl _
      · exact (h1 _).1
    | succ t ih =>
      have : 0 ≤ (upL t fewer).getD e 0 := by
        rw [upL_get]
        split
        · exact Int.le_refl _
        · exact (h2 _).1
      rw [behL, addL_get]
      omega
  rw [behR_len] at h
  have e1 : (sumR ((behR same fewer s K).take k)).getD e 0 + (behR same fewer s K)[k].getD e 0 = (behL same fewer s k).getD e 0 := by
    rw [behR_get]
    cases k with
    | zero => simp [sumR, behL]
    | succ k => rw [if_neg (by omega), behR_take same fewer s K k (by omega), behR_sum, Nat.add_sub_cancel, behL, addL_get]
  rw [e1]
  have a := hb k
  have b := pos k
  have c : ((k : Int) + 1) * 262144 ≤ 8 * 262144 := Int.mul_le_mul_of_nonneg_right (by omega) (by decide)
  exact IntWalk.i64_in _ (by omega)
def behP (same fewer : List Int) (m : Int) : List Int := if m < 0 then [] else behL same fewer m.toNat (m.toNat + 1)

end Go.Proofs.Ytabfiafjcnilnaa
end
