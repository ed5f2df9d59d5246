import Derived.Test.YtakdiiccdkjjcabFold16
import Derived.Test.YtakdiiccdkjjcabFold29
import Derived.Test.YtakdiiccdkjjcabFold8
import Derived.Test.YtakdiiccdkjjcabFold10
import Derived.Laws.Rows
import Derived.Test.YtakdiiccdkjjcabFold4

section
namespace Go.Proofs.Ytakdiiccdkjjcab
open Go.RowKit

/-- How many of the first c columns are not in t. -/
def cntF (t : Nat) : Nat → Nat
  | 0 => 0
  | c + 1 => cntF t c + if t.testBit c then 0 else 1
theorem cntF_le (t c : Nat) : cntF t c ≤ c := by
  induction c with
  | zero => simp [cntF]
  | succ c ih => rw [cntF]; split <;> omega
theorem cntF_up (t a b : Nat) (h : a ≤ b) : cntF t a ≤ cntF t b := by
  induction b with
  | zero => rw [show a = 0 by omega]; exact Nat.le_refl _
  | succ b ih =>
    by_cases e : a = b + 1
    · rw [e]; exact Nat.le_refl _
    · have := ih (by omega)
      rw [cntF]
      omega
theorem cntF_full (t m : Nat) (hm : m ≤ 6) (ht : t < 2 ^ m) : cntF t m + cnt6 t = m := by
  have key : ∀ m : Fin 7, ∀ t : Fin 64, (t : Nat) < 2 ^ (m : Nat) → cntF t m + cnt6 t = m := by decide +kernel
  have h6 : 2 ^ m ≤ 2 ^ 6 := Nat.pow_le_pow_right (by omega) hm
  exact key ⟨m, by omega⟩ ⟨t, by omega⟩ ht
theorem put_lt (t c m : Nat) (ht : t < 2 ^ m) (hc : c < m) : t ||| 2 ^ c < 2 ^ m := Nat.or_lt_two_pow ht (Nat.pow_lt_pow_right (by omega) hc)

/-- A row's length. -/
def lenN (xs : List Int) (f : Nat) : Nat := (xs.getD f 0).toNat
/-- The free cells of the rows from f on, columns in t being taken. -/
def freeW (xs : List Int) : List Int → Nat → Nat → Nat
  | [], _, _ => 0
  | c :: Q, f, t => (if c = -1 then cntF t (lenN xs f) else cntF t c.toNat) + freeW xs Q (f + 1) (if c = -1 then t else t ||| 2 ^ c.toNat)
/-- The sum of x to the power of the free cells. -/
def sumX (x : Int) (xs : List Int) (L : List (List Int)) (f t : Nat) : Int := (L.map (fun Q => x ^ freeW xs Q f t)).sum
theorem sumX_append (x : Int) (xs : List Int) (A B : List (List Int)) (f t : Nat) : sumX x xs (A ++ B) f t = sumX x xs A f t + sumX x xs B f t := by
  simp [sumX]
theorem sum_mulc (x : Int) (l : List Int) : (l.map (fun y => x * y)).sum = x * l.sum := by
  induction l with
  | nil => simp
  | cons y t ih => rw [List.map_cons, List.sum_cons, List.sum_cons, ih, Int.mul_add]
theorem sumX_none (x : Int) (xs : List Int) (L : List (List Int)) (f t : Nat) : sumX x xs (L.map (fun Q => -1 :: Q)) f t = x ^ cntF t (lenN xs f) * sumX x xs L (f + 1) t := by
  unfold sumX
  rw [List.map_map, ← sum_mulc, List.map_map]
  congr 1
  refine List.map_congr_left (fun Q _ => ?_)
  simp only [Function.comp]
  rw [freeW, if_pos rfl, if_pos rfl, Int.pow_add]
theorem sumX_rook (x : Int) (xs : List Int) (L : List (List Int)) (f t c : Nat) : sumX x xs (L.map (fun Q => (c : Int) :: Q)) f t = x ^ cntF t c * sumX x xs L (f + 1) (t ||| 2 ^ c) := by
  unfold sumX
  rw [List.map_map, ← sum_mulc, List.map_map]
  congr 1
  refine List.map_congr_left (fun Q _ => ?_)
  simp only [Function.comp]
  rw [freeW, if_neg (by omega), if_neg (by omega), Int.pow_add, Int.toNat_natCast]

/-- The board of lengths. -/
def bLen (xs : List Int) (f c : Nat) : Bool := decide (c < lenN xs f)
/-- The same sum by numbers alone. -/
def fN (x : Int) (xs : List Int) : Nat → Nat → Nat → Nat → Int
  | 0, _, _, k => if k = 0 then 1 else 0
  | d + 1, f, τ, k => x ^ (lenN xs f - τ) * fN x xs d (f + 1) τ k + (if k = 0 then 0 else brk x (lenN xs f - τ) * fN x xs d (f + 1) (τ + 1) (k - 1))

theorem sumX_pl (x : Int) (xs : List Int) (n : Nat) (hn : n ≤ 6) (h6 : ∀ k, xs.getD k 0 ≤ n) (hs : ∀ i j, i ≤ j → j < xs.length → xs.getD i 0 ≤ xs.getD j 0) (d : Nat) :
    ∀ f t k τ, f + d = xs.length → (0 < d → t < 2 ^ lenN xs f) → t < 64 → cnt6 t = τ → sumX x xs (pl n (bLen xs) d f t k) f t = fN x xs d f τ k := by
  induction d with
  | zero =>
    intro f t k τ _ _ _ _
    rw [pl, fN]
    split
    · simp [sumX, freeW]
    · simp [sumX]
  | succ d ih =>
    intro f t k τ hf ht ht64 hτ
    have ht := ht (by omega)
    have hm6 : lenN xs f ≤ n := by have := h6 f; unfold lenN; omega
    have hfull := cntF_full t (lenN xs f) (by omega) ht
    have hnext : 0 < d → lenN xs f ≤ lenN xs (f + 1) := fun h0 => by
      have := hs f (f + 1) (by omega) (by omega)
      unfold lenN
      omega
    have hup : ∀ u, u < 2 ^ lenN xs f → (0 < d → u < 2 ^ lenN xs (f + 1)) := fun u hu h0 => Nat.lt_of_lt_of_le hu (Nat.pow_le_pow_right (by omega) (hnext h0))
    rw [← plc_full, fN]
    have key : ∀ c, c ≤ n → sumX x xs (plc n (bLen xs) d f t k c) f t = x ^ (lenN xs f - τ) * fN x xs d (f + 1) τ k + (if k = 0 then 0 else brk x (cntF t (min c (lenN xs f))) * fN x xs d (f + 1) (τ + 1) (k - 1)) := by
      intro c
      induction c with
      | zero =>
        intro _
        rw [plc_zero, sumX_none, ih (f + 1) t k τ (by omega) (hup t ht) ht64 hτ, show cntF t (lenN xs f) = lenN xs f - τ by omega]
        simp [brk, sumT, cntF]
      | succ c ihc =>
        intro hc
        rw [plc_succ, sumX_append, ihc (by omega)]
        by_cases hk : k = 0
        · rw [blk_no _ _ _ _ _ _ _ (.inl hk), if_pos hk, if_pos hk]
          simp [sumX]
        · rw [if_neg hk, if_neg hk]
          by_cases hcm : c < lenN xs f
          · rw [show min (c + 1) (lenN xs f) = c + 1 by omega, show min c (lenN xs f) = c by omega, cntF]
            cases hb : t.testBit c
            · rw [blk_yes _ _ _ _ _ _ _ (by omega) (by simp [bLen, hcm]) hb, sumX_rook]
              obtain ⟨c1, c2⟩ := cnt6_put t c ht64 (by omega) hb
              rw [ih (f + 1) (t ||| 2 ^ c) (k - 1) (τ + 1) (by omega) (hup _ (put_lt t c _ ht hcm)) c2 (by omega)]
              simp only [Bool.false_eq_true, if_false]
              rw [brk_succ, Int.add_mul]
              omega
            · rw [blk_no _ _ _ _ _ _ _ (.inr (.inr hb))]
              simp [sumX]
          · rw [show min (c + 1) (lenN xs f) = lenN xs f by omega, show min c (lenN xs f) = lenN xs f by omega, blk_no _ _ _ _ _ _ _ (.inr (.inl (by simp [bLen]; omega)))]
            simp [sumX]
    rw [key n (Nat.le_refl _), show min n (lenN xs f) = lenN xs f by omega, show cntF t (lenN xs f) = lenN xs f - τ by omega]

theorem vN_zero (x : Int) (xs : List Int) (i k : Nat)
    (h : i < k ∨ (0 < i ∧ xs.getD (i - 1) 0 < k)) : vN x xs i k = 0 := by
  rw [← valW_wts, wts_zero xs i k h, valW_nil]

/-- Rows before and rows behind together. -/
def splT (x : Int) (xs : List Int) (K i d j : Nat) : Int := vN x xs i j * fN x xs d i j (K - j)
theorem splT_step (x : Int) (xs : List Int) (h0 : ∀ k, 0 ≤ xs.getD k 0) (hs : ∀ i j, i ≤ j → j < xs.length → xs.getD i 0 ≤ xs.getD j 0) (K i d : Nat) (hi : i < xs.length) :
    sumT (splT x xs K i (d + 1)) (K + 1) = sumT (splT x xs K (i + 1) d) (K + 1) := by
  obtain ⟨m, hm⟩ := Int.eq_ofNat_of_zero_le (h0 i)
  have hmn : lenN xs i = m := by unfold lenN; omega
  have hz : ∀ j, m < j → vN x xs i j = 0 := fun j hj => by
    refine vN_zero x xs i j ?_
    by_cases e : i = 0
    · exact .inl (by omega)
    · have := hs (i - 1) i (by omega) hi
      exact .inr ⟨by omega, by omega⟩
  let A : Nat → Int := fun j => x ^ (m - j) * vN x xs i j * fN x xs d (i + 1) j (K - j)
  let C : Nat → Int := fun j => brk x (m - j) * vN x xs i j * fN x xs d (i + 1) (j + 1) (K - (j + 1))
  have hl : sumT (splT x xs K i (d + 1)) (K + 1) = sumT (fun j => A j + (if j < K then C j else 0)) (K + 1) := by
    refine sumT_congr _ _ _ (fun j hj => ?_)
    show vN x xs i j * fN x xs (d + 1) i j (K - j) = A j + (if j < K then C j else 0)
    rw [fN, hmn]
    show _ = x ^ (m - j) * vN x xs i j * fN x xs d (i + 1) j (K - j) + (if j < K then brk x (m - j) * vN x xs i j * fN x xs d (i + 1) (j + 1) (K - (j + 1)) else 0)
    by_cases e : j < K
    · rw [if_pos e, if_neg (by omega), show K - j - 1 = K - (j + 1) by omega, Int.mul_add]
      congr 1
      · rw [← Int.mul_assoc, Int.mul_comm (vN x xs i j)]
      · rw [← Int.mul_assoc, Int.mul_comm (vN x xs i j)]
    · rw [if_neg e, if_pos (by omega), Int.add_zero, Int.add_zero, ← Int.mul_assoc, Int.mul_comm (vN x xs i j)]
  have hr : sumT (splT x xs K (i + 1) d) (K + 1) = sumT (fun j => A j + preV C j) (K + 1) := by
    refine sumT_congr _ _ _ (fun j hj => ?_)
    show vN x xs (i + 1) j * fN x xs d (i + 1) j (K - j) = A j + preV C j
    rw [vN, hm]
    show _ = x ^ (m - j) * vN x xs i j * fN x xs d (i + 1) j (K - j) + preV C j
    cases j with
    | zero =>
      rw [if_neg (by omega), preV, preV, Int.mul_zero, Int.add_zero, Int.add_zero]
      simp
    | succ j =>
      rw [preV, preV]
      by_cases e : m < j + 1
      · rw [if_pos (by omega), hz (j + 1) e]
        show _ = _ + brk x (m - j) * vN x xs i j * fN x xs d (i + 1) (j + 1) (K - (j + 1))
        rw [show m - j = 0 by omega]
        simp [brk, sumT]
      · rw [if_neg (by omega), show ((m : Int) - ((j + 1 : Nat) : Int)).toNat = m - (j + 1) by omega, show m - (j + 1) + 1 = m - j by omega, Int.add_mul]
  rw [hl, hr, sumT_add, sumT_add]
  congr 1
  rw [sumT, if_neg (by omega), Int.add_zero, show K + 1 = 1 + K by omega, sumT_shift]
  rw [show sumT (preV C) 1 = 0 by simp [sumT, preV], Int.zero_add]
  refine sumT_congr _ _ _ (fun j hj => ?_)
  rw [if_pos hj, show 1 + j = j + 1 by omega, preV]
theorem fN_vN (x : Int) (xs : List Int) (h0 : ∀ k, 0 ≤ xs.getD k 0) (hs : ∀ i j, i ≤ j → j < xs.length → xs.getD i 0 ≤ xs.getD j 0) (K : Nat) : fN x xs xs.length 0 0 K = vN x xs xs.length K := by
  have step : ∀ i, i ≤ xs.length → sumT (splT x xs K 0 xs.length) (K + 1) = sumT (splT x xs K i (xs.length - i)) (K + 1) := by
    intro i
    induction i with
    | zero => intro _; rfl
    | succ i ih =>
      intro hi
      rw [ih (by omega), show xs.length - i = (xs.length - (i + 1)) + 1 by omega, splT_step x xs h0 hs K i _ (by omega)]
  have h := step xs.length (Nat.le_refl _)
  rw [Nat.sub_self] at h
  have e1 : sumT (splT x xs K 0 xs.length) (K + 1) = fN x xs xs.length 0 0 K := by
    rw [show K + 1 = 1 + K by omega, sumT_shift]
    rw [sumT_congr (fun k => splT x xs K 0 xs.length (1 + k)) (fun _ => 0) K (fun j _ => by
      show vN x xs 0 (1 + j) * _ = 0
      rw [vN, if_neg (by omega), Int.zero_mul]), sumT_none]
    simp [sumT, splT, vN]
  have e2 : sumT (splT x xs K xs.length 0) (K + 1) = vN x xs xs.length K := by
    rw [sumT, sumT_congr (splT x xs K xs.length 0) (fun _ => 0) K (fun j hj => by
      show _ * fN x xs 0 xs.length j (K - j) = 0
      rw [fN, if_neg (by omega), Int.mul_zero]), sumT_none, splT, fN, if_pos (by omega)]
    simp
  rw [← e1, h, e2]

/-- How many of the placements leave e cells free. -/
def gW (xs : List Int) (L : List (List Int)) (e : Nat) : Nat := (L.filter (fun Q => freeW xs Q 0 0 == e)).length
theorem gW_nil (xs : List Int) (e : Nat) : gW xs [] e = 0 := rfl
theorem gW_snoc (xs : List Int) (L : List (List Int)) (Q : List Int) (e : Nat) : gW xs (L ++ [Q]) e = gW xs L e + if freeW xs Q 0 0 = e then 1 else 0 := by
  unfold gW
  rw [List.filter_append, List.length_append]
  congr 1
  by_cases h : freeW xs Q 0 0 = e
  · simp [h]
  · simp [h]
theorem gW_cons (xs : List Int) (L : List (List Int)) (Q : List Int) (e : Nat) : gW xs (Q :: L) e = gW xs L e + if freeW xs Q 0 0 = e then 1 else 0 := by
  unfold gW
  by_cases h : freeW xs Q 0 0 = e
  · simp [h]
  · simp [h]
theorem gW_le (xs : List Int) (L : List (List Int)) (e : Nat) : gW xs L e ≤ L.length := List.length_filter_le _ _
theorem sumT_one (f : Nat → Int) (N a : Nat) (h : a < N) (h0 : ∀ k, k ≠ a → f k = 0) : sumT f N = f a := by
  induction N with
  | zero => omega
  | succ N ih =>
    rw [sumT]
    by_cases e : a = N
    · subst e
      rw [sumT_congr f (fun _ => 0) a (fun k hk => h0 k (by omega)), sumT_none, Int.zero_add]
    · rw [ih (by omega), h0 N (fun h => e h.symm), Int.add_zero]
theorem gW_sum (x : Int) (xs : List Int) (L : List (List Int)) (N : Nat) (h : ∀ Q ∈ L, freeW xs Q 0 0 < N) : sumT (fun e => (gW xs L e : Int) * x ^ e) N = sumX x xs L 0 0 := by
  induction L with
  | nil => simp [gW_nil, sumX, sumT_none]
  | cons Q L ih =>
    have hq := h Q (by simp)
    rw [sumT_congr _ (fun e => (gW xs L e : Int) * x ^ e + (if freeW xs Q 0 0 = e then 1 else 0) * x ^ e) N (fun e _ => by rw [gW_cons, Int.natCast_add, Int.add_mul]; congr 2; split <;> rfl), sumT_add, ih (fun Q' hQ' => h Q' (by simp [hQ'])),
      sumT_one _ N (freeW xs Q 0 0) hq (fun k hk => by rw [if_neg (fun e => hk e.symm), Int.zero_mul])]
    simp [sumX]
    omega

theorem digits (X : Int) (u v : Nat → Int) (N : Nat) (hu : ∀ k, 0 ≤ u k ∧ u k < X) (hv : ∀ k, 0 ≤ v k ∧ v k < X) (h : sumT (fun k => u k * X ^ k) N = sumT (fun k => v k * X ^ k) N) : ∀ k, k < N → u k = v k := by
  have hX : 0 < X := by have := hu 0; omega
  have bd : ∀ (u : Nat → Int), (∀ k, 0 ≤ u k ∧ u k < X) → ∀ N, 0 ≤ sumT (fun k => u k * X ^ k) N ∧ sumT (fun k => u k * X ^ k) N < X ^ N := by
    intro u hu N
    induction N with
    | zero => simp [sumT]
    | succ N ih =>
      have p : 0 < X ^ N := Int.pow_pos hX
      have a := hu N
      have q := Int.mul_nonneg a.1 (Int.le_of_lt p)
      have r := Int.mul_le_mul_of_nonneg_right (show u N ≤ X - 1 by omega) (Int.le_of_lt p)
      rw [Int.sub_mul, Int.one_mul, Int.mul_comm X] at r
      rw [sumT, Int.pow_succ]
      omega
  induction N with
  | zero => intro k hk; omega
  | succ N ih =>
    have p : 0 < X ^ N := Int.pow_pos hX
    have b1 := bd u hu N
    have b2 := bd v hv N
    rw [sumT, sumT] at h
    have top : u N = v N := by
      rcases Int.lt_trichotomy (u N) (v N) with e | e | e
      · have := Int.mul_le_mul_of_nonneg_right (show u N + 1 ≤ v N by omega) (Int.le_of_lt p)
        rw [Int.add_mul, Int.one_mul] at this
        omega
      · exact e
      · have := Int.mul_le_mul_of_nonneg_right (show v N + 1 ≤ u N by omega) (Int.le_of_lt p)
        rw [Int.add_mul, Int.one_mul] at this
        omega
    intro k hk
    by_cases e : k = N
    · rw [e]; exact top
    · exact ih (by rw [top] at h; omega) k (by omega)

/-- All cells. -/
def celN (xs : List Int) : Nat → Nat
  | 0 => 0
  | k + 1 => celN xs k + lenN xs k
theorem freeW_le (xs : List Int) (n : Nat) (d : Nat) : ∀ f t k, ∀ Q ∈ pl n (bLen xs) d f t k, freeW xs Q f t + celN xs f ≤ celN xs (f + d) := by
  induction d with
  | zero =>
    intro f t k Q h
    rw [pl] at h
    split at h
    · rw [List.mem_singleton.1 h]; simp [freeW]
    · simp at h
  | succ d ih =>
    intro f t k Q h
    have e : celN xs (f + 1) = celN xs f + lenN xs f := rfl
    rw [pl, List.mem_append, List.mem_map, List.mem_flatMap] at h
    rcases h with ⟨Q, hQ, rfl⟩ | ⟨c, _, h⟩
    · have := ih _ _ _ Q hQ
      have := cntF_le t (lenN xs f)
      rw [freeW, if_pos rfl, if_pos rfl, show f + (d + 1) = f + 1 + d by omega]
      omega
    · split at h
      · rename_i hc
        simp only [Bool.and_eq_true, decide_eq_true_eq, bLen] at hc
        obtain ⟨Q, hQ, rfl⟩ := List.mem_map.1 h
        have := ih _ _ _ Q hQ
        have := cntF_le t c
        rw [freeW, if_neg (by omega), if_neg (by omega), show f + (d + 1) = f + 1 + d by omega, Int.toNat_natCast]
        omega
      · simp at h
theorem pow_le6 (d : Nat) (h : d ≤ 6) : 7 ^ d ≤ 117649 := Nat.le_trans (Nat.pow_le_pow_right (by omega) h) (by decide)
theorem wts_len_le (xs : List Int) (h0 : ∀ k, 0 ≤ xs.getD k 0) (i k : Nat) : (wts xs i k).length ≤ celN xs i + 1 := by
  induction i generalizing k with
  | zero => rw [wts]; split <;> simp
  | succ i ih =>
    rw [wts, rowW, celN]
    split
    · exact Nat.zero_le _
    · have := behL_len (wts xs i k) (preW (wts xs i) k) (xs.getD i 0 - k).toNat ((xs.getD i 0 - k).toNat + 1) (celN xs i + 1) (ih k) (preW_len ih k) (Nat.le_refl _)
      have e : lenN xs i = (xs.getD i 0).toNat := rfl
      have := h0 i
      omega
/-- The weights by placements. -/
theorem gW_wts (xs : List Int) (h : lenB xs = true) (k : Nat) (e : Nat) : ((gW xs (pl xs.length (bLen xs) xs.length 0 0 k) e : Nat) : Int) = (wts xs xs.length k).getD e 0 := by
  obtain ⟨l1, l2, l3, l4, l5⟩ := len_facts h
  have hs := fun i j hij hj => sortB_up l5 i j hij hj
  have hlt : ∀ Q ∈ pl xs.length (bLen xs) xs.length 0 0 k, freeW xs Q 0 0 < celN xs xs.length + 1 := fun Q hQ => by
    have := freeW_le xs xs.length xs.length 0 0 k Q hQ
    rw [Nat.zero_add] at this
    omega
  by_cases he : e < celN xs xs.length + 1
  · refine digits 1048576 (fun e => ((gW xs (pl xs.length (bLen xs) xs.length 0 0 k) e : Nat) : Int)) (fun e => (wts xs xs.length k).getD e 0) (celN xs xs.length + 1) (fun e => ?_) (fun e => ?_) ?_ e he
    · have a := gW_le xs (pl xs.length (bLen xs) xs.length 0 0 k) e
      rw [pl_len] at a
      have b := wR_le xs.length l2 (bLen xs) xs.length 0 0 k
      have c := pow_le6 xs.length l2
      omega
    · have := wts_in xs (fun k => (l3 k).2) xs.length k e l2
      omega
    · rw [gW_sum 1048576 xs _ _ hlt, sumX_pl 1048576 xs xs.length l2 l4 hs xs.length 0 0 k 0 (by omega) (fun _ => Nat.pow_pos (by omega)) (by omega) (by decide), fN_vN 1048576 xs (fun k => (l3 k).1) hs k, ← valW_wts, valW_far _ _ (celN xs xs.length + 1) (wts_len_le xs (fun k => (l3 k).1) _ _)]
      rfl
  · rw [getD_far _ _ (by have := wts_len_le xs (fun k => (l3 k).1) xs.length k; omega)]
    rw [gW, List.filter_eq_nil_iff.2 (fun Q hQ => by have := hlt Q hQ; simp; omega)]
    rfl
end Go.Proofs.Ytakdiiccdkjjcab
end

section
namespace Go.Proofs.Ytakdiiccdkjjcab
open Go.RowKit Go.WideShapes


end Go.Proofs.Ytakdiiccdkjjcab
end

section
namespace Go.Proofs.Ytakdiiccdkjjcab
open Go.RowKit Go.WideShapes

theorem Has.row6 {w : World} {b : Nat} {f : Nat → Int} {t : TypeId} (h : Has w b (pl6 f) t) : w.heap[b]? = some (.cells #[.int .i64 (f 0), .int .i64 (f 1), .int .i64 (f 2), .int .i64 (f 3), .int .i64 (f 4), .int .i64 (f 5)] t (0, 0)) := h


end Go.Proofs.Ytakdiiccdkjjcab
end
