/- Rook numbers of the boards of rules, told at once: the plain part. No condition. -/
import Derived.Test.YtddmommamcgelaaIb
import Derived.Test.YtddmommamcgelaaHp
import Derived.Test.YtddmommamcgelaaHv
import Derived.Test.YtddmommamcgelaaHu
namespace Go.Proofs.Ytddmommamcgelaa
open Go.RowKit Go.WideShapes

theorem sumN_single (h : Nat → Nat) (n j : Nat) (hj : j < n) (e : ∀ k, k ≠ j → h k = 0) : sumN h n = h j := by
  have := sumN_one h (fun _ => 0) n j hj e
  rw [sumN_zero] at this
  omega
theorem sumN_two (h : Nat → Nat) (n i j : Nat) (hi : i < n) (hj : j < n) (hij : i ≠ j) (e : ∀ k, k ≠ i → k ≠ j → h k = 0) : sumN h n = h i + h j := by
  have h1 := sumN_one h (fun k => if k = i then 0 else h k) n i hi (fun k hk => by simp [hk])
  have h2 := sumN_single (fun k => if k = i then 0 else h k) n j hj (fun k hk => by
    show (if _ then _ else _) = _
    by_cases c : k = i
    · rw [if_pos c]
    · rw [if_neg c]; exact e k c hk)
  simp only [if_true, if_neg (fun h : j = i => hij h.symm)] at h1 h2
  omega

theorem wR_diag (n d : Nat) : ∀ f t k, f + d = n → (∀ c, f ≤ c → t.testBit c = false) → wR n diagR d f t k = chs d k := by
  induction d with
  | zero => intro f t k _ _; cases k <;> rfl
  | succ d ih =>
    intro f t k hf ht
    have hs := sumN_single (term diagR (wR n diagR d (f + 1)) f t k) n f (by omega) (fun c hc => by
      unfold term diagR
      rw [if_neg]
      simp [hc])
    rw [wR_succ, hs, ih (f + 1) t k (by omega) (fun c hc => ht c (by omega))]
    unfold term
    rw [if_pos (by rw [ht f (Nat.le_refl _)]; simp [diagR])]
    cases k with
    | zero => rw [if_pos rfl, chs_nil, chs_nil]
    | succ i =>
      rw [if_neg (by omega), Nat.add_sub_cancel, ih (f + 1) (t ||| 2 ^ f) i (by omega) (fun c hc => by rw [bit_both, ht c (by omega)]; simp; omega), chs]
      omega

theorem wR_drop (m : Nat) (R : Nat → Nat → Bool) (b d : Nat) : ∀ f t k, (∀ r, f ≤ r → r < f + d → R r b = false) → wR m R d f (t ||| 2 ^ b) k = wR m R d f t k := by
  induction d with
  | zero => intro f t k _; rfl
  | succ d ih =>
    intro f t k h
    have ih' := fun t k => ih (f + 1) t k (fun r h1 h2 => h r (by omega) (by omega))
    rw [wR_succ, wR_succ, ih']
    congr 1
    refine sumN_congr _ _ _ (fun c _ => ?_)
    unfold term
    rw [or_swap, ih', bit_both]
    by_cases hc : b = c
    · subst hc; rw [h f (Nat.le_refl _) (by omega)]; simp
    · simp [hc]
theorem low_bit (f c : Nat) : (2 ^ f - 1).testBit c = decide (c < f) := Nat.testBit_two_pow_sub_one f c
theorem low_succ (f : Nat) : 2 ^ (f + 1) - 1 = (2 ^ f - 1) ||| 2 ^ f := by
  apply Nat.eq_of_testBit_eq
  intro c
  rw [low_bit, bit_both, low_bit, Bool.eq_iff_iff, Bool.or_eq_true, decide_eq_true_eq, decide_eq_true_eq, decide_eq_true_eq]
  omega
theorem low_cnt (f e : Nat) : cntG (f + e) (2 ^ f - 1) = f := by
  rw [cntG_more f (2 ^ f - 1) (by have := Nat.two_pow_pos f; omega) e]
  unfold cntG
  rw [sumN_congr _ (fun _ => 1) f (fun c hc => by rw [low_bit]; simp [hc])]
  induction f with
  | zero => rfl
  | succ f ih => rw [sumN, ih]
/-- The rook numbers of the cells above the diagonal. -/
def stir : Nat → Nat → Nat
  | 0, k => if k = 0 then 1 else 0
  | d + 1, k => stir d k + (if k = 0 then 0 else (d - (k - 1)) * stir d (k - 1))
theorem wR_above (n d : Nat) : ∀ f k, f + d = n → wR n aboveR d f (2 ^ f - 1) k = stir d k := by
  induction d with
  | zero => intro f k _; rfl
  | succ d ih =>
    intro f k hf
    have hdr := fun t k => wR_drop n aboveR f d (f + 1) t k (fun r h1 h2 => by unfold aboveR; simp; omega)
    rw [wR_succ, stir, ← hdr, ← low_succ, ih (f + 1) k (by omega)]
    congr 1
    cases k with
    | zero => rw [term_zero, if_pos rfl]
    | succ i =>
      rw [if_neg (by omega), Nat.add_sub_cancel, term_succ]
      unfold put1
      rw [sumN_congr _ (fun c => if (2 ^ (f + 1) - 1).testBit c = false then wR n aboveR d (f + 1) ((2 ^ (f + 1) - 1) ||| 2 ^ c) i else 0) n (fun c _ => by
        show (if _ then (if _ then _ else _) else _) = (if _ then _ else _)
        rw [low_bit, low_bit, low_succ, or_swap, hdr]
        unfold aboveR
        by_cases h1 : c < f
        · simp [h1, show c < f + 1 by omega]
        · by_cases h2 : f < c
          · simp [h1, h2, show ¬ c < f + 1 by omega]
          · simp [h1, h2, show c < f + 1 by omega])]
      have h := freeSum n aboveR d (f + 1) (2 ^ (f + 1) - 1) i
      have hc := low_cnt (f + 1) d
      rw [show f + 1 + d = n by omega] at hc
      rw [hc, ih (f + 1) i (by omega)] at h
      by_cases hid : i ≤ d
      · have e : n * stir d i = (f + 1 + i) * stir d i + (d - i) * stir d i := by
          rw [← Nat.add_mul, show f + 1 + i + (d - i) = n by omega]
        omega
      · have hz : stir d i = 0 := by rw [← ih (f + 1) i (by omega)]; exact wR_more _ _ _ _ _ _ (by omega)
        rw [hz] at h ⊢
        omega

/-- The rook numbers of the rows of a table that are left: is the column of the next row taken, is the column 0? -/
def tabR : Nat → Bool → Bool → Nat → Nat
  | 0, _, _, k => if k = 0 then 1 else 0
  | 1, a, b, k => if k = 0 then 1 else if k = 1 then (if a then 0 else 1) + (if b then 0 else 1) else 0
  | d + 2, a, b, k => tabR (d + 1) false b k + ((if a then 0 else if k = 0 then 0 else tabR (d + 1) false b (k - 1)) + (if k = 0 then 0 else tabR (d + 1) true b (k - 1)))
theorem wR_tab (n d : Nat) : ∀ f t a b k, f + (d + 1) = n → 1 ≤ f → (∀ c, f < c → t.testBit c = false) → t.testBit f = a → t.testBit 0 = b → wR n (tableR n) (d + 1) f t k = tabR (d + 1) a b k := by
  induction d with
  | zero =>
    intro f t a b k hf h1 hc ha hb
    have hm : (f + 1) % n = 0 := by rw [show f + 1 = n by omega]; exact Nat.mod_self n
    have hs := sumN_two (term (tableR n) (wR n (tableR n) 0 (f + 1)) f t k) n f 0 (by omega) (by omega) (by omega) (fun c hc1 hc2 => by
      unfold term tableR
      rw [if_neg]
      simp [hc1, hc2, hm])
    rw [wR_succ, hs, tabR]
    unfold term tableR
    rw [hm, ha, hb]
    match k with
    | 0 => simp [wR]
    | 1 => cases a <;> cases b <;> simp [wR]
    | k + 2 => simp [wR]
  | succ d ih =>
    intro f t a b k hf h1 hc ha hb
    have hm : (f + 1) % n = f + 1 := Nat.mod_eq_of_lt (by omega)
    have hs := sumN_two (term (tableR n) (wR n (tableR n) (d + 1) (f + 1)) f t k) n f (f + 1) (by omega) (by omega) (by omega) (fun c hc1 hc2 => by
      unfold term tableR
      rw [if_neg]
      simp [hc1, hc2, hm])
    rw [wR_succ, hs, tabR, ih (f + 1) t false b k (by omega) (by omega) (fun c h => hc c (by omega)) (hc (f + 1) (by omega)) hb]
    congr 1
    congr 1
    · unfold term
      rw [ha, show tableR n f f = true by simp [tableR]]
      cases a
      · by_cases hk : k = 0
        · simp [hk]
        · simp only [hk, if_false]
          rw [ih (f + 1) (t ||| 2 ^ f) false b (k - 1) (by omega) (by omega) (fun c h => by rw [bit_both, hc c (by omega)]; simp; omega) (by rw [bit_both, hc (f + 1) (by omega)]; simp) (by rw [bit_both, hb]; simp; omega)]
          simp
      · simp
    · unfold term
      rw [hc (f + 1) (by omega), show tableR n f (f + 1) = true by simp [tableR, hm]]
      by_cases hk : k = 0
      · simp [hk]
      · simp only [hk, if_false]
        rw [ih (f + 1) (t ||| 2 ^ (f + 1)) true b (k - 1) (by omega) (by omega) (fun c h => by rw [bit_both, hc c (by omega)]; simp; omega) (by rw [bit_both]; simp) (by rw [bit_both, hb]; simp)]
        simp
/-- .. of the whole table. -/
def tabN (d k : Nat) : Nat := tabR (d + 1) false false k + ((if k = 0 then 0 else tabR (d + 1) false true (k - 1)) + (if k = 0 then 0 else tabR (d + 1) true false (k - 1)))
theorem wR_table (d k : Nat) : wR (d + 2) (tableR (d + 2)) (d + 2) 0 0 k = tabN d k := by
  have hm : (0 + 1) % (d + 2) = 1 := Nat.mod_eq_of_lt (by omega)
  have hs := sumN_two (term (tableR (d + 2)) (wR (d + 2) (tableR (d + 2)) (d + 1) (0 + 1)) 0 0 k) (d + 2) 0 1 (by omega) (by omega) (by omega) (fun c hc1 hc2 => by
    unfold term tableR
    rw [if_neg]
    simp only [hm]
    simp [hc1, hc2])
  rw [wR_succ, hs, tabN, wR_tab (d + 2) d 1 0 false false k (by omega) (by omega) (by simp) (by simp) (by simp)]
  congr 1
  congr 1
  · unfold term
    rw [show tableR (d + 2) 0 0 = true by simp [tableR]]
    by_cases hk : k = 0
    · simp [hk]
    · simp only [hk, if_false]
      rw [wR_tab (d + 2) d (0 + 1) (0 ||| 2 ^ 0) false true (k - 1) (by omega) (by omega) (fun c h => by rw [bit_both]; simp; omega) (by rw [bit_both]; simp) (by rw [bit_both]; simp)]
      simp
  · unfold term
    rw [show tableR (d + 2) 0 1 = true by simp [tableR, hm]]
    by_cases hk : k = 0
    · simp [hk]
    · simp only [hk, if_false]
      rw [wR_tab (d + 2) d (0 + 1) (0 ||| 2 ^ 1) true false (k - 1) (by omega) (by omega) (fun c h => by rw [bit_both]; simp; omega) (by rw [bit_both]; simp) (by rw [bit_both]; simp)]
      simp

theorem wR_cong2 (m : Nat) (B B' : Nat → Nat → Bool) (d : Nat) : ∀ f t k, (∀ r c, f ≤ r → r < f + d → c < m → B r c = B' r c) → wR m B d f t k = wR m B' d f t k := by
  induction d with
  | zero => intro f t k _; rfl
  | succ d ih =>
    intro f t k h
    have ih' := fun t k => ih (f + 1) t k (fun r c h1 h2 h3 => h r c (by omega) (by omega) h3)
    rw [wR_succ, wR_succ, ih' t k]
    congr 1
    refine sumN_congr _ _ _ (fun c hc => ?_)
    unfold term
    rw [h f c (Nat.le_refl _) (by omega) hc, ih']
theorem wR_rulL (n : Nat) (R : Nat → Nat → Bool) (k : Nat) : wR n (bt (rowsL R n)) n 0 0 k = wR n R n 0 0 k :=
  wR_cong2 n _ _ n 0 0 k (fun r c _ h hc => by
    show ((rowsL R n).getD r 0).toNat.testBit c = _
    rw [rowsL_get R n r (by omega), Int.toNat_natCast, rulM_bit]
    simp [hc])

/-- The number of orders without a number at its own place. -/
def der : Nat → Nat
  | 0 => 1
  | 1 => 0
  | k + 2 => (k + 1) * (der k + der (k + 1))
theorem der_bd (k : Nat) (hk : k ≤ 12) : der k ≤ 176214841 := by
  have key : ∀ k : Fin 13, der k ≤ 176214841 := by decide +kernel
  exact key ⟨k, by omega⟩
/-- Hit numbers off rook numbers that a function tells. -/
def hitF (n : Nat) (f : Nat → Nat) (k : Nat) : Int := sumT (fun j => sgC j k * ((f j : Nat) * (fN (n - j) : Nat))) (n + 1)
theorem fct_fNi (k : Nat) (hk : k ≤ 12) : fct k = fN k := by
  have key : ∀ k : Fin 13, fct (k : Nat) = fN k := by decide +kernel
  exact key ⟨k, by omega⟩
theorem sgC_chsi (j k : Nat) (hj : j ≤ 12) (hk : k ≤ 12) : ((chs j k : Nat) : Int) * (-1) ^ (j - k) = sgC j k := by
  have key : ∀ j : Fin 13, ∀ k : Fin 13, ((chs (j : Nat) k : Nat) : Int) * (-1) ^ ((j : Nat) - (k : Nat)) = sgC j k := by decide +kernel
  exact key ⟨j, by omega⟩ ⟨k, by omega⟩
theorem hfr_hitF (n : Nat) (hn : n ≤ 12) (f : Nat → Nat) : hfrL (n + 1) (lstL (n + 1) f) = lstH (n + 1) (hitF n f) := by
  unfold hfrL shfL
  refine lstH_congr _ _ _ (fun k hk => ?_)
  unfold hitF
  refine sumT_congr _ _ _ (fun j hj => ?_)
  unfold shT exfL
  rw [lstH_get (n + 1) _ j hj, lstL_get (n + 1) f j hj, Nat.add_sub_cancel, fct_fNi (n - j) (by omega), Int.mul_assoc, sgC_chsi j k (by omega) (by omega), Int.mul_comm]
theorem der_hits (n k : Nat) (hn : n ≤ 12) (hk : k ≤ n) : hitF n (chs n) k = (chs n k * der (n - k) : Nat) := by
  have key : ∀ n : Fin 13, ∀ k : Fin 13, (k : Nat) ≤ n → hitF n (chs n) k = (chs n k * der ((n : Nat) - k) : Nat) := by decide +kernel
  exact key ⟨n, by omega⟩ ⟨k, by omega⟩ hk
theorem der_abs (n j : Nat) (hn : n ≤ 12) (hj : j < n + 1) : Abs 1000000000000 ((lstL (n + 1) (chs n)).getD j 0 * fct (n + 1 - 1 - j)) := by
  rw [lstL_get (n + 1) _ j hj, Nat.add_sub_cancel]
  have h1 := chsG_le n j hn (by omega)
  have h2 := fctG_bd (n - j) (by omega)
  exact (Abs.mul (a := 924) (b := 479001600) (by unfold Abs; omega) (by unfold Abs; omega)).mono (by decide)
end Go.Proofs.Ytddmommamcgelaa
