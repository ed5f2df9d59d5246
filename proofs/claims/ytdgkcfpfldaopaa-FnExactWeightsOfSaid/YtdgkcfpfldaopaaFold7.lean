import Derived.Test.YtdgkcfpfldaopaaFold6
import Derived.Test.YtdgkcfpfldaopaaFold4

section
namespace Go.Proofs.Ytdgkcfpfldaopaa
open Go.RowKit

/-- Weights: no number is less than 0, the last one is not 0. -/
structure CanL (xs : List Int) : Prop where
  pos : ∀ k, 0 ≤ xs.getD k 0
  last : 0 < xs.length → 0 < xs.getD (xs.length - 1) 0
theorem CanL.nil : CanL [] := ⟨by simp, by simp⟩
theorem CanL.one : CanL [1] := ⟨fun k => by cases k <;> simp, by simp⟩
theorem getD_far (xs : List Int) (k : Nat) (h : xs.length ≤ k) : xs.getD k 0 = 0 := by simp [List.getD, h]

/-- Moved up. -/
def upL (s : Nat) (xs : List Int) : List Int := if xs.length = 0 then [] else lstI (s + xs.length) (fun k => if k < s then 0 else xs.getD (k - s) 0)
theorem upL_nil (s : Nat) : upL s [] = [] := rfl
theorem upL_len (s : Nat) (xs : List Int) : (upL s xs).length = if xs.length = 0 then 0 else s + xs.length := by
  unfold upL
  split
  · rfl
  · rw [lstI_len]
theorem lstI_getD (L : Nat) (g : Nat → Int) (k : Nat) : (lstI L g).getD k 0 = if k < L then g k else 0 := by
  by_cases h : k < L
  · rw [if_pos h, lstI_get L g k h]
  · rw [if_neg h, getD_far _ _ (by rw [lstI_len]; omega)]
theorem upL_get (s : Nat) (xs : List Int) (k : Nat) : (upL s xs).getD k 0 = if k < s then 0 else xs.getD (k - s) 0 := by
  unfold upL
  split
  · rename_i h
    rw [getD_far xs (k - s) (by omega)]
    simp
  · rename_i h
    rw [lstI_getD]
    by_cases h1 : k < s
    · simp [h1]
    · by_cases h2 : k < s + xs.length
      · simp [h1, h2]
      · rw [if_neg h2, if_neg h1, getD_far _ _ (by omega)]
theorem upL_can {s : Nat} {xs : List Int} (h : CanL xs) : CanL (upL s xs) := by
  refine ⟨fun k => ?_, fun h0 => ?_⟩
  · rw [upL_get]
    split
    · exact Int.le_refl _
    · exact h.pos _
  · rw [upL_len] at h0 ⊢
    split at h0
    · omega
    · rename_i hn
      rw [if_neg hn, upL_get, if_neg (by omega), show s + xs.length - 1 - s = xs.length - 1 by omega]
      exact h.last (by omega)

/-- Two lists added. -/
def addL (a b : List Int) : List Int := lstI (max a.length b.length) (fun k => a.getD k 0 + b.getD k 0)
theorem addL_len (a b : List Int) : (addL a b).length = max a.length b.length := lstI_len _ _
theorem addL_get (a b : List Int) (k : Nat) : (addL a b).getD k 0 = a.getD k 0 + b.getD k 0 := by
  unfold addL
  rw [lstI_getD]
  split
  · rfl
  · rename_i h
    rw [getD_far a k (by omega), getD_far b k (by omega)]
    rfl
theorem addL_nil (a : List Int) : addL a [] = a := by
  unfold addL
  simp only [List.length_nil, Nat.max_zero]
  refine Eq.trans ?_ (lstI_self a)
  exact lstI_congr _ _ _ (fun k _ => by simp)
theorem nil_addL (a : List Int) : addL [] a = a := by
  unfold addL
  simp only [List.length_nil, Nat.zero_max]
  refine Eq.trans ?_ (lstI_self a)
  exact lstI_congr _ _ _ (fun k _ => by simp)
theorem addL_can {a b : List Int} (ha : CanL a) (hb : CanL b) : CanL (addL a b) := by
  refine ⟨fun k => ?_, fun h0 => ?_⟩
  · rw [addL_get]
    have := ha.pos k
    have := hb.pos k
    omega
  · rw [addL_len] at h0 ⊢
    rw [addL_get]
    have p := ha.pos (max a.length b.length - 1)
    have q := hb.pos (max a.length b.length - 1)
    by_cases h : b.length ≤ a.length
    · rw [show max a.length b.length = a.length by omega] at p q h0 ⊢
      have := ha.last h0
      omega
    · rw [show max a.length b.length = b.length by omega] at p q h0 ⊢
      have := hb.last h0
      omega

/-- The weights behind a row, with t places of a rook so far. -/
def behL (same fewer : List Int) (s : Nat) : Nat → List Int
  | 0 => upL s same
  | t + 1 => addL (behL same fewer s t) (upL t fewer)
theorem behL_nil (same : List Int) (s t : Nat) : behL same [] s t = upL s same := by
  induction t with
  | zero => rfl
  | succ t ih => rw [behL, ih, upL_nil, addL_nil]
theorem behL_can {same fewer : List Int} (h1 : CanL same) (h2 : CanL fewer) (s t : Nat) : CanL (behL same fewer s t) := by
  induction t with
  | zero => exact upL_can h1
  | succ t ih => exact addL_can ih (upL_can h2)
theorem behL_len (same fewer : List Int) (s t L : Nat) (h1 : same.length ≤ L) (h2 : fewer.length ≤ L) (ht : t ≤ s + 1) : (behL same fewer s t).length ≤ s + L := by
  induction t with
  | zero => rw [behL, upL_len]; split <;> omega
  | succ t ih =>
    have := ih (by omega)
    rw [behL, addL_len, upL_len]
    split <;> omega
theorem behL_bd (same fewer : List Int) (s t : Nat) (M : Int) (h1 : ∀ k, same.getD k 0 ≤ M) (h2 : ∀ k, fewer.getD k 0 ≤ M) (h0 : 0 ≤ M) (k : Nat) : (behL same fewer s t).getD k 0 ≤ (t + 1) * M := by
  have up : ∀ (s : Nat) (xs : List Int), (∀ k, xs.getD k 0 ≤ M) → ∀ k, (upL s xs).getD k 0 ≤ M := fun s xs h k => by
    rw [upL_get]
    split
    · exact h0
    · exact h _
  induction t with
  | zero => have := up s same h1 k; rw [behL]; simpa using this
  | succ t ih =>
    have a := up t fewer h2 k
    rw [behL, addL_get]
    have e : (((t + 1 : Nat) : Int) + 1) * M = ((t : Int) + 1) * M + M := by rw [Int.natCast_succ, Int.add_mul (_ + 1) 1 M, Int.one_mul]
    rw [e]
    omega

/-- What stands before. -/
def preW (W : Nat → List Int) : Nat → List Int
  | 0 => []
  | k + 1 => W k
def rowW (m : Int) (W : Nat → List Int) (k : Nat) : List Int := if m < k then [] else behL (W k) (preW W k) (m - k).toNat ((m - k).toNat + 1)
/-- The weights of the first i rows. -/
def wts (xs : List Int) : Nat → Nat → List Int
  | 0, k => if k = 0 then [1] else []
  | i + 1, k => rowW (xs.getD i 0) (wts xs i) k
theorem wts_succ (xs : List Int) (i k : Nat) : wts xs (i + 1) k = rowW (xs.getD i 0) (wts xs i) k := rfl
theorem wts_zero (xs : List Int) (i k : Nat)
    (h : i < k ∨ (0 < i ∧ xs.getD (i - 1) 0 < k)) : wts xs i k = [] := by
  induction i generalizing k with
  | zero => simp [wts]; omega
  | succ i ih =>
    rw [wts, rowW]
    split
    · rfl
    · rename_i hm
      rcases h with h | ⟨_, h⟩
      · have h1 := ih k (.inl (by omega))
        cases k with
        | zero => omega
        | succ k =>
          have h2 := ih k (.inl (by omega))
          rw [preW, h1, h2, behL_nil, upL_nil]
      · rw [Nat.add_sub_cancel] at h
        omega
theorem preW_can {W : Nat → List Int} (h : ∀ k, CanL (W k)) (k : Nat) : CanL (preW W k) := by
  cases k with
  | zero => exact CanL.nil
  | succ k => exact h k
theorem wts_can (xs : List Int) (i k : Nat) : CanL (wts xs i k) := by
  induction i generalizing k with
  | zero =>
    rw [wts]
    split
    · exact CanL.one
    · exact CanL.nil
  | succ i ih =>
    rw [wts, rowW]
    split
    · exact CanL.nil
    · exact behL_can (ih k) (preW_can ih k) _ _
theorem preW_len {W : Nat → List Int} {L : Nat} (h : ∀ k, (W k).length ≤ L) (k : Nat) : (preW W k).length ≤ L := by
  cases k with
  | zero => exact Nat.zero_le _
  | succ k => exact h k
theorem wts_len (xs : List Int) (h : ∀ k, xs.getD k 0 ≤ 6) (i k : Nat) : (wts xs i k).length ≤ 6 * i + 1 := by
  induction i generalizing k with
  | zero => rw [wts]; split <;> simp
  | succ i ih =>
    rw [wts, rowW]
    split
    · exact Nat.zero_le _
    · have := behL_len (wts xs i k) (preW (wts xs i) k) (xs.getD i 0 - k).toNat ((xs.getD i 0 - k).toNat + 1) (6 * i + 1) (ih k) (preW_len ih k) (Nat.le_refl _)
      have := h i
      omega
theorem preW_bd {W : Nat → List Int} {M : Int} (h0 : 0 ≤ M) (h : ∀ k e, (W k).getD e 0 ≤ M) (k e : Nat) : (preW W k).getD e 0 ≤ M := by
  cases k with
  | zero => simpa [preW] using h0
  | succ k => exact h k e
theorem wts_bd (xs : List Int) (h : ∀ k, xs.getD k 0 ≤ 6) (i k e : Nat) : (wts xs i k).getD e 0 ≤ 8 ^ i := by
  induction i generalizing k e with
  | zero =>
    rw [wts]
    split
    · cases e <;> simp
    · simp
  | succ i ih =>
    have p : (0 : Int) ≤ 8 ^ i := Int.pow_nonneg (by decide)
    rw [wts, rowW]
    split
    · have : (0 : Int) ≤ 8 ^ (i + 1) := Int.pow_nonneg (by decide)
      simpa using this
    · rename_i hm
      refine Int.le_trans (behL_bd _ _ _ _ (8 ^ i) (fun e => ih k e) (fun e => preW_bd p ih k e) p e) ?_
      rw [Int.pow_succ, Int.mul_comm]
      have := h i
      exact Int.mul_le_mul_of_nonneg_left (by omega) p
theorem pow8i (i : Nat) (h : i ≤ 6) : (8 : Int) ^ i ≤ 262144 := by
  match i, h with
  | 0, _ | 1, _ | 2, _ | 3, _ | 4, _ | 5, _ | 6, _ => decide
theorem wts_in (xs : List Int) (h : ∀ k, xs.getD k 0 ≤ 6) (i k e : Nat) (hi : i ≤ 6) : 0 ≤ (wts xs i k).getD e 0 ∧ (wts xs i k).getD e 0 ≤ 262144 := by
  have := wts_bd xs h i k e
  have := pow8i i hi
  have := (wts_can xs i k).pos e
  omega
end Go.Proofs.Ytdgkcfpfldaopaa
end

section
namespace Go.Proofs.Ytdgkcfpfldaopaa
open Go.RowKit

/-- A list told by a function. -/
def lstL (L : Nat) (g : Nat → Nat) : List Int := (List.range L).map (fun k => (g k : Int))
theorem lstL_len (L : Nat) (g : Nat → Nat) : (lstL L g).length = L := by simp [lstL]
theorem lstL_get (L : Nat) (g : Nat → Nat) (k : Nat) (h : k < L) : (lstL L g).getD k 0 = g k := by simp [lstL, List.getD, h]
theorem lstL_zero (L : Nat) : List.replicate L (0 : Int) = lstL L (fun _ => 0) := by
  apply List.ext_getElem
  · simp [lstL]
  · intro i h1 h2
    simp [lstL]
theorem lstL_congr (L : Nat) (g g' : Nat → Nat) (h : ∀ k, k < L → g k = g' k) : lstL L g = lstL L g' := by
  unfold lstL
  refine List.map_congr_left (fun k hk => ?_)
  rw [h k (List.mem_range.1 hk)]
theorem lstL_set (L : Nat) (g g' : Nat → Nat) (i : Nat) (x : Int) (hx : (g' i : Int) = x) (ho : ∀ k, k < L → k ≠ i → g' k = g k) : (lstL L g).set i x = lstL L g' := by
  apply List.ext_getElem
  · simp [lstL]
  · intro k h1 h2
    have hk : k < L := by simpa [lstL] using h2
    by_cases e : k = i
    · subst e
      rw [List.getElem_set_self]
      simp [lstL, hx]
    · rw [List.getElem_set_ne (fun h => e h.symm)]
      simp [lstL, ho k hk e]

/-- What one column adds: w d rows on, the column taken. -/
def term (B : Nat → Nat → Bool) (w : Nat → Nat → Nat) (f t k c : Nat) : Nat := if B f c && !t.testBit c then (if k = 0 then 0 else w (t ||| 2 ^ c) (k - 1)) else 0
/-- In how many ways d rows from f on carry k rooks in columns that are not in t. -/
def wR (m : Nat) (B : Nat → Nat → Bool) : Nat → Nat → Nat → Nat → Nat
  | 0, _, _, k => if k = 0 then 1 else 0
  | d + 1, f, t, k => wR m B d (f + 1) t k + ((List.range m).map (term B (wR m B d (f + 1)) f t k)).sum
/-- .. with the first c columns looked at. -/
def accC (m : Nat) (B : Nat → Nat → Bool) (d f t c k : Nat) : Nat := wR m B d (f + 1) t k + ((List.range c).map (term B (wR m B d (f + 1)) f t k)).sum
theorem accC_zero (m : Nat) (B : Nat → Nat → Bool) (d f t k : Nat) : accC m B d f t 0 k = wR m B d (f + 1) t k := by simp [accC]
theorem accC_full (m : Nat) (B : Nat → Nat → Bool) (d f t k : Nat) : accC m B d f t m k = wR m B (d + 1) f t k := rfl
theorem accC_succ (m : Nat) (B : Nat → Nat → Bool) (d f t c k : Nat) : accC m B d f t (c + 1) k = accC m B d f t c k + term B (wR m B d (f + 1)) f t k c := by
  unfold accC
  rw [List.range_succ, List.map_append, List.sum_append]
  simp [Nat.add_assoc]

theorem sum_le (l : List Nat) (b : Nat) (h : ∀ x ∈ l, x ≤ b) : l.sum ≤ l.length * b := by
  induction l with
  | nil => simp
  | cons a l ih =>
    rw [List.sum_cons, List.length_cons, Nat.succ_mul]
    have := h a (by simp)
    have := ih (fun x hx => h x (by simp [hx]))
    omega
theorem term_le (B : Nat → Nat → Bool) (w : Nat → Nat → Nat) (f t k c b : Nat) (h : ∀ t k, w t k ≤ b) : term B w f t k c ≤ b := by
  unfold term
  split
  · split
    · omega
    · exact h _ _
  · omega
theorem accC_le (m : Nat) (B : Nat → Nat → Bool) (d f t c k b : Nat) (h : ∀ t k, wR m B d (f + 1) t k ≤ b) : accC m B d f t c k ≤ (c + 1) * b := by
  have h1 := h t k
  have h2 := sum_le ((List.range c).map (term B (wR m B d (f + 1)) f t k)) b (fun x hx => by
    obtain ⟨c', _, rfl⟩ := List.mem_map.1 hx
    exact term_le B _ f t k c' b h)
  rw [List.length_map, List.length_range] at h2
  unfold accC
  rw [Nat.succ_mul]
  omega
theorem wR_le (m : Nat) (hm : m ≤ 6) (B : Nat → Nat → Bool) (d : Nat) : ∀ f t k, wR m B d f t k ≤ 7 ^ d := by
  induction d with
  | zero => intro f t k; unfold wR; split <;> simp
  | succ d ih =>
    intro f t k
    have h := accC_le m B d f t m k (7 ^ d) (fun t k => ih (f + 1) t k)
    rw [accC_full] at h
    have h2 : (m + 1) * 7 ^ d ≤ 7 * 7 ^ d := Nat.mul_le_mul_right _ (by omega)
    rw [Nat.pow_succ]
    omega
theorem pow7 (d : Nat) (h : d ≤ 6) : 7 ^ d ≤ 117649 := by
  have : d = 0 ∨ d = 1 ∨ d = 2 ∨ d = 3 ∨ d = 4 ∨ d = 5 ∨ d = 6 := by omega
  rcases this with rfl | rfl | rfl | rfl | rfl | rfl | rfl <;> simp

/-- How many of the first m columns are taken. -/
def cntT (m t : Nat) : Nat := ((List.range m).filter (fun c => t.testBit c)).length
theorem cntT_put (m t c : Nat) (hm : m ≤ 6) (ht : t < 64) (hc : c < m) (h : t.testBit c = false) : cntT m (t ||| 2 ^ c) = cntT m t + 1 ∧ t ||| 2 ^ c < 64 := by
  have key : ∀ m : Fin 7, ∀ t : Fin 64, ∀ c : Fin 6, (c : Nat) < (m : Nat) → (t : Nat).testBit c = false → cntT m (t ||| 2 ^ (c : Nat)) = cntT m t + 1 ∧ (t : Nat) ||| 2 ^ (c : Nat) < 64 := by decide +kernel
  exact key ⟨m, by omega⟩ ⟨t, ht⟩ ⟨c, by omega⟩ hc h
theorem sum_pos (l : List Nat) (h : l.sum ≠ 0) : ∃ x ∈ l, x ≠ 0 := by
  induction l with
  | nil => simp at h
  | cons a l ih =>
    by_cases ha : a = 0
    · rw [List.sum_cons, ha, Nat.zero_add] at h
      obtain ⟨x, hx, h2⟩ := ih h
      exact ⟨x, by simp [hx], h2⟩
    · exact ⟨a, by simp, ha⟩
/-- More rooks than rows or than columns that are left have no way. -/
theorem wR_off (m : Nat) (hm : m ≤ 6) (B : Nat → Nat → Bool) (d : Nat) : ∀ f t k, t < 64 → cntT m t ≤ m → wR m B d f t k ≠ 0 → k ≤ d ∧ k + cntT m t ≤ m := by
  induction d with
  | zero =>
    intro f t k _ hc h
    unfold wR at h
    split at h
    · omega
    · simp at h
  | succ d ih =>
    intro f t k ht hc h
    by_cases h1 : wR m B d (f + 1) t k ≠ 0
    · have := ih _ _ _ ht hc h1; omega
    · have h2 : ((List.range m).map (term B (wR m B d (f + 1)) f t k)).sum ≠ 0 := by
        unfold wR at h
        omega
      obtain ⟨x, hx, hx0⟩ := sum_pos _ h2
      obtain ⟨c, hcm, rfl⟩ := List.mem_map.1 hx
      have hcm := List.mem_range.1 hcm
      unfold term at hx0
      split at hx0
      · rename_i hb
        rw [Bool.and_eq_true, Bool.not_eq_true'] at hb
        split at hx0
        · omega
        · obtain ⟨e1, e2⟩ := cntT_put m t c hm ht hcm hb.2
          have hle : cntT m (t ||| 2 ^ c) ≤ m := by
            unfold cntT
            have := List.length_filter_le (fun c' => (t ||| 2 ^ c).testBit c') (List.range m)
            simpa using this
          have := ih _ _ _ e2 hle hx0
          omega
      · omega
theorem cntT_zero (m : Nat) : cntT m 0 = 0 := by simp [cntT]
theorem cntT_le (m t : Nat) : cntT m t ≤ m := by
  unfold cntT
  have := List.length_filter_le (fun c => t.testBit c) (List.range m)
  simpa using this

end Go.Proofs.Ytdgkcfpfldaopaa
end
