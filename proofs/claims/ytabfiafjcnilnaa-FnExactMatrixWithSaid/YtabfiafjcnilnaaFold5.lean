import Derived.Test.YtabfiafjcnilnaaFold4

section
namespace Go.Proofs.Ytabfiafjcnilnaa
open Go.RowKit

/-- One row more. -/
def rowS (m : Int) (f : Nat → Int) (j : Nat) : Int := if j = 0 then f 0 else f j + f (j - 1) * max 0 (m - j + 1)
/-- Rook numbers of the first rows. -/
def numS (xs : List Int) : Nat → Nat → Int
  | 0, j => if j = 0 then 1 else 0
  | i + 1, j => rowS (xs.getD i 0) (numS xs i) j
theorem numS_succ (xs : List Int) (i j : Nat) : numS xs (i + 1) j = rowS (xs.getD i 0) (numS xs i) j := rfl
theorem numS_zero (xs : List Int) (h0 : ∀ k, 0 ≤ xs.getD k 0) (hs : ∀ i j, i ≤ j → j < xs.length → xs.getD i 0 ≤ xs.getD j 0) (i : Nat) (hi : i ≤ xs.length) (j : Nat)
    (h : i < j ∨ (0 < i ∧ xs.getD (i - 1) 0 < j)) : numS xs i j = 0 := by
  induction i generalizing j with
  | zero => simp [numS]; omega
  | succ i ih =>
    have hx := h0 i
    rw [numS, rowS]
    have hj : j ≠ 0 := by
      rcases h with h | ⟨_, h⟩
      · omega
      · rw [Nat.add_sub_cancel] at h
        omega
    rw [if_neg hj]
    rcases h with h | ⟨_, h⟩
    · rw [ih (by omega) j (.inl (by omega)), ih (by omega) (j - 1) (.inl (by omega))]
      simp
    · simp only [Nat.add_sub_cancel] at h
      rw [show max 0 (xs.getD i 0 - (j : Int) + 1) = 0 by omega]
      have : numS xs i j = 0 := by
        by_cases h1 : i = 0
        · subst h1
          simp [numS, hj]
        · have := hs (i - 1) i (by omega) (by omega)
          exact ih (by omega) j (.inr ⟨by omega, by omega⟩)
      rw [this]
      simp
theorem mul6 (x y K : Int) (hx : 0 ≤ x ∧ x ≤ K) (hy : 0 ≤ y ∧ y ≤ 6) : 0 ≤ x * y ∧ x * y ≤ 6 * K := by
  refine ⟨Int.mul_nonneg hx.1 hy.1, ?_⟩
  have := Int.mul_le_mul hx.2 hy.2 hy.1 (by omega)
  omega
theorem numS_bd (xs : List Int) (h : ∀ k, xs.getD k 0 ≤ 6) (i j : Nat) : 0 ≤ numS xs i j ∧ numS xs i j ≤ 7 ^ i := by
  induction i generalizing j with
  | zero => rw [numS]; split <;> simp
  | succ i ih =>
    rw [numS, rowS]
    have p : (0 : Int) ≤ 7 ^ i := Int.pow_nonneg (by decide)
    rw [Int.pow_succ]
    split
    · have := ih 0
      omega
    · rename_i hj
      have a := ih j
      have b := ih (j - 1)
      have hm := h i
      have c := mul6 _ (max 0 (xs.getD i 0 - (j : Int) + 1)) _ b ⟨by omega, by omega⟩
      omega
theorem pow7i (i : Nat) (h : i ≤ 6) : (7 : Int) ^ i ≤ 117649 := by
  match i, h with
  | 0, _ | 1, _ | 2, _ | 3, _ | 4, _ | 5, _ | 6, _ => decide
theorem numS_in (xs : List Int) (h : ∀ k, xs.getD k 0 ≤ 6) (i j : Nat) (hi : i ≤ 6) : 0 ≤ numS xs i j ∧ numS xs i j ≤ 117649 := by
  have := numS_bd xs h i j
  have := pow7i i hi
  omega
/-- The row behind the numbers from the greatest one down to k. -/
def midS (m : Int) (f : Nat → Int) (k j : Nat) : Int := if k < j then rowS m f j else f j
theorem midS_at (m : Int) (f : Nat → Int) (k j : Nat) (h : j ≤ k) : midS m f k j = f j := if_neg (by omega)
theorem midS_step (m : Int) (f : Nat → Int) (k : Nat) : midS m f k (k + 1) = f (k + 1) + f k * max 0 (m - k) := by
  rw [midS, if_pos (by omega), rowS, if_neg (by omega), Nat.add_sub_cancel, show m - ((k + 1 : Nat) : Int) + 1 = m - k by omega]
theorem midS_ne (m : Int) (f : Nat → Int) (k j : Nat) (h : j ≠ k + 1) : midS m f k j = midS m f (k + 1) j := by
  unfold midS
  by_cases h1 : k < j
  · rw [if_pos h1, if_pos (by omega)]
  · rw [if_neg h1, if_neg (by omega)]
theorem midS_end (m : Int) (f : Nat → Int) (j : Nat) : midS m f 0 j = rowS m f j := by
  unfold midS
  by_cases h : 0 < j
  · rw [if_pos h]
  · rw [if_neg h, rowS, if_pos (by omega), show j = 0 by omega]
/-- The rook numbers of lengths. -/
def numLen (xs : List Int) : List Int := lstI (xs.length + 1) (numS xs xs.length)
theorem numLen_len (xs : List Int) : (numLen xs).length = xs.length + 1 := lstI_len _ _

/-- How many of the first numbers are greater. -/
def sideN (xs : List Int) (t : Int) : Nat → Int
  | 0 => 0
  | k + 1 => sideN xs t k + if t < xs.getD k 0 then 1 else 0
theorem sideN_bd (xs : List Int) (t : Int) (k : Nat) : 0 ≤ sideN xs t k ∧ sideN xs t k ≤ k := by
  induction k with
  | zero => simp [sideN]
  | succ k ih => rw [sideN]; split <;> omega
theorem sideN_no (xs : List Int) (t : Int) (k : Nat) (h : ¬ t < xs.getD k 0) : sideN xs t (k + 1) = sideN xs t k := by rw [sideN, if_neg h]; omega
theorem sideN_yes (xs : List Int) (t : Int) (k : Nat) (h : t < xs.getD k 0) : sideN xs t (k + 1) = sideN xs t k + 1 := by rw [sideN, if_pos h]
def sideL (xs : List Int) : List Int := lstI xs.length (fun i => sideN xs ((xs.length : Int) - 1 - i) xs.length)

/-- Is the number with the index k left out of the strict list? -/
def outP (fs : List Int) (k : Nat) : Bool := decide (fs.getD k 0 ≤ 0) && (decide (k = 0) || decide (fs.getD (k - 1) 0 < fs.getD k 0))
/-- Where the program's list goes on. -/
def atP (fs : List Int) : Nat → Int
  | 0 => 1 - fs.getD 0 0
  | k + 1 => if outP fs k then atP fs k else atP fs k + 1
def stP (fs : List Int) : Nat → List Int
  | 0 => List.replicate fs.length 0
  | k + 1 => if outP fs k then stP fs k else (stP fs k).set (atP fs k).toNat (fs.getD k 0 + atP fs k)
theorem stP_len (fs : List Int) (k : Nat) : (stP fs k).length = fs.length := by
  induction k with
  | zero => simp [stP]
  | succ k ih => rw [stP]; split <;> simp [ih]
def zeroS (fs : List Int) : Int := max 0 (1 - fs.getD 0 0)
def outS (fs : List Int) (o : Int) (k : Nat) : Bool := decide (o < zeroS fs) && decide (fs.getD k 0 = 1 - zeroS fs + o)
def opS (fs : List Int) : Nat → Int
  | 0 => 0
  | k + 1 => if outS fs (opS fs k) k then opS fs k + 1 else opS fs k
def stS (fs : List Int) : Nat → List Int
  | 0 => List.replicate (zeroS fs).toNat 0
  | k + 1 => if outS fs (opS fs k) k then stS fs k else stS fs k ++ [fs.getD k 0 + (stS fs k).length]
theorem stS_len (fs : List Int) (k : Nat) : (stS fs k).length ≤ (zeroS fs).toNat + k := by
  induction k with
  | zero => simp [stS]
  | succ k ih =>
    rw [stS]
    split
    · omega
    · rw [List.length_append, List.length_singleton]
      omega
theorem strict_same {xs : List Int} (h : lenB xs = true) : stP (facs xs) xs.length = stS (facs xs) xs.length ∧ ∀ k, k < xs.length → 0 ≤ atP (facs xs) k ∧ (outP (facs xs) k = false → atP (facs xs) k < xs.length) := by
  have := all_lens (fun xs => decide (stP (facs xs) xs.length = stS (facs xs) xs.length) && (List.range xs.length).all fun k => decide (0 ≤ atP (facs xs) k) && (outP (facs xs) k || decide (atP (facs xs) k < xs.length))) (by decide +kernel) h
  simp only [Bool.and_eq_true, decide_eq_true_eq, List.all_eq_true, List.mem_range, Bool.or_eq_true] at this
  refine ⟨this.1, fun k hk => ⟨(this.2 k hk).1, fun h => ?_⟩⟩
  rcases (this.2 k hk).2 with h2 | h2
  · rw [h] at h2; cases h2
  · exact h2

end Go.Proofs.Ytabfiafjcnilnaa
end

section
namespace Go.Proofs.Ytabfiafjcnilnaa
open Go.RowKit

/-- Weights: no number is less than 0, the last one is not 0. -/
structure CanL (xs : List Int) : Prop where
  pos : ∀ k, 0 ≤ xs.getD k 0
  last : 0 < xs.length → 0 < xs.getD (xs.length - 1) 0
theorem CanL.nil : CanL [] := ⟨by simp, by simp⟩
theorem CanL.one : CanL [1] := ⟨fun k => by cases k <;> simp, by simp⟩
theorem getD_far (xs : List Int) (k : Nat) (h : xs.length ≤ k) : xs.getD k 0 = 0 := by simp [List.getD, h]

/-- Moved up. -/
def upL (s : Nat) (xs : List Int) : List Int := if xs.length = 0 then [] else lstI (s + xs.length) (fun k => if k < s then 0 else xs.getD (k - s) 0)
theorem upL_nil (s : Nat) : upL s [] = [] := rfl
theorem upL_len (s : Nat) (xs : List Int) : (upL s xs).length = if xs.length = 0 then 0 else s + xs.length := by
  unfold upL
  split
  · rfl
  · rw [lstI_len]
theorem lstI_getD (L : Nat) (g : Nat → Int) (k : Nat) : (lstI L g).getD k 0 = if k < L then g k else 0 := by
  by_cases h : k < L
  · rw [if_pos h, lstI_get L g k h]
  · rw [if_neg h, getD_far _ _ (by rw [lstI_len]; omega)]
theorem upL_get (s : Nat) (xs : List Int) (k : Nat) : (upL s xs).getD k 0 = if k < s then 0 else xs.getD (k - s) 0 := by
  unfold upL
  split
  · rename_i h
    rw [getD_far xs (k - s) (by omega)]
    simp
  · rename_i h
    rw [lstI_getD]
    by_cases h1 : k < s
    · simp [h1]
    · by_cases h2 : k < s + xs.length
      · simp [h1, h2]
      · rw [if_neg h2, if_neg h1, getD_far _ _ (by omega)]
theorem upL_can {s : Nat} {xs : List Int} (h : CanL xs) : CanL (upL s xs) := by
  refine ⟨fun k => ?_, fun h0 => ?_⟩
  · rw [upL_get]
    split
    · exact Int.le_refl _
    · exact h.pos _
  · rw [upL_len] at h0 ⊢
    split at h0
    · omega
    · rename_i hn
      rw [if_neg hn, upL_get, if_neg (by omega), show s + xs.length - 1 - s = xs.length - 1 by omega]
      exact h.last (by omega)

/-- Two lists added. -/
def addL (a b : List Int) : List Int := lstI (max a.length b.length) (fun k => a.getD k 0 + b.getD k 0)
theorem addL_len (a b : List Int) : (addL a b).length = max a.length b.length := lstI_len _ _
theorem addL_get (a b : List Int) (k : Nat) : (addL a b).getD k 0 = a.getD k 0 + b.getD k 0 := by
  unfold addL
  rw [lstI_getD]
  split
  · rfl
  · rename_i h
    rw [getD_far a k (by omega), getD_far b k (by omega)]
    rfl
theorem addL_nil (a : List Int) : addL a [] = a := by
  unfold addL
  simp only [List.length_nil, Nat.max_zero]
  refine Eq.trans ?_ (lstI_self a)
  exact lstI_congr _ _ _ (fun k _ => by simp)
theorem nil_addL (a : List Int) : addL [] a = a := by
  unfold addL
  simp only [List.length_nil, Nat.zero_max]
  refine Eq.trans ?_ (lstI_self a)
  exact lstI_congr _ _ _ (fun k _ => by simp)
theorem addL_can {a b : List Int} (ha : CanL a) (hb : CanL b) : CanL (addL a b) := by
  refine ⟨fun k => ?_, fun h0 => ?_⟩
  · rw [addL_get]
    have := ha.pos k
    have := hb.pos k
    omega
  · rw [addL_len] at h0 ⊢
    rw [addL_get]
    have p := ha.pos (max a.length b.length - 1)
    have q := hb.pos (max a.length b.length - 1)
    by_cases h : b.length ≤ a.length
    · rw [show max a.length b.length = a.length by omega] at p q h0 ⊢
      have := ha.last h0
      omega
    · rw [show max a.length b.length = b.length by omega] at p q h0 ⊢
      have := hb.last h0
      omega

/-- The weights behind a row, with t places of a rook so far. -/
def behL (same fewer : List Int) (s : Nat) : Nat → List Int
  | 0 => upL s same
  | t + 1 => addL (behL same fewer s t) (upL t fewer)
theorem behL_nil (same : List Int) (s t : Nat) : behL same [] s t = upL s same := by
  induction t with
  | zero => rfl
  | succ t ih => rw [behL, ih, upL_nil, addL_nil]
theorem behL_can {same fewer : List Int} (h1 : CanL same) (h2 : CanL fewer) (s t : Nat) : CanL (behL same fewer s t) := by
  induction t with
  | zero => exact upL_can h1
  | succ t ih => exact addL_can ih (upL_can h2)
theorem behL_len (same fewer : List Int) (s t L : Nat) (h1 : same.length ≤ L) (h2 : fewer.length ≤ L) (ht : t ≤ s + 1) : (behL same fewer s t).length ≤ s + L := by
  induction t with
  | zero => rw [behL, upL_len]; split <;> omega
  | succ t ih =>
    have := ih (by omega)
    rw [behL, addL_len, upL_len]
    split <;> omega
theorem behL_bd (same fewer : List Int) (s t : Nat) (M : Int) (h1 : ∀ k, same.getD k 0 ≤ M) (h2 : ∀ k, fewer.getD k 0 ≤ M) (h0 : 0 ≤ M) (k : Nat) : (behL same fewer s t).getD k 0 ≤ (t + 1) * M := by
  have up : ∀ (s : Nat) (xs : List Int), (∀ k, xs.getD k 0 ≤ M) → ∀ k, (upL s xs).getD k 0 ≤ M := fun s xs h k => by
    rw [upL_get]
    split
    · exact h0
    · exact h _
  induction t with
  | zero => have := up s same h1 k; rw [behL]; simpa using this
  | succ t ih =>
    have a := up t fewer h2 k
    rw [behL, addL_get]
    have e : (((t + 1 : Nat) : Int) + 1) * M = ((t : Int) + 1) * M + M := by rw [Int.natCast_succ, Int.add_mul (_ + 1) 1 M, Int.one_mul]
    rw [e]
    omega

/-- What stands before. -/
def preW (W : Nat → List Int) : Nat → List Int
  | 0 => []
  | k + 1 => W k
def rowW (m : Int) (W : Nat → List Int) (k : Nat) : List Int := if m < k then [] else behL (W k) (preW W k) (m - k).toNat ((m - k).toNat + 1)
/-- The weights of the first i rows. -/
def wts (xs : List Int) : Nat → Nat → List Int
  | 0, k => if k = 0 then [1] else []
  | i + 1, k => rowW (xs.getD i 0) (wts xs i) k
theorem wts_succ (xs : List Int) (i k : Nat) : wts xs (i + 1) k = rowW (xs.getD i 0) (wts xs i) k := rfl
theorem wts_zero (xs : List Int) (i k : Nat)
    (h : i < k ∨ (0 < i ∧ xs.getD (i - 1) 0 < k)) : wts xs i k = [] := by
  induction i generalizing k with
  | zero => simp [wts]; omega
  | succ i ih =>
    rw [wts, rowW]
    split
    · rfl
    · rename_i hm
      rcases h with h | ⟨_, h⟩
      · have h1 := ih k (.inl (by omega))
        cases k with
        | zero => omega
        | succ k =>
          have h2 := ih k (.inl (by omega))
          rw [preW, h1, h2, behL_nil, upL_nil]
      · rw [Nat.add_sub_cancel] at h
        omega
theorem preW_can {W : Nat → List Int} (h : ∀ k, CanL (W k)) (k : Nat) : CanL (preW W k) := by
  cases k with
  | zero => exact CanL.nil
  | succ k => exact h k
theorem wts_can (xs : List Int) (i k : Nat) : CanL (wts xs i k) := by
  induction i generalizing k with
  | zero =>
    rw [wts]
    split
    · exact CanL.one
    · exact CanL.nil
  | succ i ih =>
    rw [wts, rowW]
    split
    · exact CanL.nil
    · exact behL_can (ih k) (preW_can ih k) _ _
theorem preW_len {W : Nat → List Int} {L : Nat} (h : ∀ k, (W k).length ≤ L) (k : Nat) : (preW W k).length ≤ L := by
  cases k with
  | zero => exact Nat.zero_le _
  | succ k => exact h k
theorem wts_len (xs : List Int) (h : ∀ k, xs.getD k 0 ≤ 6) (i k : Nat) : (wts xs i k).length ≤ 6 * i + 1 := by
  induction i generalizing k with
  | zero => rw [wts]; split <;> simp
  | succ i ih =>
    rw [wts, rowW]
    split
    · exact Nat.zero_le _
    · have := behL_len (wts xs i k) (preW (wts xs i) k) (xs.getD i 0 - k).toNat ((xs.getD i 0 - k).toNat + 1) (6 * i + 1) (ih k) (preW_len ih k) (Nat.le_refl _)
      have := h i
      omega
theorem preW_bd {W : Nat → List Int} {M : Int} (h0 : 0 ≤ M) (h : ∀ k e, (W k).getD e 0 ≤ M) (k e : Nat) : (preW W k).getD e 0 ≤ M := by
  cases k with
  | zero => simpa [preW] using h0
  | succ k => exact h k e
theorem wts_bd (xs : List Int) (h : ∀ k, xs.getD k 0 ≤ 6) (i k e : Nat) : (wts xs i k).getD e 0 ≤ 8 ^ i := by
  induction i generalizing k e with
  | zero =>
    rw [wts]
    split
    · cases e <;> simp
    · simp
  | succ i ih =>
    have p : (0 : Int) ≤ 8 ^ i := Int.pow_nonneg (by decide)
    rw [wts, rowW]
    split
    · have : (0 : Int) ≤ 8 ^ (i + 1) := Int.pow_nonneg (by decide)
      simpa using this
    · rename_i hm
      refine Int.le_trans (behL_bd _ _ _ _ (8 ^ i) (fun e => ih k e) (fun e => preW_bd p ih k e) p e) ?_
      rw [Int.pow_succ, Int.mul_comm]
      have := h i
      exact Int.mul_le_mul_of_nonneg_left (by omega) p
theorem pow8i (i : Nat) (h : i ≤ 6) : (8 : Int) ^ i ≤ 262144 := by
  match i, h with
  | 0, _ | 1, _ | 2, _ | 3, _ | 4, _ | 5, _ | 6, _ => decide
theorem wts_in (xs : List Int) (h : ∀ k, xs.getD k 0 ≤ 6) (i k e : Nat) (hi : i ≤ 6) : 0 ≤ (wts xs i k).getD e 0 ∧ (wts xs i k).getD e 0 ≤ 262144 := by
  have := wts_bd xs h i k e
  have := pow8i i hi
  have := (wts_can xs i k).pos e
  omega
end Go.Proofs.Ytabfiafjcnilnaa
end
