/- All orders of numbers, and how many rows they hit: the plain part. No condition. -/
import Derived.Test.YtddmommamcgelaaHp
namespace Go.Proofs.Ytddmommamcgelaa
open Go.RowKit

theorem hasP_on (P : List Int) (c q : Nat) : hasI (P ++ [(c : Int)]) (q : Int) = (hasI P (q : Int) || decide (c = q)) := by
  rw [hasI_snoc]
  congr 1
  rw [Bool.eq_iff_iff, beq_iff_eq, decide_eq_true_eq]
  omega
/-- All orders of n numbers that go on a list by d of them. -/
def prm (n : Nat) : Nat → List Int → List (List Int)
  | 0, P => [P]
  | d + 1, P => (List.range n).flatMap (fun (x : Nat) => if hasI P (x : Int) then [] else prm n d (P ++ [(x : Int)]))
/-- .. with the first x numbers next. -/
def prmC (n d : Nat) (P : List Int) (x : Nat) : List (List Int) := (List.range x).flatMap (fun (x : Nat) => if hasI P (x : Int) then [] else prm n d (P ++ [(x : Int)]))
theorem prmC_zero (n d : Nat) (P : List Int) : prmC n d P 0 = [] := rfl
theorem prmC_last (n d : Nat) (P : List Int) : prmC n d P n = prm n (d + 1) P := rfl
theorem prmC_skip (n d : Nat) (P : List Int) (x : Nat) (h : hasI P (x : Int) = true) : prmC n d P (x + 1) = prmC n d P x := by
  unfold prmC
  rw [List.range_succ, List.flatMap_append]
  simp [h]
theorem prmC_next (n d : Nat) (P : List Int) (x : Nat) (h : hasI P (x : Int) = false) : prmC n d P (x + 1) = prmC n d P x ++ prm n d (P ++ [(x : Int)]) := by
  unfold prmC
  rw [List.range_succ, List.flatMap_append]
  simp [h]
theorem prm_len (n d : Nat) : ∀ P, (prm n d P).length ≤ n ^ d := by
  induction d with
  | zero => intro P; simp [prm]
  | succ d ih =>
    intro P
    have h : ∀ x, (prmC n d P x).length ≤ x * n ^ d := by
      intro x
      induction x with
      | zero => simp [prmC_zero]
      | succ x ih2 =>
        rw [Nat.succ_mul]
        cases hx : hasI P (x : Int)
        · rw [prmC_next _ _ _ _ hx, List.length_append]
          have := ih (P ++ [(x : Int)])
          omega
        · rw [prmC_skip _ _ _ _ hx]
          omega
    rw [← prmC_last, Nat.pow_succ, Nat.mul_comm]
    exact h n
theorem prmC_len (n d : Nat) (P : List Int) (x : Nat) : (prmC n d P x).length ≤ x * n ^ d := by
  induction x with
  | zero => simp [prmC_zero]
  | succ x ih2 =>
    rw [Nat.succ_mul]
    cases hx : hasI P (x : Int)
    · rw [prmC_next _ _ _ _ hx, List.length_append]
      have := prm_len n d (P ++ [(x : Int)])
      omega
    · rw [prmC_skip _ _ _ _ hx]
      omega
theorem prm_rows (n d : Nat) : ∀ P, ∀ Q ∈ prm n d P, Q.length = P.length + d := by
  induction d with
  | zero => intro P Q h; rw [prm, List.mem_singleton] at h; rw [h]; rfl
  | succ d ih =>
    intro P Q h
    rw [prm, List.mem_flatMap] at h
    obtain ⟨x, _, h⟩ := h
    split at h
    · cases h
    · have := ih _ _ h
      rw [List.length_append, List.length_singleton] at this
      omega
/-- How many of the first r rows a list hits. -/
def hitN (B : Nat → Nat → Bool) (Q : List Int) : Nat → Nat
  | 0 => 0
  | r + 1 => hitN B Q r + if B r (Q.getD r 0).toNat = true then 1 else 0
theorem hitN_le (B : Nat → Nat → Bool) (Q : List Int) (r : Nat) : hitN B Q r ≤ r := by
  induction r with
  | zero => exact Nat.le_refl _
  | succ r ih => rw [hitN]; split <;> omega
theorem hitN_congr (B : Nat → Nat → Bool) (P Q : List Int) (r : Nat) (h : ∀ k, k < r → P.getD k 0 = Q.getD k 0) : hitN B P r = hitN B Q r := by
  induction r with
  | zero => rfl
  | succ r ih => rw [hitN, hitN, ih (fun k hk => h k (by omega)), h r (by omega)]
theorem hitN_snoc (B : Nat → Nat → Bool) (P : List Int) (x : Nat) : hitN B (P ++ [(x : Int)]) (P.length + 1) = hitN B P P.length + if B P.length x = true then 1 else 0 := by
  have e : (P ++ [(x : Int)]).getD P.length 0 = x := by simp [List.getD]
  rw [hitN, e, Int.toNat_natCast]
  congr 1
  refine hitN_congr B _ _ _ (fun k hk => ?_)
  simp [List.getD, List.getElem?_append_left hk]
/-- How many lists hit just k rows. -/
def htcL (B : Nat → Nat → Bool) (n : Nat) (k : Nat) : List (List Int) → Nat
  | [] => 0
  | Q :: L => (if hitN B Q n = k then 1 else 0) + htcL B n k L
theorem htcL_app (B : Nat → Nat → Bool) (n k : Nat) (L M : List (List Int)) : htcL B n k (L ++ M) = htcL B n k L + htcL B n k M := by
  induction L with
  | nil => simp [htcL]
  | cons Q L ih => rw [List.cons_append, htcL, htcL, ih]; omega
theorem htcL_le (B : Nat → Nat → Bool) (n k : Nat) (L : List (List Int)) : htcL B n k L ≤ L.length := by
  induction L with
  | nil => exact Nat.le_refl _
  | cons Q L ih => rw [htcL, List.length_cons]; split <;> omega
theorem htcL_filter (B : Nat → Nat → Bool) (n k : Nat) (L : List (List Int)) : (L.filter (fun Q => hitN B Q n == k)).length = htcL B n k L := by
  induction L with
  | nil => rfl
  | cons Q L ih =>
    rw [List.filter_cons, htcL]
    by_cases h : hitN B Q n = k
    · rw [if_pos (by simpa using h), List.length_cons, ih, if_pos h]; omega
    · rw [if_neg (by simpa using h), ih, if_neg h]; omega
theorem htcL_prm (n : Nat) (B : Nat → Nat → Bool) (d : Nat) : ∀ (f t : Nat) (P : List Int), P.length = f → f + d = n → (∀ c, c < n → t.testBit c = hasI P (c : Int)) → ∀ k, htcL B n k (prm n d P) = if k < hitN B P f then 0 else pH n B d f t (k - hitN B P f) := by
  induction d with
  | zero =>
    intro f t P hP hf ht k
    obtain rfl : f = n := by omega
    rw [prm, pH]
    simp only [htcL]
    by_cases h1 : k < hitN B P f
    · rw [if_pos h1, if_neg (by omega)]
    · rw [if_neg h1]
      by_cases h2 : k - hitN B P f = 0
      · rw [if_pos h2, if_pos (by omega)]
      · rw [if_neg h2, if_neg (by omega)]
  | succ d ih =>
    intro f t P hP hf ht k
    have hx : ∀ x, x < n → htcL B n k (if hasI P (x : Int) then [] else prm n d (P ++ [(x : Int)])) = if k < hitN B P f then 0 else (if t.testBit x = false then (if B f x = true then (if k - hitN B P f = 0 then 0 else pH n B d (f + 1) (t ||| 2 ^ x) (k - hitN B P f - 1)) else pH n B d (f + 1) (t ||| 2 ^ x) (k - hitN B P f)) else 0) := by
      intro x hx
      rw [← ht x hx]
      cases hb : t.testBit x
      · simp only [Bool.false_eq_true, if_false, if_true]
        rw [ih (f + 1) (t ||| 2 ^ x) (P ++ [(x : Int)]) (by simp [hP]) (by omega) (fun c hc => by rw [hasP_on, bit_both, ht c hc]) k, ← hP, hitN_snoc]
        cases hB : B P.length x
        · simp
        · simp only [if_true]
          by_cases h1 : k < hitN B P P.length
          · rw [if_pos h1, if_pos (by omega)]
          · rw [if_neg h1]
            by_cases h2 : k - hitN B P P.length = 0
            · rw [if_pos h2, if_pos (by omega)]
            · rw [if_neg h2, if_neg (by omega), Nat.sub_add_eq]
      · simp [htcL]
    have hs : ∀ x, x ≤ n → htcL B n k (prmC n d P x) = sumN (fun x => htcL B n k (if hasI P (x : Int) then [] else prm n d (P ++ [(x : Int)]))) x := by
      intro x
      induction x with
      | zero => intro _; rfl
      | succ x ih2 =>
        intro h
        rw [sumN, ← ih2 (by omega)]
        cases hh : hasI P (x : Int)
        · rw [prmC_next _ _ _ _ hh, htcL_app]; simp
        · rw [prmC_skip _ _ _ _ hh]; simp [htcL]
    rw [← prmC_last, hs n (Nat.le_refl _), sumN_congr _ _ n hx, pH]
    by_cases h1 : k < hitN B P f
    · simp only [if_pos h1]; exact sumN_zero n
    · simp only [if_neg h1]
/-- All orders, counted by hits. -/
theorem htcL_all (n : Nat) (B : Nat → Nat → Bool) (k : Nat) : htcL B n k (prm n n []) = pH n B n 0 0 k := by
  rw [htcL_prm n B n 0 0 [] rfl (by omega) (fun c _ => by simp [hasI_nil]) k]
  simp [hitN]

end Go.Proofs.Ytddmommamcgelaa
