/- Rook polynomials, put in by Horner's rule and by falling factors: plain. No condition. -/
import Derived.Test.YthiddoaefhmpaaaPf
import Derived.Test.YthiddoaefhmpaaaRn
namespace Go.Proofs.Ythiddoaefhmpaaa
open Go.RowKit Go.WideShapes

theorem v64_mod (a : Int) : wrap64 a % 18446744073709551616 = a % 18446744073709551616 := by unfold wrap64; omega
theorem v64_congr {a b : Int} (h : a % 18446744073709551616 = b % 18446744073709551616) : wrap64 a = wrap64 b := by unfold wrap64; omega
theorem v64_mul (a b : Int) : wrap64 (wrap64 a * b) = wrap64 (a * b) := v64_congr (by rw [Int.mul_emod, v64_mod, ← Int.mul_emod])
theorem v64_add (a b : Int) : wrap64 (wrap64 a + b) = wrap64 (a + b) := v64_congr (by rw [Int.add_emod, v64_mod, ← Int.add_emod])
/-- Horner's sum of the first k numbers. -/
def horD (f : Nat → Int) (x : Int) : Nat → Int
  | 0 => 0
  | k + 1 => horD f x k * x + f k
theorem horD_nil (F : Nat → Int) (x : Int) : wrap64 (horD F x 0) = 0 := by
  show wrap64 0 = 0
  unfold wrap64
  omega
theorem horD_step (f : Nat → Int) (x : Int) (k : Nat) : wrap64 (wrap64 (wrap64 (horD f x k) * x) + f k) = wrap64 (horD f x (k + 1)) := by
  rw [v64_mul, v64_add, horD]
theorem horD_congr (f g : Nat → Int) (x : Int) (n : Nat) (h : ∀ k, k < n → f k = g k) : horD f x n = horD g x n := by
  induction n with
  | zero => rfl
  | succ n ih => rw [horD, horD, ih (fun k hk => h k (by omega)), h n (by omega)]
theorem sumT_shift (f : Nat → Int) (n : Nat) : sumT f (n + 1) = f 0 + sumT (fun k => f (k + 1)) n := by
  induction n with
  | zero => simp [sumT]
  | succ n ih => rw [sumT, ih, sumT, Int.add_assoc]
theorem sumT_times (f : Nat → Int) (x : Int) (n : Nat) : sumT f n * x = sumT (fun k => f k * x) n := by
  induction n with
  | zero => simp [sumT]
  | succ n ih => rw [sumT, Int.add_mul, ih, sumT]
theorem horD_back (x : Int) (q : Nat) : ∀ g : Nat → Int, horD (fun t => g (q - t)) x (q + 1) = sumT (fun k => g k * x ^ k) (q + 1) := by
  induction q with
  | zero => intro g; simp [horD, sumT]
  | succ q ih =>
    intro g
    have h1 := ih (fun k => g (k + 1))
    have h2 : horD (fun t => g (q + 1 - t)) x (q + 1) = horD (fun t => g (q - t + 1)) x (q + 1) := horD_congr _ _ _ _ (fun k hk => by show g (q + 1 - k) = g (q - k + 1); rw [show q + 1 - k = q - k + 1 by omega])
    rw [horD, h2, h1, sumT_shift (fun k => g k * x ^ k), sumT_times, Nat.sub_self]
    have h3 : sumT (fun k => g (k + 1) * x ^ k * x) (q + 1) = sumT (fun k => g (k + 1) * x ^ (k + 1)) (q + 1) := sumT_congr _ _ _ (fun k _ => by rw [Int.mul_assoc, Int.pow_succ])
    rw [h3, Int.pow_zero, Int.mul_one, Int.add_comm]
theorem sumP_yes {r c : Int} {xs : List Int} {x y : Int} (e : polyB r c xs x = ⟨y, true⟩) : ∃ (q : Nat) (ys : List Int), q ≤ 6 ∧ ys.length = q + 1 ∧ numB r c xs = ⟨ys, true⟩ ∧ y = wrap64 (horD (fun t => ys.getD (q - t) 0) x (q + 1)) := by
  unfold polyB at e
  cases hg : goodB r c xs
  · rw [hg] at e
    simp at e
  · rw [hg] at e
    have hf := good_facts hg
    cases hi : inB (-20) x 20
    · rw [hi] at e
      simp at e
    · rw [hi] at e
      injection e with e1 e2
      obtain ⟨n, hn⟩ := Int.eq_ofNat_of_zero_le (show 0 ≤ r by omega)
      obtain ⟨m, hm⟩ := Int.eq_ofNat_of_zero_le (show 0 ≤ c by omega)
      have e3 : r.toNat = n := by omega
      have e4 : c.toNat = m := by omega
      rw [e3, e4] at e1
      refine ⟨min n m, numL n m (bt xs), by omega, by rw [numL, lstL_len], by unfold numB; rw [hg, e3, e4]; rfl, ?_⟩
      rw [horD_back x (min n m) (fun k => (numL n m (bt xs)).getD k 0)]
      have hb : ∀ k, 0 ≤ (numL n m (bt xs)).getD k 0 ∧ (numL n m (bt xs)).getD k 0 ≤ 117649 := numL_bd n m (by omega) (by omega) (bt xs)
      have ha := sum_abs (polI (numL n m (bt xs)) x) (min n m + 1) (by omega) (fun k hk => polI_abs _ hb x (in_abs hi) k (by omega))
      rw [← e1]
      show sumT (polI (numL n m (bt xs)) x) (min n m + 1) = wrap64 (sumT (polI (numL n m (bt xs)) x) (min n m + 1))
      unfold Abs at ha
      rw [IntWalk.wrap64_in _ (by omega)]
theorem perm_zero {r c : Int} {xs : List Int} {y : Int} (e : permB r c xs = ⟨y, true⟩) : factB r c xs 0 = ⟨y, true⟩ := by
  unfold permB at e
  cases hg : sqB r c xs
  · rw [hg] at e
    simp at e
  · rw [hg] at e
    injection e with e1 e2
    unfold factB
    rw [hg, show inB (-20) 0 20 = true from inB_yes (by omega) (by omega)]
    have hz : ∀ j, fal 0 (j + 1) = 0 := by
      intro j
      induction j with
      | zero => simp [fal]
      | succ j ih => rw [fal, ih, Int.zero_mul]
    have hs : ∀ k, k ≤ r.toNat → sumT (falI (numL r.toNat r.toNat (bt xs)) 0 r.toNat) k = 0 := by
      intro k
      induction k with
      | zero => intro _; rfl
      | succ k ih =>
        intro hk
        rw [sumT, ih (by omega), falI, show r.toNat - k = (r.toNat - k - 1) + 1 by omega, hz, Int.mul_zero, Int.add_zero]
    show R1.mk (sumT _ (r.toNat + 1)) true = _
    rw [sumT, hs _ (Nat.le_refl _), falI, Nat.sub_self, show fal 0 0 = 1 from rfl, Int.mul_one, Int.zero_add, e1]
/-- What the law's last loop needs. -/
theorem fact_yes {r c : Int} {xs : List Int} {x y : Int} (e : factB r c xs x = ⟨y, true⟩) : ∃ (n : Nat) (ys : List Int), 1 ≤ n ∧ n ≤ 6 ∧ r = n ∧ c = n ∧ ys.length = n + 1 ∧ numB n n xs = ⟨ys, true⟩ ∧ Abs 20 x ∧ y = sumT (falI ys x n) (n + 1) ∧ (∀ k, k ≤ n → wrap64 (ys.getD k 0 * fal x (n - k)) = falI ys x n k ∧ wrap64 (sumT (falI ys x n) k + falI ys x n k) = sumT (falI ys x n) (k + 1)) := by
  unfold factB at e
  cases hg : sqB r c xs
  · rw [hg] at e
    simp at e
  · rw [hg] at e
    cases hi : inB (-20) x 20
    · rw [hi] at e
      simp at e
    · rw [hi] at e
      injection e with e1 e2
      have hs := hg
      unfold sqB at hs
      rw [Bool.and_eq_true] at hs
      obtain ⟨hgd, hrc⟩ := hs
      have hf := good_facts hgd
      have hrc2 : r = c := by simpa using hrc
      subst hrc2
      obtain ⟨n, rfl⟩ := Int.eq_ofNat_of_zero_le (show 0 ≤ r by omega)
      rw [Int.toNat_natCast] at e1
      have hb : ∀ k, 0 ≤ (numL n n (bt xs)).getD k 0 ∧ (numL n n (bt xs)).getD k 0 ≤ 117649 := numL_bd n n (by omega) (by omega) (bt xs)
      refine ⟨n, numL n n (bt xs), by omega, by omega, rfl, rfl, by rw [numL, lstL_len, Nat.min_self], by unfold numB; rw [hgd, Int.toNat_natCast]; rfl, in_abs hi, e1.symm, ?_⟩
      intro k hk
      have h1 := falI_abs _ hb x (in_abs hi) n k (by omega)
      have h2 := sum_abs (falI (numL n n (bt xs)) x n) (k + 1) (by omega) (fun j hj => falI_abs _ hb x (in_abs hi) n j (by omega))
      rw [sumT] at h2
      unfold Abs at h1 h2
      exact ⟨by show wrap64 (falI _ x n k) = _; exact IntWalk.wrap64_in _ (by omega), by rw [sumT]; exact IntWalk.wrap64_in _ (by omega)⟩
end Go.Proofs.Ythiddoaefhmpaaa
