/- Falling products, choices and powers of the program, for greater numbers. No condition but the sizes. -/
import Derived.Test.YtakdiiccdkjjcabSm
import Derived.Test.YtakdiiccdkjjcabPo
import Derived.BigQuiet
import Derived.IntWalk
namespace Go.Proofs.Ytakdiiccdkjjcab
open Go.RowKit Go.WideShapes

theorem falG_abs (x : Int) (hx : Abs 20 x) (k : Nat) (hk : k ≤ 12) : Abs ((32 ^ k : Nat) : Int) (fal x k) := by
  induction k with
  | zero => simp [fal, Abs]
  | succ k ih =>
    rw [fal, Nat.pow_succ]
    exact (ih (by omega)).mul (show Abs ((32 : Nat) : Int) (x - k) by unfold Abs at *; omega)
theorem falG_bd (x : Int) (hx : Abs 20 x) (k : Nat) (hk : k ≤ 12) : Abs 1152921504606846976 (fal x k) :=
  (falG_abs x hx k hk).mono (by
    have h2 : 32 ^ k ≤ 32 ^ 12 := Nat.pow_le_pow_right (by omega) hk
    have h3 : 32 ^ 12 = 1152921504606846976 := by decide
    omega)
theorem falG_wrap (x : Int) (hx : Abs 20 x) (j : Nat) (hj : j ≤ 11) : wrap64 (fal x j * (x - j)) = fal x (j + 1) := by
  have h1 := falG_bd x hx (j + 1) (by omega)
  rw [show fal x j * (x - j) = fal x (j + 1) from rfl]
  unfold Abs at h1
  exact IntWalk.wrap64_in _ (by omega)
theorem fctG_bd (k : Nat) (hk : k ≤ 12) : 1 ≤ fct k ∧ fct k ≤ 479001600 := by
  have key : ∀ k : Fin 13, 1 ≤ fct k ∧ fct k ≤ 479001600 := by decide +kernel
  exact key ⟨k, by omega⟩
theorem chsG_le (n k : Nat) (hn : n ≤ 12) (hk : k ≤ 12) : chs n k ≤ 924 := by
  have key : ∀ n : Fin 13, ∀ k : Fin 13, chs n k ≤ 924 := by decide +kernel
  exact key ⟨n, by omega⟩ ⟨k, by omega⟩
theorem chsG_div (n k : Nat) (hn : n ≤ 12) (hk : k ≤ 12) : wrap64 ((fal n k).tdiv (fct k)) = chs n k ∧ fct k ≠ 0 := by
  have key : ∀ n : Fin 13, ∀ k : Fin 13, wrap64 ((fal ((n : Nat) : Int) (k : Nat)).tdiv (fct (k : Nat))) = (chs (n : Nat) (k : Nat) : Nat) ∧ fct (k : Nat) ≠ 0 := by decide +kernel
  exact key ⟨n, by omega⟩ ⟨k, by omega⟩

set_option maxHeartbeats 800000 in
theorem fallingG_any (x : Int) (k : Nat) (w : World) (hx : Abs 20 x) (hk : k ≤ 12) : Calls Try.prog 121 #[.int .i64 x, .int .i64 k] w fun e w' => e = .returned (.int .i64 (fal x k)) ∧ w' = w := by
  have HX := Lib.hid hx
  unfold Abs at hx
  obtain ⟨x1, x2⟩ := hx
  go_enter Try.func121, Try.ntmps121
  go_wp2_with fail
  go_loop [5, 6] (fun t i => ∃ j : Nat, j ≤ k ∧ i = .int .i64 j ∧ t = .int .i64 (fal x j)) (fun _ i => k - (intOf i).toNat)
  case atStart => exact ⟨0, Nat.zero_le _, rfl, rfl⟩
  case round =>
    obtain ⟨j, hj, rfl, rfl⟩ := hrel
    by_cases hlt : j < k
    · have hm := falG_wrap x HX.out j (by omega)
      go_wp2_with fail
      go_round
      case rel => exact ⟨j + 1, by omega, by go_num, by first | rfl | rw [hm]⟩
      case measure => simp [intOf]; omega
    · obtain rfl : j = k := by omega
      go_wp2_with fail
      go_ret
      exact ⟨rfl, rfl⟩
set_option maxHeartbeats 800000 in
theorem factG_any (k : Nat) (w : World) (hk : k ≤ 12) : Calls Try.prog 122 #[.int .i64 k] w fun e w' => e = .returned (.int .i64 (fct k)) ∧ w' = w := by
  have HF := Lib.hid (fallingG_any k k w (by unfold Abs; omega) hk)
  go_enter Try.func122, Try.ntmps122
  go_wp2_with fail
  refine HF.out.mono ?_
  rintro e w' ⟨rfl, hww⟩
  subst hww
  go_wp2_with fail
  go_ret
  exact ⟨rfl, rfl⟩
set_option maxHeartbeats 800000 in
theorem choicesG_any (n k : Nat) (w : World) (hn : n ≤ 12) (hk : k ≤ 12) : Calls Try.prog 71 #[.int .i64 n, .int .i64 k] w fun e w' => e = .returned (.int .i64 (chs n k : Nat)) ∧ w' = w := by
  have HF := Lib.hid (fallingG_any n k w (by unfold Abs; omega) (by omega))
  have HG := Lib.hid (factG_any k w (by omega))
  obtain ⟨h1, h2⟩ := chsG_div n k hn hk
  have HM := Lib.hid h1
  have hb := fctG_bd k (by omega)
  have h0 : (fct k == 0) = false := by rw [beq_eq_false_iff_ne]; exact h2
  generalize fal n k = u at *
  generalize fct k = v at *
  clear h1
  go_enter Try.func71, Try.ntmps71
  go_wp2_with fail
  refine HF.out.mono ?_
  rintro e w' ⟨rfl, hww⟩
  subst hww
  go_wp2_with fail
  refine HG.out.mono ?_
  rintro e w' ⟨rfl, hww⟩
  subst hww
  go_wp2_with fail
  go_ret
  exact ⟨ret_int HM.out, rfl⟩

/-- 1 or -1. -/
def Unit1 (x : Int) : Prop := x = 1 ∨ x = -1
theorem unit_pow {x : Int} (h : Unit1 x) (k : Nat) : Unit1 (x ^ k) := by
  induction k with
  | zero => exact .inl (Int.pow_zero x)
  | succ k ih =>
    rw [Int.pow_succ]
    unfold Unit1 at *
    rcases ih with e | e <;> rcases h with h | h <;> rw [e, h] <;> simp
theorem unit_abs {x : Int} (h : Unit1 x) : Abs ((1 : Nat) : Int) x := by
  unfold Unit1 at h
  unfold Abs
  omega
set_option maxHeartbeats 800000 in
theorem powU_any (x e : Int) (w : World) (hx : Unit1 x) (he : e ≤ 12) : Calls Try.prog 104 #[.int .i64 x, .int .i64 e] w fun r w' => r = .returned (.int .i64 (x ^ e.toNat)) ∧ w' = w := by
  have HX := Lib.hid hx
  clear hx
  go_enter Try.func104, Try.ntmps104
  go_wp2_with fail
  go_loop [5, 6] (fun t i => ∃ j : Nat, j ≤ e.toNat ∧ i = .int .i64 j ∧ t = .int .i64 (x ^ j)) (fun _ i => e.toNat - (intOf i).toNat)
  case atStart => exact ⟨0, Nat.zero_le _, rfl, by simp⟩
  case round =>
    obtain ⟨j, hj, rfl, rfl⟩ := hrel
    by_cases hlt : (j : Int) < e
    · have h1 := unit_abs (unit_pow HX.out (j + 1))
      have hm : wrap64 (x ^ j * x) = x ^ (j + 1) := by rw [show x ^ j * x = x ^ (j + 1) from (Int.pow_succ x j).symm]; unfold Abs at h1; exact IntWalk.wrap64_in _ (by omega)
      clear h1
      go_wp2_with fail
      go_round
      case rel => exact ⟨j + 1, by omega, by go_num, by first | rfl | rw [hm]⟩
      case measure => simp [intOf]; omega
    · obtain rfl : j = e.toNat := by omega
      go_wp2_with fail
      go_ret
      exact ⟨rfl, rfl⟩

/-- One term of what shifting the variable does. -/
def shT (ys : List Int) (u : Int) (k j : Nat) : Int := ys.getD j 0 * (chs j k : Nat) * u ^ (j - k)
theorem shT_abs (ys : List Int) (u : Int) (hu : Unit1 u) (k j : Nat) (hk : k ≤ 12) (hj : j ≤ 12) (hy : Abs 1000000000000 (ys.getD j 0)) : Abs 924000000000000 (ys.getD j 0 * (chs j k : Nat)) ∧ Abs 924000000000000 (shT ys u k j) := by
  have h1 := chsG_le j k hj hk
  have h2 : Abs 924000000000000 (ys.getD j 0 * (chs j k : Nat)) := (Abs.mul (a := 1000000000000) (b := 924) hy (by unfold Abs; omega)).mono (by decide)
  exact ⟨h2, (Abs.mul (a := 924000000000000) (b := 1) h2 (unit_abs (unit_pow hu _))).mono (by decide)⟩
theorem shS_abs (ys : List Int) (u : Int) (hu : Unit1 u) (k n : Nat) (hk : k ≤ 12) (hn : n ≤ 13) (hy : ∀ j, j < n → Abs 1000000000000 (ys.getD j 0)) : Abs 12012000000000000 (sumT (shT ys u k) n) :=
  (sumT_abs _ 924000000000000 n (fun j hj => (shT_abs ys u hu k j hk (by omega) (hy j hj)).2)).mono (by omega)

end Go.Proofs.Ytakdiiccdkjjcab
