/- Factorials, choices, orders and hits of the specification. No condition but the sizes. -/
import Derived.Test.YtddmommamcgelaaHq
import Derived.Test.YtddmommamcgelaaHt
import Derived.Test.YtddmommamcgelaaMg
import Derived.Test.YtddmommamcgelaaAp
import Derived.Test.YtddmommamcgelaaPb
import Derived.Test.YtddmommamcgelaaRp
import Derived.Laws.OwnMore
namespace Go.Proofs.Ytddmommamcgelaa
open Go.RowKit Go.WideShapes

theorem chs_big (n : Nat) : ∀ k, n < k → chs n k = 0 := by
  induction n with
  | zero => intro k h; cases k with | zero => omega | succ k => rfl
  | succ n ih =>
    intro k h
    cases k with
    | zero => omega
    | succ k => rw [chs, ih k (by omega), ih (k + 1) (by omega)]
theorem chs_nil (n : Nat) : chs n 0 = 1 := by cases n <;> rfl
theorem chs_mul (n : Nat) : ∀ k, k ≤ n → (k + 1) * chs n (k + 1) = (n - k) * chs n k := by
  induction n with
  | zero => intro k h; rw [show k = 0 by omega]; rfl
  | succ n ih =>
    intro k h
    cases k with
    | zero =>
      have h0 := ih 0 (by omega)
      have e : chs (n + 1) (0 + 1) = chs n 0 + chs n (0 + 1) := rfl
      rw [chs_nil] at h0
      rw [e, chs_nil, chs_nil]
      omega
    | succ k =>
      rw [show n + 1 - (k + 1) = n - k by omega]
      have h1 := ih k (by omega)
      by_cases hk : k + 1 ≤ n
      · have h2 := ih (k + 1) hk
        rw [chs, chs, Nat.mul_add, Nat.mul_add, h2, ← h1]
        have e : n - k = (n - (k + 1)) + 1 := by omega
        rw [e, Nat.succ_mul, Nat.succ_mul (n - (k + 1))]
        omega
      · have hkn : k = n := by omega
        subst hkn
        rw [Nat.sub_self, Nat.zero_mul, chs_big (k + 1) (k + 1 + 1) (by omega), Nat.mul_zero]
theorem chs_go2 (n i : Nat) (hi : i ≤ n) : (chs n i * (n - i)) / (i + 1) = chs n (i + 1) := by
  have h := chs_mul n i hi
  rw [Nat.mul_comm (chs n i), ← h, Nat.mul_comm, Nat.mul_div_cancel _ (by omega)]
theorem chs_two (n : Nat) : ∀ k, chs n k ≤ 2 ^ n := by
  induction n with
  | zero => intro k; cases k <;> simp [chs]
  | succ n ih =>
    intro k
    cases k with
    | zero => rw [chs_nil]; exact Nat.two_pow_pos _
    | succ k => rw [chs, Nat.pow_succ]; have := ih k; have := ih (k + 1); omega

set_option maxHeartbeats 1600000 in
theorem hiChoose_any (n k : Nat) (w : World) (hn : n ≤ 20) (hk : k ≤ 20) : Calls Try.prog 49 #[.int .i64 n, .int .i64 k] w fun e w' => e = .returned (.int .i64 (chs n k : Nat)) ∧ w' = w := by
  have hk0 : ¬ (k : Int) < 0 := by omega
  by_cases hkn : n < k
  · have hkn' : (n : Int) < k := by omega
    rw [chs_big n k hkn]
    go_enter Try.func49, Try.ntmps49
    go_wp2_with fail
    go_ret
    exact ⟨rfl, rfl⟩
  · have hkn' : ¬ (n : Int) < k := by omega
    go_enter Try.func49, Try.ntmps49
    go_wp2_with fail
    go_loop [5, 6] (fun t i => ∃ j : Nat, j ≤ k ∧ i = .int .i64 j ∧ t = .int .i64 (chs n j : Nat)) (fun _ i => k - (intOf i).toNat)
    case atStart => exact ⟨0, Nat.zero_le _, rfl, by rw [chs_nil]; rfl⟩
    case round =>
      obtain ⟨j, hj, rfl, rfl⟩ := hrel
      by_cases hlt : j < k
      · have hb := chs_two n j
        have hp : 2 ^ n ≤ 2 ^ 20 := Nat.pow_le_pow_right (by omega) hn
        have hb2 : chs n j * (n - j) ≤ 1048576 * 20 := Nat.mul_le_mul (by omega) (by omega)
        have e1 : (n : Int) - j = ((n - j : Nat) : Int) := by omega
        have e2 : ((chs n j : Nat) : Int) * ((n : Int) - j) = ((chs n j * (n - j) : Nat) : Int) := by rw [e1]; push_cast; rfl
        have hgo : wrap64 ((wrap64 (((chs n j : Nat) : Int) * ((n : Int) - j))).tdiv ((j : Int) + 1)) = ((chs n (j + 1) : Nat) : Int) := by
          rw [e2, IntWalk.wrap64_in ((chs n j * (n - j) : Nat) : Int) (by omega), show ((j : Int) + 1) = ((j + 1 : Nat) : Int) by push_cast; rfl, ← Int.ofNat_tdiv, chs_go2 n j (by omega)]
          have := chs_two n (j + 1)
          exact IntWalk.wrap64_in _ (by omega)
        have hm1 : wrap64 (((chs n j : Nat) : Int) * ((n : Int) - j)) = ((chs n j * (n - j) : Nat) : Int) := by rw [e2]; exact IntWalk.wrap64_in _ (by omega)
        have HGO := Lib.hid hgo
        clear hgo hm1 hb hb2 e1 e2 hp
        go_wp2_with fail
        go_round
        case rel => exact ⟨j + 1, by omega, by go_num, by first | rfl | rw [← HGO.out] | (simp only [Value.int.injEq, true_and]; first | exact HGO.out | (rw [← HGO.out]))⟩
        case measure => simp [intOf]; omega
      · obtain rfl : j = k := by omega
        go_wp2_with fail
        go_ret
        exact ⟨rfl, rfl⟩
theorem fal_end (n : Nat) (h : 0 < n) : fal n (n - 1) = fct n := by
  obtain ⟨m, rfl⟩ : ∃ m, n = m + 1 := ⟨n - 1, by omega⟩
  unfold fct
  rw [Nat.add_sub_cancel, fal, show ((m + 1 : Nat) : Int) - m = 1 by omega, Int.mul_one]
set_option maxHeartbeats 1600000 in
theorem hiFactorial_any (n : Nat) (w : World) (hn : n ≤ 12) : Calls Try.prog 50 #[.int .i64 n] w fun e w' => e = .returned (.int .i64 (fct n)) ∧ w' = w := by
  by_cases h0 : n = 0
  · subst h0
    have h1 : ¬ (1 : Int) < ((0 : Nat) : Int) := by omega
    go_enter Try.func50, Try.ntmps50
    go_wp2_with fail
    go_loop [0, 3] (fun i t => i = .int .i64 ((0 : Nat) : Int) ∧ t = .int .i64 1) (fun _ _ => 0)
    case atStart => exact ⟨rfl, rfl⟩
    case round =>
      obtain ⟨rfl, rfl⟩ := hrel
      go_wp2_with fail
      go_ret
      exact ⟨rfl, rfl⟩
  · have HF := Lib.hid (fal_end n (by omega))
    go_enter Try.func50, Try.ntmps50
    go_wp2_with fail
    go_loop [0, 3] (fun i t => ∃ j : Nat, j + 1 ≤ n ∧ i = .int .i64 ((n - j : Nat) : Int) ∧ t = .int .i64 (fal n j)) (fun i _ => (intOf i).toNat)
    case atStart => exact ⟨0, by omega, rfl, rfl⟩
    case round =>
      obtain ⟨j, hj, rfl, rfl⟩ := hrel
      by_cases hlt : 1 < n - j
      · have hlt' : (1 : Int) < ((n - j : Nat) : Int) := by omega
        have hm := falG_wrap n (by unfold Abs; omega) j (by omega)
        rw [show (n : Int) - j = ((n - j : Nat) : Int) by omega] at hm
        have hs : wrap64 (((n - j : Nat) : Int) - 1) = ((n - (j + 1) : Nat) : Int) := by rw [show ((n - j : Nat) : Int) - 1 = ((n - (j + 1) : Nat) : Int) by omega]; exact IntWalk.wrap64_in _ (by omega)
        have hs2 : ((n - j : Nat) : Int) - 1 = ((n - (j + 1) : Nat) : Int) := by omega
        obtain ⟨q, hq⟩ : ∃ q, q = n - j := ⟨_, rfl⟩
        rw [← hq] at hlt' hm hs hs2 ⊢
        have HQ := Lib.hid hq
        have HM := Lib.hid hm
        have HS2 := Lib.hid hs2
        have hq12 : (q : Int) ≤ 12 := by omega
        clear hq hm hs hs2
        go_wp2_with fail
        go_round
        case rel => exact ⟨j + 1, by have := HQ.out; omega, by first | (rw [← HS2.out]) | (simp only [Value.int.injEq, true_and]; exact HS2.out), by first | rfl | rw [HM.out]⟩
        case measure => simp [intOf]; omega
      · obtain rfl : j = n - 1 := by omega
        have hlt' : ¬ (1 : Int) < ((n - (n - 1) : Nat) : Int) := by omega
        rw [HF.out]
        go_wp2_with fail
        go_ret
        exact ⟨rfl, rfl⟩
end Go.Proofs.Ytddmommamcgelaa
