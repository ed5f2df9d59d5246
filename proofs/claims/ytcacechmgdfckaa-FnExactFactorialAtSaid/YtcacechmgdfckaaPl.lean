/- Polynomials of rook numbers, in both texts. No condition but the sizes. -/
import Derived.Test.YtcacechmgdfckaaRp
import Derived.Test.YtcacechmgdfckaaSm
import Derived.Test.YtcacechmgdfckaaZ
namespace Go.Proofs.Ytcacechmgdfckaa
open Go.RowKit Go.WideShapes

def polI (ys : List Int) (x : Int) (k : Nat) : Int := ys.getD k 0 * x ^ k
def falI (ys : List Int) (x : Int) (n k : Nat) : Int := ys.getD k 0 * fal x (n - k)
theorem polI_abs (ys : List Int) (hy : ∀ k, 0 ≤ ys.getD k 0 ∧ ys.getD k 0 ≤ 117649) (x : Int) (hx : Abs 20 x) (k : Nat) (hk : k ≤ 7) : Abs 150590720000000 (polI ys x k) :=
  ((show Abs ((117649 : Nat) : Int) (ys.getD k 0) by have := hy k; unfold Abs; omega).mul (show Abs ((1280000000 : Nat) : Int) (x ^ k) from pow_abs x hx k hk)).mono (by decide)
theorem falI_abs (ys : List Int) (hy : ∀ k, 0 ≤ ys.getD k 0 ∧ ys.getD k 0 ≤ 117649) (x : Int) (hx : Abs 20 x) (n k : Nat) (hn : n ≤ 6) : Abs 150590720000000 (falI ys x n k) :=
  ((show Abs ((117649 : Nat) : Int) (ys.getD k 0) by have := hy k; unfold Abs; omega).mul (show Abs ((308915776 : Nat) : Int) (fal x (n - k)) from fal_bd x hx _ (by omega))).mono (by decide)
theorem sum_abs (f : Nat → Int) (n : Nat) (hn : n ≤ 8) (h : ∀ k, k < n → Abs 150590720000000 (f k)) : Abs 1204725760000000 (sumT f n) :=
  (sumT_abs f _ n h).mono (by omega)
theorem in_abs {x : Int} (h : inB (-20) x 20 = true) : Abs 20 x := by rw [inB_iff] at h; exact h


theorem fal_wrap (x : Int) (hx : Abs 20 x) (j : Nat) (hj : j ≤ 5) : wrap64 (fal x j * (x - j)) = fal x (j + 1) := by
  have h1 := fal_bd x hx (j + 1) (by omega)
  rw [show fal x j * (x - j) = fal x (j + 1) from rfl]
  unfold Abs at h1
  exact IntWalk.wrap64_in _ (by omega)

set_option maxHeartbeats 800000 in
theorem falling_any (x : Int) (k : Nat) (w : World) (hx : Abs 20 x) (hk : k ≤ 6) : Calls Try.prog 41 #[.int .i64 x, .int .i64 k] w fun e w' => e = .returned (.int .i64 (fal x k)) ∧ w' = w := by
  have HX := Lib.hid hx
  unfold Abs at hx
  obtain ⟨x1, x2⟩ := hx
  go_enter Try.func41, Try.ntmps41
  go_wp2_with fail
  go_loop [5, 6] (fun t i => ∃ j : Nat, j ≤ k ∧ i = .int .i64 j ∧ t = .int .i64 (fal x j)) (fun _ i => k - (intOf i).toNat)
  case atStart => exact ⟨0, Nat.zero_le _, rfl, rfl⟩
  case round =>
    obtain ⟨j, hj, rfl, rfl⟩ := hrel
    by_cases hlt : j < k
    · have hm := fal_wrap x HX.out j (by omega)
      go_wp2_with fail
      go_round
      case rel => exact ⟨j + 1, by omega, by go_num, by first | rfl | rw [hm]⟩
      case measure => simp [intOf]; omega
    · obtain rfl : j = k := by omega
      go_wp2_with fail
      go_ret
      exact ⟨rfl, rfl⟩

set_option maxHeartbeats 800000 in
theorem roFalling_any (x : Int) (k : Nat) (w : World) (hx : Abs 20 x) (hk : k ≤ 6) : Calls Try.prog 37 #[.int .i64 x, .int .i64 k] w fun e w' => e = .returned (.int .i64 (fal x k)) ∧ w' = w := by
  have HX := Lib.hid hx
  unfold Abs at hx
  obtain ⟨x1, x2⟩ := hx
  go_enter Try.func37, Try.ntmps37
  go_wp2_with fail
  go_loop [5, 6] (fun t i => ∃ j : Nat, j ≤ k ∧ i = .int .i64 j ∧ t = .int .i64 (fal x j)) (fun _ i => k - (intOf i).toNat)
  case atStart => exact ⟨0, Nat.zero_le _, rfl, rfl⟩
  case round =>
    obtain ⟨j, hj, rfl, rfl⟩ := hrel
    by_cases hlt : j < k
    · have hm := fal_wrap x HX.out j (by omega)
      go_wp2_with fail
      go_round
      case rel => exact ⟨j + 1, by omega, by go_num, by first | rfl | rw [hm]⟩
      case measure => simp [intOf]; omega
    · obtain rfl : j = k := by omega
      go_wp2_with fail
      go_ret
      exact ⟨rfl, rfl⟩

theorem isPoint_any (x : Int) (w : World) : Calls Try.prog 38 #[.int .i64 x] w fun e w' => e = .returned (.bool (inB (-20) x 20)) ∧ w = w' := by
  by_cases h1 : -20 ≤ x
  · by_cases h2 : x ≤ 20
    · have HI := Lib.hid (inB_yes h1 h2)
      go_enter Try.func38, Try.ntmps38
      go_wp2
      all_goals go_ret
      all_goals exact ⟨ret_bool HI.out.symm, rfl⟩
    · have HI := Lib.hid (inB_no (lo := -20) (n := x) (hi := 20) (by omega))
      have h3 : 20 < x := by omega
      go_enter Try.func38, Try.ntmps38
      go_wp2
      all_goals go_ret
      all_goals exact ⟨ret_bool (by rw [HI.out]), rfl⟩
  · have HI := Lib.hid (inB_no (lo := -20) (n := x) (hi := 20) (by omega))
    have h3 : x < -20 := by omega
    go_enter Try.func38, Try.ntmps38
    go_wp2
    all_goals go_ret
    all_goals exact ⟨ret_bool (by rw [HI.out]), rfl⟩

/-- What a call answers that asks a polynomial. -/
def polyB (r c : Int) (xs : List Int) (x : Int) : R1 := if goodB r c xs && inB (-20) x 20 then ⟨sumT (polI (numL r.toNat c.toNat (bt xs)) x) (min r.toNat c.toNat + 1), true⟩ else ⟨0, false⟩



end Go.Proofs.Ytcacechmgdfckaa
