/- Polynomials of rook numbers, in both texts. No condition but the sizes. -/
import Derived.Test.YthiddoaefhmpaaaRp
import Derived.Test.YthiddoaefhmpaaaSm
import Derived.Test.YthiddoaefhmpaaaKv
import Derived.Test.YthiddoaefhmpaaaZ
namespace Go.Proofs.Ythiddoaefhmpaaa
open Go.RowKit Go.WideShapes

def polI (ys : List Int) (x : Int) (k : Nat) : Int := ys.getD k 0 * x ^ k
def falI (ys : List Int) (x : Int) (n k : Nat) : Int := ys.getD k 0 * fal x (n - k)
theorem polI_abs (ys : List Int) (hy : ∀ k, 0 ≤ ys.getD k 0 ∧ ys.getD k 0 ≤ 117649) (x : Int) (hx : Abs 20 x) (k : Nat) (hk : k ≤ 7) : Abs 150590720000000 (polI ys x k) :=
  ((show Abs ((117649 : Nat) : Int) (ys.getD k 0) by have := hy k; unfold Abs; omega).mul (show Abs ((1280000000 : Nat) : Int) (x ^ k) from pow_abs x hx k hk)).mono (by decide)
theorem falI_abs (ys : List Int) (hy : ∀ k, 0 ≤ ys.getD k 0 ∧ ys.getD k 0 ≤ 117649) (x : Int) (hx : Abs 20 x) (n k : Nat) (hn : n ≤ 6) : Abs 150590720000000 (falI ys x n k) :=
  ((show Abs ((117649 : Nat) : Int) (ys.getD k 0) by have := hy k; unfold Abs; omega).mul (show Abs ((308915776 : Nat) : Int) (fal x (n - k)) from fal_bd x hx _ (by omega))).mono (by decide)
theorem sum_abs (f : Nat → Int) (n : Nat) (hn : n ≤ 8) (h : ∀ k, k < n → Abs 150590720000000 (f k)) : Abs 1204725760000000 (sumT f n) :=
  (sumT_abs f _ n h).mono (by omega)
theorem in_abs {x : Int} (h : inB (-20) x 20 = true) : Abs 20 x := by rw [inB_iff] at h; exact h

set_option maxHeartbeats 800000 in
theorem power_any (x : Int) (k : Nat) (w : World) (hx : Abs 20 x) (hk : k ≤ 6) : Calls Try.prog 42 #[.int .i64 x, .int .i64 k] w fun e w' => e = .returned (.int .i64 (x ^ k)) ∧ w' = w := by
  have HX := Lib.hid hx
  clear hx
  go_enter Try.func42, Try.ntmps42
  go_wp2_with fail
  go_loop [5, 6] (fun t i => ∃ j : Nat, j ≤ k ∧ i = .int .i64 j ∧ t = .int .i64 (x ^ j)) (fun _ i => k - (intOf i).toNat)
  case atStart => exact ⟨0, Nat.zero_le _, rfl, by simp⟩
  case round =>
    obtain ⟨j, hj, rfl, rfl⟩ := hrel
    by_cases hlt : j < k
    · have h1 := pow_abs x HX.out (j + 1) (by omega)
      have hm : wrap64 (x ^ j * x) = x ^ (j + 1) := by rw [show x ^ j * x = x ^ (j + 1) from (Int.pow_succ x j).symm]; unfold Abs at h1; exact IntWalk.wrap64_in _ (by omega)
      clear h1
      go_wp2_with fail
      go_round
      case rel => exact ⟨j + 1, by omega, by go_num, by first | rfl | rw [hm]⟩
      case measure => simp [intOf]; omega
    · obtain rfl : j = k := by omega
      go_wp2_with fail
      go_ret
      exact ⟨rfl, rfl⟩

theorem fal_wrap (x : Int) (hx : Abs 20 x) (j : Nat) (hj : j ≤ 5) : wrap64 (fal x j * (x - j)) = fal x (j + 1) := by
  have h1 := fal_bd x hx (j + 1) (by omega)
  rw [show fal x j * (x - j) = fal x (j + 1) from rfl]
  unfold Abs at h1
  exact IntWalk.wrap64_in _ (by omega)

set_option maxHeartbeats 800000 in
theorem falling_any (x : Int) (k : Nat) (w : World) (hx : Abs 20 x) (hk : k ≤ 6) : Calls Try.prog 21 #[.int .i64 x, .int .i64 k] w fun e w' => e = .returned (.int .i64 (fal x k)) ∧ w' = w := by
  have HX := Lib.hid hx
  unfold Abs at hx
  obtain ⟨x1, x2⟩ := hx
  go_enter Try.func21, Try.ntmps21
  go_wp2_with fail
  go_loop [5, 6] (fun t i => ∃ j : Nat, j ≤ k ∧ i = .int .i64 j ∧ t = .int .i64 (fal x j)) (fun _ i => k - (intOf i).toNat)
  case atStart => exact ⟨0, Nat.zero_le _, rfl, rfl⟩
  case round =>
    obtain ⟨j, hj, rfl, rfl⟩ := hrel
    by_cases hlt : j < k
    · have hm := fal_wrap x HX.out j (by omega)
      go_wp2_with fail
      go_round
      case rel => exact ⟨j + 1, by omega, by go_num, by first | rfl | rw [hm]⟩
      case measure => simp [intOf]; omega
    · obtain rfl : j = k := by omega
      go_wp2_with fail
      go_ret
      exact ⟨rfl, rfl⟩

set_option maxHeartbeats 800000 in
theorem roFalling_any (x : Int) (k : Nat) (w : World) (hx : Abs 20 x) (hk : k ≤ 6) : Calls Try.prog 26 #[.int .i64 x, .int .i64 k] w fun e w' => e = .returned (.int .i64 (fal x k)) ∧ w' = w := by
  have HX := Lib.hid hx
  unfold Abs at hx
  obtain ⟨x1, x2⟩ := hx
  go_enter Try.func26, Try.ntmps26
  go_wp2_with fail
  go_loop [5, 6] (fun t i => ∃ j : Nat, j ≤ k ∧ i = .int .i64 j ∧ t = .int .i64 (fal x j)) (fun _ i => k - (intOf i).toNat)
  case atStart => exact ⟨0, Nat.zero_le _, rfl, rfl⟩
  case round =>
    obtain ⟨j, hj, rfl, rfl⟩ := hrel
    by_cases hlt : j < k
    · have hm := fal_wrap x HX.out j (by omega)
      go_wp2_with fail
      go_round
      case rel => exact ⟨j + 1, by omega, by go_num, by first | rfl | rw [hm]⟩
      case measure => simp [intOf]; omega
    · obtain rfl : j = k := by omega
      go_wp2_with fail
      go_ret
      exact ⟨rfl, rfl⟩

theorem isPoint_any (x : Int) (w : World) : Calls Try.prog 18 #[.int .i64 x] w fun e w' => e = .returned (.bool (inB (-20) x 20)) ∧ w = w' := by
  by_cases h1 : -20 ≤ x
  · by_cases h2 : x ≤ 20
    · have HI := Lib.hid (inB_yes h1 h2)
      go_enter Try.func18, Try.ntmps18
      go_wp2
      all_goals go_ret
      all_goals exact ⟨ret_bool HI.out.symm, rfl⟩
    · have HI := Lib.hid (inB_no (lo := -20) (n := x) (hi := 20) (by omega))
      have h3 : 20 < x := by omega
      go_enter Try.func18, Try.ntmps18
      go_wp2
      all_goals go_ret
      all_goals exact ⟨ret_bool (by rw [HI.out]), rfl⟩
  · have HI := Lib.hid (inB_no (lo := -20) (n := x) (hi := 20) (by omega))
    have h3 : x < -20 := by omega
    go_enter Try.func18, Try.ntmps18
    go_wp2
    all_goals go_ret
    all_goals exact ⟨ret_bool (by rw [HI.out]), rfl⟩

/-- What a call answers that asks a polynomial. -/
def polyB (r c : Int) (xs : List Int) (x : Int) : R1 := if goodB r c xs && inB (-20) x 20 then ⟨sumT (polI (numL r.toNat c.toNat (bt xs)) x) (min r.toNat c.toNat + 1), true⟩ else ⟨0, false⟩

set_option maxRecDepth 100000 in
set_option maxHeartbeats 1600000 in
theorem specPoly_any (r c : Int) (xs : List Int) (x : Int) (w : World) (hx : xs.length ≤ 1048576) (lo : Nat) (s : Value) (hO : Own w lo s xs) :
    Calls Try.prog 10 #[.agg #[.int .i64 r, .int .i64 c, s], .int .i64 x] w fun e w' => AnsIO (polyB r c xs x) w e w' := by
  have L0 := (Law.start w).box (.int .i64 r) (.int .i64 c) s 26
  have hO0 := hO.kept L0.below
  obtain ⟨a, cap, rfl, hr⟩ := hO.reads
  have hr0 := L0.reads hr
  clear hO
  have HI := Lib.hid (l1In_any x (-20) 20)
  cases hg : goodB r c xs
  · rw [show polyB r c xs x = ⟨0, false⟩ by simp [polyB, hg]]
    go_enter Try.func10, Try.ntmps10
    go_wp2_with fail
    refine (at_boolB (boGood_any r c a cap xs _ hx hr0) hg).mono ?_
    rintro e w1 ⟨rfl, hb⟩
    have HB := Lib.hid (L0.kept hb).below
    clear L0 hb hg hr0 hO0
    go_wp2_with fail
    go_ret2
    exact ⟨rfl, HB.out⟩
  · have HC := Lib.hid (at_boolB (boGood_any r c a cap xs _ hx hr0) hg)
    cases hi : inB (-20) x 20
    · rw [show polyB r c xs x = ⟨0, false⟩ by simp [polyB, hi]]
      rw [hi] at HI
      clear hg hr0 hi hO0
      go_enter Try.func10, Try.ntmps10
      go_wp2_with fail
      refine HC.out.mono ?_
      rintro e w1 ⟨rfl, hb⟩
      have HB := Lib.hid (L0.kept hb).below
      clear L0 hb HC
      go_wp2_with fail
      refine (HI.out _).mono ?_
      rintro e w' ⟨rfl, rfl⟩
      go_wp2_with fail
      go_ret2
      exact ⟨rfl, HB.out⟩
    · have hab := in_abs hi
      rw [hi] at HI
      obtain ⟨g1, g2, g3, _⟩ := good_facts hg
      obtain ⟨n, rfl⟩ := Int.eq_ofNat_of_zero_le (show 0 ≤ r by omega)
      obtain ⟨m, rfl⟩ := Int.eq_ofNat_of_zero_le (show 0 ≤ c by omega)
      rw [show polyB n m xs x = ⟨sumT (polI (numL n m (bt xs)) x) (min n m + 1), true⟩ by simp [polyB, hg, hi]]
      have HN := Lib.hid (fun (W : World) (hO : Own W lo (.slice a xs.length cap) xs) => roNumbers_any n m xs W hx (by omega) (by omega) (by omega) (good_cell hg) lo _ hO)
      have HK := Lib.hid (numL_len n m (bt xs))
      have hbd := numL_bd n m (by omega) (by omega) (bt xs)
      have hq6 : min n m ≤ 6 := by omega
      clear hg hr0 hi
      generalize numL n m (bt xs) = ys at *
      generalize min n m = q at *
      have HA := Lib.hid hab
      have HY := Lib.hid hbd
      clear hab hbd
      go_enter Try.func10, Try.ntmps10
      go_wp2_with fail
      refine HC.out.mono ?_
      rintro e w1 ⟨rfl, hb⟩
      have L1 := L0.kept hb
      have hO1 := hO0.kept hb
      have ⟨_, k0, k1, k2, _⟩ := L1.ownBox
      have HL := Lib.hid L1
      clear L0 L1 hb HC hO0
      go_wp2_with fail
      refine (HI.out _).mono ?_
      rintro e w' ⟨rfl, rfl⟩
      go_wp2_with fail
      refine (HN.out _ hO1).mono ?_
      rintro e w2 ⟨g, p, rfl, hO, hb⟩
      have HO := Lib.hid hO
      have HB := Lib.hid (HL.out.kept hb).below
      clear HL hO hO1 hb k0 k1 k2
      go_wp2_with fail
      go_loop [6, 7, 21] (fun t u i => ∃ k : Nat, k ≤ q + 1 ∧ i = .int .i64 k ∧ u = .int .i64 (x ^ k) ∧ t = .int .i64 (sumT (polI ys x) k)) (fun _ _ i => q + 1 - (intOf i).toNat)
      case atStart => exact ⟨0, Nat.zero_le _, rfl, by simp, rfl⟩
      case round =>
        obtain ⟨k, hk, rfl, rfl, rfl⟩ := hrel
        by_cases hlt : k < q + 1
        · have hck := Own.cell (by rw [HK.out]; exact HO.out) k (by rw [HK.out]; exact hlt)
          have h1 := polI_abs ys HY.out x HA.out k (by omega)
          have h2 := sum_abs (polI ys x) (k + 1) (by omega) (fun j hj => polI_abs ys HY.out x HA.out j (by omega))
          have h3 := pow_abs x HA.out (k + 1) (by omega)
          rw [sumT] at h2
          obtain ⟨y, hyy⟩ : ∃ y, y = ys.getD k 0 := ⟨_, rfl⟩
          rw [← hyy] at hck
          have hm : wrap64 (y * x ^ k) = polI ys x k := by rw [hyy, show ys.getD k 0 * x ^ k = polI ys x k from rfl]; unfold Abs at h1; exact IntWalk.wrap64_in _ (by omega)
          have hs : wrap64 (sumT (polI ys x) k + polI ys x k) = sumT (polI ys x) k + polI ys x k := by unfold Abs at h2; exact IntWalk.wrap64_in _ (by omega)
          have hp : wrap64 (x ^ k * x) = x ^ (k + 1) := by rw [show x ^ k * x = x ^ (k + 1) from (Int.pow_succ x k).symm]; unfold Abs at h3; exact IntWalk.wrap64_in _ (by omega)
          have hkq : (k : Int) < (q : Int) + 1 := by omega
          have HF := Lib.hid (And.intro hm (And.intro hs hp))
          clear h1 h2 h3 hm hs hp hyy
          go_wp2_with fail
          go_round
          case rel => exact ⟨k + 1, by omega, by go_num, by rw [HF.out.2.2], by rw [HF.out.1, HF.out.2.1]; rfl⟩
          case measure => simp [intOf]; omega
        · obtain rfl : k = q + 1 := by omega
          go_wp2_with fail
          go_ret2
          exact ⟨rfl, HB.out⟩

set_option maxRecDepth 100000 in
set_option maxHeartbeats 1600000 in
theorem implPoly_any (r c : Int) (xs : List Int) (x : Int) (w : World) (hx : xs.length ≤ 1048576) (lo : Nat) (s : Value) (hO : Own w lo s xs) :
    Calls Try.prog 9 #[.agg #[.int .i64 r, .int .i64 c, s], .int .i64 x] w fun e w' => AnsIO (polyB r c xs x) w e w' := by
  have L0 := (Law.start w).box (.int .i64 r) (.int .i64 c) s 26
  obtain ⟨a, cap, rfl, hr⟩ := hO.reads
  have hr0 := L0.reads hr
  clear hO
  have HI := Lib.hid (isPoint_any x)
  cases hg : goodB r c xs
  · rw [show polyB r c xs x = ⟨0, false⟩ by simp [polyB, hg]]
    go_enter Try.func9, Try.ntmps9
    go_wp2_with fail
    refine (gridOf_no r c a cap xs _ hx hr0 hg).mono ?_
    rintro e w1 ⟨rfl, hb⟩
    have HB := Lib.hid (((L0.kept hb).kept (below_new (.cells #[.int .i64 0, .int .i64 0, .int .i64 0, .int .i64 0, .int .i64 0, .int .i64 0, .int .i64 0, .int .i64 0] 43))).below)
    clear L0 hb hg hr0
    go_wp2_with fail
    go_ret2
    exact ⟨rfl, HB.out⟩
  · obtain ⟨M, hM, hc⟩ := gridOf_good r c a cap xs _ hx hr0 hg
    have HC := Lib.hid hc; clear hc
    cases hi : inB (-20) x 20
    · rw [show polyB r c xs x = ⟨0, false⟩ by simp [polyB, hi]]
      rw [hi] at HI
      clear hg hr0 hi hM
      go_enter Try.func9, Try.ntmps9
      go_wp2_with fail
      refine HC.out.mono ?_
      rintro e w1 ⟨rfl, hb⟩
      have L1 := (L0.kept hb).has (gl r c M) 43
      rw [show w1.alloc (.cells (gl r c M).toArray 43) = w1.alloc (.cells #[.int .i64 r, .int .i64 c, .int .i64 (M 0), .int .i64 (M 1), .int .i64 (M 2), .int .i64 (M 3), .int .i64 (M 4), .int .i64 (M 5)] 43) from rfl] at L1
      have HL := Lib.hid L1
      clear L0 hb L1 HC
      go_upto_region 2 with fail
      generalize w1.alloc (.cells #[.int .i64 r, .int .i64 c, .int .i64 (M 0), .int .i64 (M 1), .int .i64 (M 2), .int .i64 (M 3), .int .i64 (M 4), .int .i64 (M 5)] 43) = w5 at *
      obtain ⟨e0, e1, e2, e3, e4, e5, e6, e7, _⟩ := HL.out.ownHas.eight
      have HB := Lib.hid HL.out.below
      clear HL
      go_wp2_with fail
      refine (HI.out _).mono ?_
      rintro e w' ⟨rfl, rfl⟩
      go_wp2_with fail
      go_ret2
      exact ⟨rfl, HB.out⟩
    · have hab := in_abs hi
      rw [hi] at HI
      have hgc := good_cell hg
      obtain ⟨g1, g2, g3, _⟩ := good_facts hg
      obtain ⟨n, rfl⟩ := Int.eq_ofNat_of_zero_le (show 0 ≤ r by omega)
      obtain ⟨m, rfl⟩ := Int.eq_ofNat_of_zero_le (show 0 ≤ c by omega)
      rw [show polyB n m xs x = ⟨sumT (polI (numL n m (bt xs)) x) (min n m + 1), true⟩ by simp [polyB, hg, hi]]
      simp only [← hM] at hgc
      have hn := fun W => rookNumbers_any n m M W (by omega) (by omega) (fun k _ => hgc k)
      have hd : lstL (min n m + 1) (wR m (bM M) n 0 0) = numL n m (bt xs) := by
        rw [show bM M = bt xs by funext a b; simp only [bM, bt, hM]]
        rfl
      rw [hd] at hn
      have HN := Lib.hid hn
      have HK := Lib.hid (numL_len n m (bt xs))
      have hbd := numL_bd n m (by omega) (by omega) (bt xs)
      have hq6 : min n m ≤ 6 := by omega
      clear hg hr0 hi hgc hn hd hM
      generalize numL n m (bt xs) = ys at *
      generalize min n m = q at *
      have HA := Lib.hid hab
      have HY := Lib.hid hbd
      clear hab hbd
      go_enter Try.func9, Try.ntmps9
      go_wp2_with fail
      refine HC.out.mono ?_
      rintro e w1 ⟨rfl, hb⟩
      have L1 := (L0.kept hb).has (gl n m M) 43
      rw [show w1.alloc (.cells (gl n m M).toArray 43) = w1.alloc (.cells #[.int .i64 n, .int .i64 m, .int .i64 (M 0), .int .i64 (M 1), .int .i64 (M 2), .int .i64 (M 3), .int .i64 (M 4), .int .i64 (M 5)] 43) from rfl] at L1
      have HL := Lib.hid L1
      clear L0 hb L1 HC
      go_upto_region 2 with fail
      generalize w1.alloc (.cells #[.int .i64 n, .int .i64 m, .int .i64 (M 0), .int .i64 (M 1), .int .i64 (M 2), .int .i64 (M 3), .int .i64 (M 4), .int .i64 (M 5)] 43) = w5 at *
      obtain ⟨e0, e1, e2, e3, e4, e5, e6, e7, _⟩ := HL.out.ownHas.eight
      go_wp2_with fail
      refine (HI.out _).mono ?_
      rintro e w' ⟨rfl, rfl⟩
      go_wp2_with fail
      refine (HN.out _).mono ?_
      rintro e w2 ⟨g, p, rfl, hO, hb⟩
      have HS := Lib.hid (fun (W : World) (hr : Reads W (some ⟨g, 0, none⟩) ys.length ys) => valueAt_any ys x (some ⟨g, 0, none⟩) p W (by rw [HK.out]; omega) hr (fun k hk W => power_any x k W HA.out (by rw [HK.out] at hk; omega))
        (fun j hj => by
          have h2 := polI_abs ys HY.out x HA.out j (by rw [HK.out] at hj; omega)
          unfold Abs at h2
          exact IntWalk.i64_in _ (by rw [show trmV ys x j = polI ys x j from rfl]; omega))
        (fun j hj => by
          have h2 := sum_abs (polI ys x) (j + 1) (by rw [HK.out] at hj; omega) (fun i hi => polI_abs ys HY.out x HA.out i (by rw [HK.out] at hj; omega))
          rw [sumT] at h2
          unfold Abs at h2
          exact IntWalk.i64_in _ (by rw [show trmV ys x = polI ys x from rfl]; omega)))
      rw [show trmV ys x = polI ys x from rfl, HK.out] at HS
      have L2 := HL.out.own hb hO
      obtain ⟨aa, pp, hv, hrd⟩ := L2.ownInts.reads
      rw [HK.out] at hv hrd
      injection hv with hv1 hv2 hv3
      subst hv1
      subst hv3
      have HR := Lib.hid hrd
      have HL2 := Lib.hid L2
      clear L2 HL hO hb HN e0 e1 e2 e3 e4 e5 e6 e7 hrd
      go_wp2_with fail
      refine (HS.out _ HR.out).mono ?_
      rintro e w3 ⟨rfl, hb⟩
      have HB3 := Lib.hid (HL2.out.kept hb).below
      clear hb HL2 HS
      go_wp2_with fail
      go_ret2
      exact ⟨rfl, HB3.out⟩
end Go.Proofs.Ythiddoaefhmpaaa
