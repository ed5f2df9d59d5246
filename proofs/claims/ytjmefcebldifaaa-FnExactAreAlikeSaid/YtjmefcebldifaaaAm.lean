/- Boards that are alike, in the program. No condition but the sizes. -/
import Derived.Test.YtjmefcebldifaaaAl
namespace Go.Proofs.Ytjmefcebldifaaa
open Go.RowKit Go.WideShapes

set_option maxRecDepth 100000 in
set_option maxHeartbeats 12800000 in
theorem implAlike_any (r c : Int) (xs : List Int) (r2 c2 : Int) (ys : List Int) (w : World) (hx : xs.length ≤ 1048576) (hy : ys.length ≤ 1048576) (lo : Nat) (s : Value) (lo2 : Nat) (s2 : Value) (hO : Own w lo s xs) (hO2 : Own w lo2 s2 ys) :
    Calls Try.prog 36 #[.agg #[.int .i64 r, .int .i64 c, s], .agg #[.int .i64 r2, .int .i64 c2, s2]] w fun e w' => AnsOO (alikeB r c xs r2 c2 ys) w e w' := by
  have L0 := ((Law.start w).box (.int .i64 r) (.int .i64 c) s 28).box (.int .i64 r2) (.int .i64 c2) s2 28
  simp only [World.size_alloc] at L0
  obtain ⟨a, cap, rfl, hr⟩ := hO.reads
  obtain ⟨a2, cap2, rfl, hr2⟩ := hO2.reads
  have hr0 := L0.reads hr
  have hr20 := L0.reads hr2
  clear hO hO2
  cases hgg : goodB r c xs && goodB r2 c2 ys
  · rw [show alikeB r c xs r2 c2 ys = ⟨false, false⟩ by simp [alikeB, hgg]]
    have hc := gridsOf_any r c r2 c2 a a2 cap cap2 xs ys _ _ _ hx hy hr0 hr20 rfl rfl
    rw [hgg] at hc
    obtain ⟨R1, C1, M1, R2, C2, M2, HC⟩ : ∃ (R1 C1 : Int) (M1 : Nat → Int) (R2 C2 : Int) (M2 : Nat → Int), Hid (Calls Try.prog 71 #[.agg #[.int .i64 r, .int .i64 c, .slice a xs.length cap], .agg #[.int .i64 r2, .int .i64 c2, .slice a2 ys.length cap2]] ((w.alloc (.cells #[.int .i64 r, .int .i64 c, .slice a xs.length cap] 28)).alloc (.cells #[.int .i64 r2, .int .i64 c2, .slice a2 ys.length cap2] 28))
      fun e w' => e = .returned (.tuple #[gv R1 C1 M1, gv R2 C2 M2, .bool false]) ∧ Below ((w.alloc (.cells #[.int .i64 r, .int .i64 c, .slice a xs.length cap] 28)).alloc (.cells #[.int .i64 r2, .int .i64 c2, .slice a2 ys.length cap2] 28)).heap.size ((w.alloc (.cells #[.int .i64 r, .int .i64 c, .slice a xs.length cap] 28)).alloc (.cells #[.int .i64 r2, .int .i64 c2, .slice a2 ys.length cap2] 28)) w') := ⟨_, _, _, _, _, _, Lib.hid hc⟩
    clear hc hgg hr0 hr20
    go_enter Try.func36, Try.ntmps36
    go_wp2_with fail
    refine HC.out.mono ?_
    rintro e w1 ⟨rfl, hb⟩
    have HB := Lib.hid ((((L0.kept hb).has (gl R1 C1 M1) 53).has (gl R2 C2 M2) 53)).below
    clear L0 hb HC
    go_wp2_with fail
    go_ret2
    exact ⟨rfl, HB.out⟩
  · rw [Bool.and_eq_true] at hgg
    obtain ⟨hg, hg2⟩ := hgg
    obtain ⟨g1, g2, g3, _⟩ := good_facts hg
    obtain ⟨g4, g5, g6, _⟩ := good_facts hg2
    obtain ⟨n, rfl⟩ := Int.eq_ofNat_of_zero_le (show 0 ≤ r by omega)
    obtain ⟨m, rfl⟩ := Int.eq_ofNat_of_zero_le (show 0 ≤ c by omega)
    obtain ⟨n2, rfl⟩ := Int.eq_ofNat_of_zero_le (show 0 ≤ r2 by omega)
    obtain ⟨m2, rfl⟩ := Int.eq_ofNat_of_zero_le (show 0 ≤ c2 by omega)
    rw [show alikeB n m xs n2 m2 ys = ⟨decide (shL (numL n m (bt xs)) (min n m + 1) = shL (numL n2 m2 (bt ys)) (min n2 m2 + 1)), true⟩ by simp [alikeB, hg, hg2]]
    have hc := gridsOf_any n m n2 m2 a a2 cap cap2 xs ys _ _ _ hx hy hr0 hr20 hg hg2
    obtain ⟨M1, M2, hM1, hM2, HC⟩ : ∃ (M1 M2 : Nat → Int), (∀ k, M1 k = xs.getD k 0) ∧ (∀ k, M2 k = ys.getD k 0) ∧ Hid (Calls Try.prog 71 #[.agg #[.int .i64 n, .int .i64 m, .slice a xs.length cap], .agg #[.int .i64 n2, .int .i64 m2, .slice a2 ys.length cap2]] ((w.alloc (.cells #[.int .i64 n, .int .i64 m, .slice a xs.length cap] 28)).alloc (.cells #[.int .i64 n2, .int .i64 m2, .slice a2 ys.length cap2] 28))
      fun e w' => e = .returned (.tuple #[gv n m M1, gv n2 m2 M2, .bool true]) ∧ Below ((w.alloc (.cells #[.int .i64 n, .int .i64 m, .slice a xs.length cap] 28)).alloc (.cells #[.int .i64 n2, .int .i64 m2, .slice a2 ys.length cap2] 28)).heap.size ((w.alloc (.cells #[.int .i64 n, .int .i64 m, .slice a xs.length cap] 28)).alloc (.cells #[.int .i64 n2, .int .i64 m2, .slice a2 ys.length cap2] 28)) w') := ⟨gm true xs, gm true ys, fun _ => rfl, fun _ => rfl, Lib.hid hc⟩
    have hgc := good_cell hg
    have hgc2 := good_cell hg2
    simp only [← hM1] at hgc
    simp only [← hM2] at hgc2
    have hn1 := fun W => rookNumbers_any n m M1 W (by omega) (by omega) (fun k _ => hgc k)
    have hd1 : lstL (min n m + 1) (wR m (bM M1) n 0 0) = numL n m (bt xs) := by
      rw [show bM M1 = bt xs by funext a b; simp only [bM, bt, hM1]]
      rfl
    rw [hd1] at hn1
    have hn2 := fun W => rookNumbers_any n2 m2 M2 W (by omega) (by omega) (fun k _ => hgc2 k)
    have hd2 : lstL (min n2 m2 + 1) (wR m2 (bM M2) n2 0 0) = numL n2 m2 (bt ys) := by
      rw [show bM M2 = bt ys by funext a b; simp only [bM, bt, hM2]]
      rfl
    rw [hd2] at hn2
    have HN1 := Lib.hid hn1
    have HN2 := Lib.hid hn2
    have HK1 := Lib.hid (numL_len n m (bt xs))
    have HK2 := Lib.hid (numL_len n2 m2 (bt ys))
    have hq1 : min n m ≤ 6 := by omega
    have hq2 : min n2 m2 ≤ 6 := by omega
    clear hg hg2 hr0 hr20 g1 g2 g3 g4 g5 g6 hc hM1 hM2 hgc hgc2 hn1 hn2 hd1 hd2
    generalize numL n m (bt xs) = us at *
    generalize numL n2 m2 (bt ys) = vs at *
    generalize min n m = q1 at *
    generalize min n2 m2 = q2 at *
    go_enter Try.func36, Try.ntmps36
    go_wp2_with fail
    refine HC.out.mono ?_
    rintro e w1 ⟨rfl, hb⟩
    have L1 := ((L0.kept hb).has (gl n m M1) 53).has (gl n2 m2 M2) 53
    rw [show (w1.alloc (.cells (gl n m M1).toArray 53)).alloc (.cells (gl n2 m2 M2).toArray 53) = (w1.alloc (.cells #[.int .i64 n, .int .i64 m, .int .i64 (M1 0), .int .i64 (M1 1), .int .i64 (M1 2), .int .i64 (M1 3), .int .i64 (M1 4), .int .i64 (M1 5)] 53)).alloc (.cells #[.int .i64 n2, .int .i64 m2, .int .i64 (M2 0), .int .i64 (M2 1), .int .i64 (M2 2), .int .i64 (M2 3), .int .i64 (M2 4), .int .i64 (M2 5)] 53) from rfl] at L1
    simp only [World.size_alloc] at L1
    have HL0 := Lib.hid L1
    clear L0 hb L1 HC
    go_upto_region 2 with fail
    generalize (w1.alloc (.cells #[.int .i64 n, .int .i64 m, .int .i64 (M1 0), .int .i64 (M1 1), .int .i64 (M1 2), .int .i64 (M1 3), .int .i64 (M1 4), .int .i64 (M1 5)] 53)).alloc (.cells #[.int .i64 n2, .int .i64 m2, .int .i64 (M2 0), .int .i64 (M2 1), .int .i64 (M2 2), .int .i64 (M2 3), .int .i64 (M2 4), .int .i64 (M2 5)] 53) = w5 at *
    obtain ⟨b1, hb1⟩ : ∃ b1, b1 = w1.heap.size := ⟨_, rfl⟩
    rw [← hb1] at HL0 ⊢
    clear hb1
    have L2 := HL0.out.drew
    obtain ⟨j0, j1, j2, j3, j4, j5, j6, j7, _⟩ := L2.ownHas.eight
    obtain ⟨i0, i1, i2, i3, i4, i5, i6, i7, _⟩ := L2.tl.ownHas.eight
    have HL := Lib.hid L2
    clear L2 HL0
    go_wp2_with fail
    go_region_with ((first
      | (go_at_call 51; ((with_reducible refine (HN1.out _).mono ?_); rintro e wA ⟨gA, pA, rfl, hOA, hbA⟩; replace HL := Lib.hid (HL.out.own hbA hOA); have hcA := hOA.capLe; (try (replace j0 := cell_later hbA j0)); (try (replace j1 := cell_later hbA j1)); (try (replace j2 := cell_later hbA j2)); (try (replace j3 := cell_later hbA j3)); (try (replace j4 := cell_later hbA j4)); (try (replace j5 := cell_later hbA j5)); (try (replace j6 := cell_later hbA j6)); (try (replace j7 := cell_later hbA j7)); clear hOA hbA))
      | (go_at_call 51; ((with_reducible refine (HN2.out _).mono ?_); rintro e wB ⟨gB, pB, rfl, hOB, hbB⟩; replace HL := Lib.hid (HL.out.own hbB hOB); have hcB := hOB.capLe; (try (replace i0 := cell_later hbB i0)); (try (replace i1 := cell_later hbB i1)); (try (replace i2 := cell_later hbB i2)); (try (replace i3 := cell_later hbB i3)); (try (replace i4 := cell_later hbB i4)); (try (replace i5 := cell_later hbB i5)); (try (replace i6 := cell_later hbB i6)); (try (replace i7 := cell_later hbB i7)); clear hOB hbB))
      | (go_at_call 53; ((with_reducible refine (withoutLast_any gA (q1 + 1) pA us _ (by omega) hcA HK1.out 0 (HL.out.ownOf (by simp))).mono ?_); rintro e w' ⟨rfl, rfl⟩))
      | (go_at_call 53; ((with_reducible refine (withoutLast_any gB (q2 + 1) pB vs _ (by omega) hcB HK2.out 0 (HL.out.ownOf (by simp))).mono ?_); rintro e w' ⟨rfl, rfl⟩))
      | (go_at_call 72; ((with_reducible refine (slEqual_any (some ⟨gA, 0, none⟩) (some ⟨gB, 0, none⟩) (shK us (q1 + 1)) (shK vs (q2 + 1)) pA pB (shL us (q1 + 1)) (shL vs (q2 + 1)) _ (by rw [shL_len _ _ HK1.out]; have := shK_le us (q1 + 1); omega) (shL_len _ _ HK1.out) (shL_len _ _ HK2.out) (own_readsSh (p := pA) (HL.out.ownOf (by simp)) HK1.out) (own_readsSh (p := pB) (HL.out.ownOf (by simp)) HK2.out)).mono ?_); rintro e wE ⟨rfl, hdE⟩; have HE := Lib.hid (HL.out.kept hdE.below).below; clear hdE))))
    all_goals
      go_wp2_with fail
      go_ret2
      exact ⟨rfl, HE.out⟩
end Go.Proofs.Ytjmefcebldifaaa
