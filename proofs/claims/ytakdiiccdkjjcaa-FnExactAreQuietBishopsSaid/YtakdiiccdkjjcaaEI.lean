/- Are pieces quiet: bishops and kings, in both texts. No condition but the sizes. -/
import Derived.Test.YtakdiiccdkjjcaaEH
import Derived.Test.YtakdiiccdkjjcaaZ
namespace Go.Proofs.Ytakdiiccdkjjcaa
open Go.RowKit Go.WideShapes

def quietR (D : Int → Int → Bool) (r c : Int) (xs : List Int) (rss : List (List Int)) : R2 := if goodB r c xs then ⟨areQ D r c (bt xs) rss, true⟩ else ⟨false, false⟩
theorem quiet_eq (D : Int → Int → Bool) (hD : D 0 0 = true) (n m : Nat) (hn : n ≤ 6) (hm : m ≤ 6) (P : Nat → Nat → Bool) (rss : List (List Int)) : (decide (rss.length ≤ 36) && specQ D n m P [] rss) = areQ D n m P rss := by
  by_cases h : rss.length ≤ 36
  · rw [decide_eq_true h, Bool.true_and, areQ_all]
  · rw [decide_eq_false h, Bool.false_and, areQ_long D hD n m hn hm P rss (by omega)]
theorem bishopMoveQ_any (d r : Int) (W : World) (hr : -6 ≤ r ∧ r ≤ 6) : Calls Try.prog 75 #[.int .i64 d, .int .i64 r] W fun e w' => e = .returned (.bool (bD d r)) ∧ W = w' := by
  have hn : wrap64 (-r) = -r := IntWalk.wrap64_in _ (by omega)
  unfold bD
  cases h1 : (d == r)
  · cases h2 : (d == -r)
    · go_enter Try.func75, Try.ntmps75
      go_wp2_with fail
      go_ret
      exact ⟨rfl, rfl⟩
    · go_enter Try.func75, Try.ntmps75
      go_wp2_with fail
      go_ret
      exact ⟨rfl, rfl⟩
  · go_enter Try.func75, Try.ntmps75
    go_wp2_with fail
    go_ret
    exact ⟨rfl, rfl⟩
theorem bishopMove_f : MoveF 75 bD := ⟨fun _ _ => by kernel_rfl, fun d r W _ _ h3 h4 => bishopMoveQ_any d r W ⟨h3, h4⟩⟩


set_option maxRecDepth 100000 in
set_option maxHeartbeats 6400000 in
theorem specAreQuietBishops_any (r c : Int) (xs : List Int) (rss : List (List Int)) (w : World) (hx : xs.length ≤ 1048576) (hl : rss.length + total rss ≤ 1048576) (lo : Nat) (s : Value) (lo2 : Nat) (s2 : Value) (vs : List Value) (hO : Own w lo s xs) (hO2 : OwnM w lo2 s2 vs rss) :
    Calls Try.prog 40 #[.agg #[.int .i64 r, .int .i64 c, s], s2] w fun e w' => AnsOO (quietR bD r c xs rss) w e w' := by
  have L0 := (Law.start w).box (.int .i64 r) (.int .i64 c) s 28
  obtain ⟨a, cap, rfl, hr⟩ := hO.reads
  have hr0 := L0.reads hr
  have HL := Lib.hid L0
  have HO := Lib.hid hO
  have HO2 := Lib.hid hO2
  have HG := Lib.hid (boGood_any r c a cap xs _ hx hr0)
  clear hO hO2 L0 hr hr0
  cases hg : goodB r c xs
  · rw [show quietR bD r c xs rss = ⟨false, false⟩ by simp [quietR, hg]]
    rw [hg] at HG
    clear hg HO HO2
    go_enter Try.func40, Try.ntmps40
    go_upto_region 1 with fail
    generalize w.alloc _ = w1 at *
    have ⟨_, b0, b1, b2, _⟩ := HL.out.ownBox
    go_wp2_with fail
    refine HG.out.mono ?_
    rintro e w2 ⟨rfl, hb⟩
    replace HL := Lib.hid (HL.out.kept hb)
    clear hb HG b0 b1 b2
    go_wp2_with fail
    go_ret2
    exact ⟨rfl, HL.out.below⟩
  · rw [hg] at HG
    obtain ⟨⟨g1, g2⟩, ⟨g3, g4⟩, _, _⟩ := good_facts hg
    obtain ⟨n, rfl⟩ := Int.eq_ofNat_of_zero_le (show 0 ≤ r by omega)
    obtain ⟨m, rfl⟩ := Int.eq_ofNat_of_zero_le (show 0 ≤ c by omega)
    rw [show quietR bD n m xs rss = ⟨areQ bD n m (bt xs) rss, true⟩ by simp [quietR, hg]]
    have HQ := Lib.hid (fun (W : World) (h1 : Own W lo (.slice a xs.length cap) xs) (h2 : OwnM W lo2 s2 vs rss) => biQuiet_any 0 bD biDisturb0_any n m xs rss W hg hx (by omega) lo _ h1 lo2 s2 vs h2)
    rw [quiet_eq bD (by decide) n m (by omega) (by omega)] at HQ
    generalize areQ bD n m (bt xs) rss = y at *
    clear hg
    go_enter Try.func40, Try.ntmps40
    go_upto_region 1 with fail
    generalize w.alloc _ = w1 at *
    have ⟨_, b0, b1, b2, _⟩ := HL.out.ownBox
    go_wp2_with fail
    refine HG.out.mono ?_
    rintro e w2 ⟨rfl, hb⟩
    replace HL := Lib.hid (HL.out.kept hb)
    clear hb HG b0 b1 b2
    have ⟨_, b0, b1, b2, _⟩ := HL.out.ownBox
    go_wp2_with fail
    refine (HQ.out _ (HO.out.kept HL.out.below) (ownM_kept HO2.out HL.out.below)).mono ?_
    rintro e w3 ⟨rfl, hb⟩
    replace HL := Lib.hid (HL.out.kept hb)
    clear hb HQ b0 b1 b2
    go_wp2_with fail
    go_ret2
    exact ⟨rfl, HL.out.below⟩
set_option maxRecDepth 100000 in
set_option maxHeartbeats 6400000 in
theorem implAreQuietBishops_any (r c : Int) (xs : List Int) (rss : List (List Int)) (w : World) (hx : xs.length ≤ 1048576) (hl : rss.length + total rss ≤ 1048576) (lo : Nat) (s : Value) (lo2 : Nat) (s2 : Value) (vs : List Value) (hO : Own w lo s xs) (hO2 : OwnM w lo2 s2 vs rss) :
    Calls Try.prog 42 #[.agg #[.int .i64 r, .int .i64 c, s], s2] w fun e w' => AnsOO (quietR bD r c xs rss) w e w' := by
  have L0 := (Law.start w).box (.int .i64 r) (.int .i64 c) s 28
  obtain ⟨a, cap, rfl, hr⟩ := hO.reads
  have hr0 := L0.reads hr
  have HL := Lib.hid L0
  have HO2 := Lib.hid hO2
  clear hO hO2 L0 hr
  cases hg : goodB r c xs
  · rw [show quietR bD r c xs rss = ⟨false, false⟩ by simp [quietR, hg]]
    have HC := Lib.hid (gridOf_no r c a cap xs _ hx hr0 hg)
    clear hr0 hg
    go_enter Try.func42, Try.ntmps42
    go_upto_region 1 with fail
    generalize w.alloc _ = w1 at *
    have ⟨_, b0, b1, b2, _⟩ := HL.out.ownBox
    go_wp2_with fail
    refine HC.out.mono ?_
    rintro e w2 ⟨rfl, hb⟩
    replace HL := Lib.hid ((HL.out.kept hb).kept (below_new (.cells #[.int .i64 0, .int .i64 0, .int .i64 0, .int .i64 0, .int .i64 0, .int .i64 0, .int .i64 0, .int .i64 0] 66)))
    clear hb HC b0 b1 b2
    go_wp2_with fail
    go_ret2
    exact ⟨rfl, HL.out.below⟩
  · have hgc := good_cell hg
    obtain ⟨⟨g1, g2⟩, ⟨g3, g4⟩, _, _⟩ := good_facts hg
    obtain ⟨n, rfl⟩ := Int.eq_ofNat_of_zero_le (show 0 ≤ r by omega)
    obtain ⟨m, rfl⟩ := Int.eq_ofNat_of_zero_le (show 0 ≤ c by omega)
    obtain ⟨M, hM, hc⟩ := gridOf_good n m a cap xs _ hx hr0 hg
    have HC := Lib.hid hc
    simp only [← hM] at hgc
    rw [show quietR bD n m xs rss = ⟨areQ bD n m (bt xs) rss, true⟩ by simp [quietR, hg]]
    have HQ := Lib.hid (fun (W : World) (h2 : OwnM W lo2 s2 vs rss) => areQuiet_any n m 75 bD bishopMove_f (by omega) (by omega) M (fun k _ => hgc k) rss W (by omega) lo2 s2 vs h2)
    rw [show (fun a b => (M a).toNat.testBit b) = bt xs from by funext a b; rw [hM]] at HQ
    generalize areQ bD n m (bt xs) rss = y at *
    clear hg hgc hc hr0 hM
    go_enter Try.func42, Try.ntmps42
    go_upto_region 1 with fail
    generalize w.alloc _ = w1 at *
    have ⟨_, b0, b1, b2, _⟩ := HL.out.ownBox
    go_wp2_with fail
    refine HC.out.mono ?_
    rintro e w2 ⟨rfl, hb⟩
    replace HL := Lib.hid ((HL.out.kept hb).has (gl n m M) 66)
    rw [show w2.alloc (.cells (gl n m M).toArray 66) = w2.alloc (.cells #[.int .i64 n, .int .i64 m, .int .i64 (M 0), .int .i64 (M 1), .int .i64 (M 2), .int .i64 (M 3), .int .i64 (M 4), .int .i64 (M 5)] 66) from rfl] at HL
    clear hb HC b0 b1 b2
    go_upto_region 2 with fail
    generalize w2.alloc _ = w3 at *
    obtain ⟨e0, e1, e2, e3, e4, e5, e6, e7, _⟩ := HL.out.ownHas.eight
    go_wp2_with fail
    refine (HQ.out _ (ownM_kept HO2.out HL.out.below)).mono ?_
    rintro e w5 ⟨rfl, hb⟩
    replace HL := Lib.hid (HL.out.kept hb)
    clear hb e0 e1 e2 e3 e4 e5 e6 e7
    go_wp2_with fail
    go_ret2
    exact ⟨rfl, HL.out.below⟩

end Go.Proofs.Ytakdiiccdkjjcaa
