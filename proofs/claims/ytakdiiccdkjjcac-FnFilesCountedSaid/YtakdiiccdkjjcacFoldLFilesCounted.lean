import Derived.Test.YtakdiiccdkjjcacFold26
import Derived.Test.YtakdiiccdkjjcacFold30
import Derived.Test.YtakdiiccdkjjcacFold32
import Derived.Test.YtakdiiccdkjjcacFold27
import Derived.Deep.RegionWith
namespace Go.Proofs.Ytakdiiccdkjjcac.lFilesCounted
open Go.ChangeShapes Go.WideShapes Go.ChangeAt Go.RowKit Go.Joins

set_option maxRecDepth 100000 in
theorem big_no (a0 a1 : Option Addr) (n0 p0 n1 p1 : Nat) (w : World) (h0 : n0 ≤ 1048576) (h1 : n1 ≤ 1048576 - n0) : Calls Try.prog 19 #[.slice a0 n0 p0, .slice a1 n1 p1] w fun e w' => e = .returned (.bool false) ∧ w' = w := by
  have i0 : ¬ (1048576 : Int) < n0 := by omega
  have i1 : ¬ (1048576 : Int) - n0 < n1 := by omega
  have i2 : IntKind.i64.wrap ((1048576 : Int) - n0) = 1048576 - n0 := IntWalk.i64_in _ (by omega)
  go_enter Try.func19, Try.ntmps19
  go_wp2_with fail
  go_ret
  exact ⟨rfl, rfl⟩
set_option maxRecDepth 100000 in
theorem big_yes (a0 a1 : Option Addr) (n0 p0 n1 p1 : Nat) (w : World) (hm0 : n0 ≤ 9223372036854775807) (_hm1 : n1 ≤ 9223372036854775807) (h : ¬ (n0 ≤ 1048576 ∧ n1 ≤ 1048576 - n0)) : Calls Try.prog 19 #[.slice a0 n0 p0, .slice a1 n1 p1] w fun e w' => e = .returned (.bool true) ∧ w' = w := by
  by_cases h0 : n0 ≤ 1048576
  · have i0 : ¬ (1048576 : Int) < n0 := by omega
    have i1 : (1048576 : Int) - n0 < n1 := by omega
    have i2 : IntKind.i64.wrap ((1048576 : Int) - n0) = 1048576 - n0 := IntWalk.i64_in _ (by omega)
    go_enter Try.func19, Try.ntmps19
    go_wp2_with fail
    go_ret
    exact ⟨rfl, rfl⟩
  · have i0 : (1048576 : Int) < n0 := by omega
    clear h
    go_enter Try.func19, Try.ntmps19
    go_wp2_with fail
    go_ret
    exact ⟨rfl, rfl⟩


theorem own_rdY {w : World} {lo n p : Nat} {a : Option Addr} {xs : List Int} (h : Own w lo (.slice a n p) xs) : n = xs.length ∧ Reads w a n xs := by
  obtain ⟨a', q, e, hr⟩ := h.reads
  injection e with e1 e2 e3
  subst e1
  subst e2
  exact ⟨rfl, hr⟩
theorem ansB_at {P : Program} {f : FuncId} {args : Array Value} {w : World} {R : BR} {r c : Int} {xs : List Int} {ok : Bool} (h : Calls P f args w (AnsB R w)) (e : R = ⟨r, c, xs, ok⟩) : Calls P f args w fun e w' => ∃ s, e = .returned (.tuple #[.agg #[.int .i64 r, .int .i64 c, s], .bool ok]) ∧ Own w' w.heap.size s xs ∧ Below w.heap.size w w' := by
  subst e; exact h
theorem ansIO_at {P : Program} {f : FuncId} {args : Array Value} {w : World} {R : R1} {y : Int} {ok : Bool} (h : Calls P f args w (AnsIO R w)) (e : R = ⟨y, ok⟩) : Calls P f args w fun e w' => e = .returned (.tuple #[.int .i64 y, .bool ok]) ∧ Below w.heap.size w w' := by
  subst e; exact h
theorem ansL_at {P : Program} {f : FuncId} {args : Array Value} {w : World} {R : LR} {ys : List Int} {ok : Bool} (h : Calls P f args w (AnsL R w)) (e : R = ⟨ys, ok⟩) : Calls P f args w fun e w' => ∃ s, e = .returned (.tuple #[s, .bool ok]) ∧ Own w' w.heap.size s ys ∧ Below w.heap.size w w' := by
  subst e; exact h
theorem ansOO_at {P : Program} {f : FuncId} {args : Array Value} {w : World} {R : R2} {b ok : Bool} (h : Calls P f args w (AnsOO R w)) (e : R = ⟨b, ok⟩) : Calls P f args w fun e w' => e = .returned (.tuple #[.bool b, .bool ok]) ∧ Below w.heap.size w w' := by
  subst e; exact h
theorem hor_nil (F : Nat → Int) (x : Int) : wrap64 (hor F x 0) = 0 := by
  show wrap64 0 = 0
  unfold wrap64
  omega
theorem lstH_get1 (u : Nat) (g : Nat → Int) : ∀ k : Nat, k ≤ u → (lstH (u + 1) g).getD k 0 = g k := fun k hk => lstH_get _ _ _ (by omega)
theorem _root_.Go.Proofs.Ytakdiiccdkjjcac.Law.first1 {w0 w : World} {x : Thing} {ts : List Thing} (h : Law w0 (x :: ts) w) : Law w0 [x] w := by
  have hs : List.Sublist [x] (x :: ts) := (List.nil_sublist ts).cons_cons x
  exact ⟨h.below, fun t ht => h.holds t (hs.subset ht), fun t ht => h.range t (hs.subset ht), h.dis.sublist hs⟩
theorem _root_.Go.Proofs.Ytakdiiccdkjjcac.Law.first2 {w0 w : World} {x y : Thing} {ts : List Thing} (h : Law w0 (x :: y :: ts) w) : Law w0 [x, y] w := by
  have hs : List.Sublist [x, y] (x :: y :: ts) := ((List.nil_sublist ts).cons_cons y).cons_cons x
  exact ⟨h.below, fun t ht => h.holds t (hs.subset ht), fun t ht => h.range t (hs.subset ht), h.dis.sublist hs⟩
set_option maxRecDepth 100000 in
set_option maxHeartbeats 40000000 in
theorem walk (a0 a1 : Option Addr) (n0 p0 n1 p1 : Nat) (w : World) (h0 : n0 ≤ 1048576) (h1 : n1 ≤ 1048576 - n0) (hy0 : ReadsY w a0 n0) (hy1 : ReadsY w a1 n1) :
    Calls Try.prog 5 #[.slice a0 n0 p0, .slice a1 n1 p1] w fun e w' => e = .returned (.bool true) ∧ Below w.heap.size w w' := by
  have HBIG := Lib.hid (big_no a0 a1 n0 p0 n1 p1 w h0 h1)
  have HY0 := Lib.hid hy0
  have HY1 := Lib.hid hy1
  have HN0 := Lib.hid (show n0 ≤ 4611686018427387904 by omega)
  have HN1 := Lib.hid (show n1 ≤ 4611686018427387904 by omega)
  clear hy0 hy1 h0 h1
  go_enter Try.func5, Try.ntmps5
  go_wp2_with fail
  refine HBIG.out.mono ?_
  rintro e w' ⟨rfl, hw⟩
  subst w'
  clear HBIG
  go_wp2_with fail
  refine (drawDrawFileNumbers_any a0 n0 p0 w HN0.out HY0.out).mono ?_
  rintro e w1 ⟨r, c, g, len, cap, xs, rfl, hl, _, h7, hO, hb⟩
  unfold bdV
  subst hl
  have HXL := Lib.hid (show xs.length ≤ 1048576 by omega)
  have HM0 := Lib.hid (((Law.start w).own hb hO).box (.int .i64 r) (.int .i64 c) (.slice (some ⟨g, 0, none⟩) xs.length cap) 28)
  obtain ⟨ys, ok, hR⟩ : ∃ ys ok, filR r c xs = ⟨ys, ok⟩ := ⟨_, _, rfl⟩
  have HR := Lib.hid hR
  have hyl := filR_len r c xs
  rw [hR] at hyl
  have HYL := Lib.hid (show ys.length ≤ 1048576 from hyl)
  clear hb hO hR hyl h7
  have ⟨_, u0, u1, u2, _⟩ := HM0.out.ownBox
  go_wp2_with fail
  refine (ansL_at (implFileN_any r c xs _ HXL.out _ _ HM0.out.tl.ownInts) HR.out).mono ?_
  rintro e w2 ⟨s0, rfl, hO, hb⟩
  obtain ⟨q0, c0, rfl, _⟩ := hO.reads
  have HM1 := Lib.hid (HM0.out.own hb hO)
  clear hb hO HM0 u0 u1 u2
  have ⟨_, u0, u1, u2, _⟩ := HM1.out.tl.ownBox
  go_wp2_with fail
  refine (ansL_at (specFileN_any r c xs _ HXL.out _ _ HM1.out.tl.tl.ownInts) HR.out).mono ?_
  rintro e w3 ⟨s1, rfl, hO, hb⟩
  obtain ⟨q1, c1, rfl, _⟩ := hO.reads
  have HM2 := Lib.hid (HM1.out.own hb hO)
  clear hb hO HM1 u0 u1 u2
  have hd : (ok != ok) = false := by simp
  have hr0 := (own_rdY HM2.out.tl.ownInts).2
  have hr1 := (own_rdY HM2.out.ownInts).2
  have HRR := Lib.hid (And.intro hr0 hr1)
  clear hr0 hr1
  go_wp2_with fail
  refine (kSame_same q0 q1 ys.length c0 c1 ys _ HYL.out HRR.out.1 HRR.out.2).mono ?_
  rintro e w4 ⟨rfl, hb⟩
  have HB := Lib.hid (HM2.out.kept hb).below
  clear hb HM2 HRR hd HR HYL HXL
  go_wp2_with fail
  refine (drawDrawFileValue_any a1 n1 p1 _ HN1.out (HY1.out.kept HB.out)).mono ?_
  rintro e w5 ⟨x, r2, c2, g2, len2, cap2, xs2, rfl, hz, hl, _, h7, hO, hb⟩
  unfold bdV
  subst hl
  have HXL := Lib.hid (show xs2.length ≤ 1048576 by omega)
  have HM0 := Lib.hid ((((Law.start w).kept HB.out).own hb hO).box (.int .i64 r2) (.int .i64 c2) (.slice (some ⟨g2, 0, none⟩) xs2.length cap2) 28)
  obtain ⟨y, one, hV⟩ : ∃ y one, valR r2 c2 xs2 x = ⟨y, one⟩ := ⟨_, _, rfl⟩
  have HV := Lib.hid hV
  clear hb hO hV h7 HB hz
  have ⟨_, u0, u1, u2, _⟩ := HM0.out.ownBox
  go_wp2_with fail
  refine (ansIO_at (implFileV_any r2 c2 xs2 x _ HXL.out _ _ HM0.out.tl.ownInts) HV.out).mono ?_
  rintro e w6 ⟨rfl, hb⟩
  have HM1 := Lib.hid (HM0.out.kept hb)
  clear hb HM0 u0 u1 u2
  have ⟨_, u0, u1, u2, _⟩ := HM1.out.ownBox
  go_wp2_with fail
  refine (ansIO_at (specFileV_any r2 c2 xs2 x _ HXL.out _ _ HM1.out.tl.ownInts) HV.out).mono ?_
  rintro e w7 ⟨rfl, hb⟩
  have HM2 := Lib.hid (HM1.out.kept hb)
  clear hb HM1 u0 u1 u2
  have hd1 : (one != one) = false := by simp
  have hd2 : (y != y) = false := by simp
  cases one
  · have HB := Lib.hid HM2.out.below
    clear HM2 HXL HV
    go_wp2_with fail
    refine (drawDrawArrowBoard_any a1 n1 p1 _ HN1.out (HY1.out.kept HB.out)).mono ?_
    rintro e z1 ⟨N, rfl, hb⟩
    replace HB := Lib.hid (below_on HB.out hb)
    obtain ⟨r3, c3, xs3, ok3, hA⟩ : ∃ r c xs ok, aboveB N = ⟨r, c, xs, ok⟩ := ⟨_, _, _, _, rfl⟩
    have HA := Lib.hid hA
    have hal := aboveB_len N
    rw [hA] at hal
    have HAL := Lib.hid (show xs3.length ≤ 1048576 from hal)
    clear hb hA hal
    go_wp2_with fail
    refine (ansB_at (implArrow_any N _) HA.out).mono ?_
    rintro e z2 ⟨s3, rfl, hO, hb⟩
    obtain ⟨q3, c3', rfl, _⟩ := hO.reads
    have HK0 := Lib.hid ((((Law.start w).kept HB.out).own hb hO).box (.int .i64 r3) (.int .i64 c3) (.slice q3 xs3.length c3') 28)
    clear hO hb HB
    go_wp2_with fail
    refine (ansB_at (specArrow_any N _) HA.out).mono ?_
    rintro e z3 ⟨s4, rfl, hO, hb⟩
    obtain ⟨q4, c4', rfl, _⟩ := hO.reads
    have HK1 := Lib.hid ((HK0.out.own hb hO).box (.int .i64 r3) (.int .i64 c3) (.slice q4 xs3.length c4') 28)
    clear hO hb HK0
    have ⟨_, u0, u0', u0'', _⟩ := (HK1.out.tl.tl).ownBox
    have ⟨_, u1, u1', u1'', _⟩ := (HK1.out).ownBox
    have hr0 := (own_rdY (HK1.out.tl.tl.tl).ownInts).2
    have hr1 := (own_rdY (HK1.out.tl).ownInts).2
    have HRR := Lib.hid (And.intro hr0 hr1)
    have hd3 : (ok3 != ok3) = false := by simp
    clear hr0 hr1
    go_wp2_with fail
    refine (kBoard_same r3 c3 q3 q4 xs3.length c3' c4' xs3 _ HAL.out HRR.out.1 HRR.out.2).mono ?_
    rintro e z4 ⟨rfl, hb⟩
    have HK2 := Lib.hid (HK1.out.kept hb)
    clear hb HK1 HRR hd3 u0 u0' u0'' u1 u1' u1''
    cases ok3
    · have HB := Lib.hid HK2.out.below
      clear HK2 HA HAL
      go_wp2_with fail
      refine (drawDrawIsFilePlacement_any a1 n1 p1 _ HN1.out (HY1.out.kept HB.out)).mono ?_
      rintro e t1 ⟨r4, c4, g4, len4, cap4, xs4, v4, F4, rfl, hl, _, h7, hF, hO, hO2, hb⟩
      unfold bdV
      subst hl
      have HXL4 := Lib.hid (show xs4.length ≤ 1048576 by omega)
      have HFL4 := Lib.hid (show F4.length ≤ 1048576 by omega)
      have HB1 := below_on HB.out hb
      have HM4 := Lib.hid (((Law.start w).kept HB1).box (.int .i64 r4) (.int .i64 c4) (.slice (some ⟨g4, 0, none⟩) xs4.length cap4) 28)
      have HO4 := Lib.hid (hO.kept (below_new (.cells #[.int .i64 r4, .int .i64 c4, .slice (some ⟨g4, 0, none⟩) xs4.length cap4] 28)))
      have HO5 := Lib.hid (hO2.kept (below_new (.cells #[.int .i64 r4, .int .i64 c4, .slice (some ⟨g4, 0, none⟩) xs4.length cap4] 28)))
      obtain ⟨b4, ok4, hP⟩ : ∃ b ok, isFilB r4 c4 xs4 F4 = ⟨b, ok⟩ := ⟨_, _, rfl⟩
      have HP := Lib.hid hP
      clear hb hO hO2 hP h7 hF HB1 HB
      have ⟨_, u0, u1, u2, _⟩ := HM4.out.ownBox
      go_wp2_with fail
      refine (ansOO_at (implIsFil_any r4 c4 xs4 F4 _ HXL4.out HFL4.out _ _ _ _ HO4.out HO5.out) HP.out).mono ?_
      rintro e t2 ⟨rfl, hb⟩
      have HM5 := Lib.hid (HM4.out.kept hb)
      replace HO4 := Lib.hid (HO4.out.kept hb)
      replace HO5 := Lib.hid (HO5.out.kept hb)
      clear hb HM4 u0 u1 u2
      have ⟨_, u0, u1, u2, _⟩ := HM5.out.ownBox
      go_wp2_with fail
      refine (ansOO_at (specIsFil_any r4 c4 xs4 F4 _ HXL4.out HFL4.out _ _ _ _ HO4.out HO5.out) HP.out).mono ?_
      rintro e t3 ⟨rfl, hb⟩
      have HBE := Lib.hid (HM5.out.kept hb).below
      clear hb HM5 u0 u1 u2 HO4 HO5
      have hd5 : (ok4 == ok4) = true := by simp
      have hd6 : (b4 == b4) = true := by simp
      go_wp2_with fail
      go_ret
      exact ⟨by simp, HBE.out⟩
    · obtain ⟨u, hu, hu1, hu6, hr, hc, hxs⟩ := arrow_yes HA.out
      subst hu
      subst hr
      subst hc
      obtain ⟨RL, hRL⟩ : ∃ l, l = lstH (u + 1) (fun k => (triF 0 u (u - k) : Nat)) := ⟨_, rfl⟩
      obtain ⟨FL, hFL⟩ : ∃ l, l = lstH (u + 1) (fun k => (triF 1 u (u - k) : Nat)) := ⟨_, rfl⟩
      have HRK := Lib.hid (show numB u u xs3 = ⟨RL, true⟩ by rw [hxs, hRL]; exact arrow_rooks u hu1 hu6)
      have HFI := Lib.hid (show filR u u xs3 = ⟨FL, true⟩ by rw [hxs, hFL]; exact arrow_files u hu1 hu6)
      have HRG := Lib.hid (show ∀ k : Nat, k ≤ u → RL.getD k 0 = (triF 0 u (u - k) : Nat) by rw [hRL]; exact lstH_get1 u _)
      have HFG := Lib.hid (show ∀ k : Nat, k ≤ u → FL.getD k 0 = (triF 1 u (u - k) : Nat) by rw [hFL]; exact lstH_get1 u _)
      have HRN := Lib.hid (show RL.length = u + 1 by rw [hRL, lstH_len])
      have HFN := Lib.hid (show FL.length = u + 1 by rw [hFL, lstH_len])
      clear hRL hFL hxs HA
      have ⟨_, u0, u0', u0'', _⟩ := (HK2.out.tl.tl).ownBox
      go_wp2_with fail
      refine (ansL_at (implNumbers_any u u xs3 _ HAL.out _ _ (HK2.out.tl.tl.tl).ownInts) HRK.out).mono ?_
      rintro e z5 ⟨s5, rfl, hO, hb⟩
      rcases hO.cases with ⟨_, h0⟩ | ⟨g5, c5, rfl, _, _, _, _⟩
      · have := HRN.out
        rw [h0] at this
        simp at this
      have HK3 := Lib.hid (HK2.out.own hb hO)
      clear hO hb HK2 u0 u0' u0''
      have ⟨_, u0, u0', u0'', _⟩ := (HK3.out.tl.tl.tl).ownBox
      go_wp2_with fail
      refine (ansL_at (implFileN_any u u xs3 _ HAL.out _ _ (HK3.out.tl.tl.tl.tl).ownInts) HFI.out).mono ?_
      rintro e z6 ⟨s6, rfl, hO, hb⟩
      rcases hO.cases with ⟨_, h0⟩ | ⟨g6, c6, rfl, _, _, _, _⟩
      · have := HFN.out
        rw [h0] at this
        simp at this
      have HK4 := Lib.hid (HK3.out.own hb hO)
      clear hO hb HK3 u0 u0' u0'' HRK HFI
      go_wp2_with fail
      go_loopw [30] (fun i wr => ∃ k : Nat, k ≤ u + 1 ∧ i = .int .i64 k ∧ Law w [tOwn (.slice (some ⟨g6, 0, none⟩) FL.length c6) FL, tOwn (.slice (some ⟨g5, 0, none⟩) RL.length c5) RL] wr) (fun i _ => u + 1 - (intOf i).toNat)
      case atStart => exact ⟨0, Nat.zero_le _, rfl, Law.first2 HK4.out⟩
      case round =>
        clear HK4
        obtain ⟨k, hk, rfl, L⟩ := hrel
        have HK5 := Lib.hid L
        clear L
        by_cases hku : k ≤ u
        · have hkI : (k : Int) ≤ u := by omega
          have hsub : IntKind.i64.wrap ((u : Int) - k) = u - k := IntWalk.i64_in _ (by omega)
          have HT0 := Lib.hid (tri_yes 0 u k hu6 hku)
          have HT1 := Lib.hid (tri_yes 1 u k hu6 hku)
          have HG0 := Lib.hid (HRG.out k hku)
          have HG1 := Lib.hid (HFG.out k hku)
          generalize ((triF 0 u (u - k) : Nat) : Int) = za at HT0 HG0
          generalize ((triF 1 u (u - k) : Nat) : Int) = zb at HT1 HG1
          go_wp2_with fail
          refine (ansIO_at (implStirlingSecond_any _ _ _) HT0.out).mono ?_
          rintro e y1 ⟨rfl, hb⟩
          have HK6 := Lib.hid (HK5.out.kept hb)
          clear hb HK5
          go_wp2_with fail
          refine (ansIO_at (implStirlingFirst_any _ _ _) HT1.out).mono ?_
          rintro e y2 ⟨rfl, hb⟩
          have HK7 := Lib.hid (HK6.out.kept hb)
          clear hb HK6
          have f1 := Own.cell (HK7.out.ownInts) k (by have := HFN.out; omega)
          have f2 := Own.cell (HK7.out.tl.ownInts) k (by have := HRN.out; omega)
          rw [HG1.out] at f1
          rw [HG0.out] at f2
          have hda : (za != za) = false := by simp
          have hdb : (zb != zb) = false := by simp
          have hk0 : (0 : Int) ≤ k := by omega
          have hkf : (k : Int) < FL.length := by have := HFN.out; omega
          have hkr : (k : Int) < RL.length := by have := HRN.out; omega
          go_wp2_with fail
          go_roundw
          case rel => exact ⟨k + 1, by omega, by go_num, HK7.out⟩
          case measure => simp [intOf]; omega
        · have hkI : ¬ (k : Int) ≤ u := by omega
          have HB := Lib.hid HK5.out.below
          clear HK5 HRN HFN HRG HFG HAL
          go_wp2_with fail
          refine (drawDrawIsFilePlacement_any a1 n1 p1 _ HN1.out (HY1.out.kept HB.out)).mono ?_
          rintro e t1 ⟨r4, c4, g4, len4, cap4, xs4, v4, F4, rfl, hl, _, h7, hF, hO, hO2, hb⟩
          unfold bdV
          subst hl
          have HXL4 := Lib.hid (show xs4.length ≤ 1048576 by omega)
          have HFL4 := Lib.hid (show F4.length ≤ 1048576 by omega)
          have HB1 := below_on HB.out hb
          have HM4 := Lib.hid (((Law.start w).kept HB1).box (.int .i64 r4) (.int .i64 c4) (.slice (some ⟨g4, 0, none⟩) xs4.length cap4) 28)
          have HO4 := Lib.hid (hO.kept (below_new (.cells #[.int .i64 r4, .int .i64 c4, .slice (some ⟨g4, 0, none⟩) xs4.length cap4] 28)))
          have HO5 := Lib.hid (hO2.kept (below_new (.cells #[.int .i64 r4, .int .i64 c4, .slice (some ⟨g4, 0, none⟩) xs4.length cap4] 28)))
          obtain ⟨b4, ok4, hP⟩ : ∃ b ok, isFilB r4 c4 xs4 F4 = ⟨b, ok⟩ := ⟨_, _, rfl⟩
          have HP := Lib.hid hP
          clear hb hO hO2 hP h7 hF HB1 HB
          have ⟨_, u0, u1, u2, _⟩ := HM4.out.ownBox
          go_wp2_with fail
          refine (ansOO_at (implIsFil_any r4 c4 xs4 F4 _ HXL4.out HFL4.out _ _ _ _ HO4.out HO5.out) HP.out).mono ?_
          rintro e t2 ⟨rfl, hb⟩
          have HM5 := Lib.hid (HM4.out.kept hb)
          replace HO4 := Lib.hid (HO4.out.kept hb)
          replace HO5 := Lib.hid (HO5.out.kept hb)
          clear hb HM4 u0 u1 u2
          have ⟨_, u0, u1, u2, _⟩ := HM5.out.ownBox
          go_wp2_with fail
          refine (ansOO_at (specIsFil_any r4 c4 xs4 F4 _ HXL4.out HFL4.out _ _ _ _ HO4.out HO5.out) HP.out).mono ?_
          rintro e t3 ⟨rfl, hb⟩
          have HBE := Lib.hid (HM5.out.kept hb).below
          clear hb HM5 u0 u1 u2 HO4 HO5
          have hd5 : (ok4 == ok4) = true := by simp
          have hd6 : (b4 == b4) = true := by simp
          go_wp2_with fail
          go_ret
          exact ⟨by simp, HBE.out⟩
  · obtain ⟨m, hm, hf, hy⟩ := val_yes HV.out
    generalize filF (hgtF xs2 r2.toNat m) m = F at hf hy
    obtain ⟨ws, hws⟩ : ∃ l, l = lstH (m + 1) F := ⟨_, rfl⟩
    have HFI2 := Lib.hid (show filR r2 c2 xs2 = ⟨ws, true⟩ by rw [hf, hws])
    have HWG := Lib.hid (show ∀ k : Nat, k ≤ m → ws.getD k 0 = F k by rw [hws]; exact lstH_get1 m _)
    have HWN := Lib.hid (show ws.length = m + 1 by rw [hws, lstH_len])
    have HYV := Lib.hid hy
    clear hf hws hy HV
    have ⟨_, u0, u1, u2, _⟩ := HM2.out.ownBox
    go_wp2_with fail
    refine (ansL_at (implFileN_any r2 c2 xs2 _ HXL.out _ _ HM2.out.tl.ownInts) HFI2.out).mono ?_
    rintro e w8 ⟨s8, rfl, hO, hb⟩
    rcases hO.cases with ⟨_, h0⟩ | ⟨g8, c8, rfl, _, _, _, _⟩
    · have := HWN.out
      rw [h0] at this
      simp at this
    have HM3 := Lib.hid (HM2.out.own hb hO)
    clear hO hb HM2 u0 u1 u2 HFI2 HXL
    go_wp2_with fail
    go_loopw [18, 98] (fun sm i wr => ∃ k : Nat, k ≤ m + 1 ∧ i = .int .i64 k ∧ sm = .int .i64 (wrap64 (hor F x k)) ∧ Law w [tOwn (.slice (some ⟨g8, 0, none⟩) ws.length c8) ws] wr) (fun _ i _ => m + 1 - (intOf i).toNat)
    case atStart => exact ⟨0, Nat.zero_le _, rfl, by rw [show wrap64 (hor F x 0) = 0 from hor_nil F x], Law.first1 HM3.out⟩
    case round =>
      clear HM3
      obtain ⟨k, hk, rfl, rfl, L⟩ := hrel
      have HM4' := Lib.hid L
      clear L
      by_cases hkm : k < m + 1
      · have hkI : (k : Int) < ws.length := by have := HWN.out; omega
        have f1 := Own.cell (HM4'.out.ownInts) k (by have := HWN.out; omega)
        rw [HWG.out k (by omega)] at f1
        have hk0 : (0 : Int) ≤ k := by omega
        have HST := Lib.hid (hor_step F x k)
        generalize hor F x k = hk1 at *
        go_wp2_with fail
        go_roundw
        case rel => exact ⟨k + 1, by omega, by go_num, by first | (rw [← HST.out]; rfl) | (rw [← HST.out]), HM4'.out⟩
        case measure => simp [intOf]; omega
      · obtain rfl : k = m + 1 := by omega
        have hkI : ¬ ((m + 1 : Nat) : Int) < ws.length := by have := HWN.out; omega
        rw [← HYV.out]
        have HB := Lib.hid HM4'.out.below
        clear HM4' HWN HWG HYV
        go_wp2_with fail
        refine (drawDrawArrowBoard_any a1 n1 p1 _ HN1.out (HY1.out.kept HB.out)).mono ?_
        rintro e z1 ⟨N, rfl, hb⟩
        replace HB := Lib.hid (below_on HB.out hb)
        obtain ⟨r3, c3, xs3, ok3, hA⟩ : ∃ r c xs ok, aboveB N = ⟨r, c, xs, ok⟩ := ⟨_, _, _, _, rfl⟩
        have HA := Lib.hid hA
        have hal := aboveB_len N
        rw [hA] at hal
        have HAL := Lib.hid (show xs3.length ≤ 1048576 from hal)
        clear hb hA hal
        go_wp2_with fail
        refine (ansB_at (implArrow_any N _) HA.out).mono ?_
        rintro e z2 ⟨s3, rfl, hO, hb⟩
        obtain ⟨q3, c3', rfl, _⟩ := hO.reads
        have HK0 := Lib.hid ((((Law.start w).kept HB.out).own hb hO).box (.int .i64 r3) (.int .i64 c3) (.slice q3 xs3.length c3') 28)
        clear hO hb HB
        go_wp2_with fail
        refine (ansB_at (specArrow_any N _) HA.out).mono ?_
        rintro e z3 ⟨s4, rfl, hO, hb⟩
        obtain ⟨q4, c4', rfl, _⟩ := hO.reads
        have HK1 := Lib.hid ((HK0.out.own hb hO).box (.int .i64 r3) (.int .i64 c3) (.slice q4 xs3.length c4') 28)
        clear hO hb HK0
        have ⟨_, u0, u0', u0'', _⟩ := (HK1.out.tl.tl).ownBox
        have ⟨_, u1, u1', u1'', _⟩ := (HK1.out).ownBox
        have hr0 := (own_rdY (HK1.out.tl.tl.tl).ownInts).2
        have hr1 := (own_rdY (HK1.out.tl).ownInts).2
        have HRR := Lib.hid (And.intro hr0 hr1)
        have hd3 : (ok3 != ok3) = false := by simp
        clear hr0 hr1
        go_wp2_with fail
        refine (kBoard_same r3 c3 q3 q4 xs3.length c3' c4' xs3 _ HAL.out HRR.out.1 HRR.out.2).mono ?_
        rintro e z4 ⟨rfl, hb⟩
        have HK2 := Lib.hid (HK1.out.kept hb)
        clear hb HK1 HRR hd3 u0 u0' u0'' u1 u1' u1''
        cases ok3
        · have HB := Lib.hid HK2.out.below
          clear HK2 HA HAL
          go_wp2_with fail
          refine (drawDrawIsFilePlacement_any a1 n1 p1 _ HN1.out (HY1.out.kept HB.out)).mono ?_
          rintro e t1 ⟨r4, c4, g4, len4, cap4, xs4, v4, F4, rfl, hl, _, h7, hF, hO, hO2, hb⟩
          unfold bdV
          subst hl
          have HXL4 := Lib.hid (show xs4.length ≤ 1048576 by omega)
          have HFL4 := Lib.hid (show F4.length ≤ 1048576 by omega)
          have HB1 := below_on HB.out hb
          have HM4 := Lib.hid (((Law.start w).kept HB1).box (.int .i64 r4) (.int .i64 c4) (.slice (some ⟨g4, 0, none⟩) xs4.length cap4) 28)
          have HO4 := Lib.hid (hO.kept (below_new (.cells #[.int .i64 r4, .int .i64 c4, .slice (some ⟨g4, 0, none⟩) xs4.length cap4] 28)))
          have HO5 := Lib.hid (hO2.kept (below_new (.cells #[.int .i64 r4, .int .i64 c4, .slice (some ⟨g4, 0, none⟩) xs4.length cap4] 28)))
          obtain ⟨b4, ok4, hP⟩ : ∃ b ok, isFilB r4 c4 xs4 F4 = ⟨b, ok⟩ := ⟨_, _, rfl⟩
          have HP := Lib.hid hP
          clear hb hO hO2 hP h7 hF HB1 HB
          have ⟨_, u0, u1, u2, _⟩ := HM4.out.ownBox
          go_wp2_with fail
          refine (ansOO_at (implIsFil_any r4 c4 xs4 F4 _ HXL4.out HFL4.out _ _ _ _ HO4.out HO5.out) HP.out).mono ?_
          rintro e t2 ⟨rfl, hb⟩
          have HM5 := Lib.hid (HM4.out.kept hb)
          replace HO4 := Lib.hid (HO4.out.kept hb)
          replace HO5 := Lib.hid (HO5.out.kept hb)
          clear hb HM4 u0 u1 u2
          have ⟨_, u0, u1, u2, _⟩ := HM5.out.ownBox
          go_wp2_with fail
          refine (ansOO_at (specIsFil_any r4 c4 xs4 F4 _ HXL4.out HFL4.out _ _ _ _ HO4.out HO5.out) HP.out).mono ?_
          rintro e t3 ⟨rfl, hb⟩
          have HBE := Lib.hid (HM5.out.kept hb).below
          clear hb HM5 u0 u1 u2 HO4 HO5
          have hd5 : (ok4 == ok4) = true := by simp
          have hd6 : (b4 == b4) = true := by simp
          go_wp2_with fail
          go_ret
          exact ⟨by simp, HBE.out⟩
        · obtain ⟨u, hu, hu1, hu6, hr, hc, hxs⟩ := arrow_yes HA.out
          subst hu
          subst hr
          subst hc
          obtain ⟨RL, hRL⟩ : ∃ l, l = lstH (u + 1) (fun k => (triF 0 u (u - k) : Nat)) := ⟨_, rfl⟩
          obtain ⟨FL, hFL⟩ : ∃ l, l = lstH (u + 1) (fun k => (triF 1 u (u - k) : Nat)) := ⟨_, rfl⟩
          have HRK := Lib.hid (show numB u u xs3 = ⟨RL, true⟩ by rw [hxs, hRL]; exact arrow_rooks u hu1 hu6)
          have HFI := Lib.hid (show filR u u xs3 = ⟨FL, true⟩ by rw [hxs, hFL]; exact arrow_files u hu1 hu6)
          have HRG := Lib.hid (show ∀ k : Nat, k ≤ u → RL.getD k 0 = (triF 0 u (u - k) : Nat) by rw [hRL]; exact lstH_get1 u _)
          have HFG := Lib.hid (show ∀ k : Nat, k ≤ u → FL.getD k 0 = (triF 1 u (u - k) : Nat) by rw [hFL]; exact lstH_get1 u _)
          have HRN := Lib.hid (show RL.length = u + 1 by rw [hRL, lstH_len])
          have HFN := Lib.hid (show FL.length = u + 1 by rw [hFL, lstH_len])
          clear hRL hFL hxs HA
          have ⟨_, u0, u0', u0'', _⟩ := (HK2.out.tl.tl).ownBox
          go_wp2_with fail
          refine (ansL_at (implNumbers_any u u xs3 _ HAL.out _ _ (HK2.out.tl.tl.tl).ownInts) HRK.out).mono ?_
          rintro e z5 ⟨s5, rfl, hO, hb⟩
          rcases hO.cases with ⟨_, h0⟩ | ⟨g5, c5, rfl, _, _, _, _⟩
          · have := HRN.out
            rw [h0] at this
            simp at this
          have HK3 := Lib.hid (HK2.out.own hb hO)
          clear hO hb HK2 u0 u0' u0''
          have ⟨_, u0, u0', u0'', _⟩ := (HK3.out.tl.tl.tl).ownBox
          go_wp2_with fail
          refine (ansL_at (implFileN_any u u xs3 _ HAL.out _ _ (HK3.out.tl.tl.tl.tl).ownInts) HFI.out).mono ?_
          rintro e z6 ⟨s6, rfl, hO, hb⟩
          rcases hO.cases with ⟨_, h0⟩ | ⟨g6, c6, rfl, _, _, _, _⟩
          · have := HFN.out
            rw [h0] at this
            simp at this
          have HK4 := Lib.hid (HK3.out.own hb hO)
          clear hO hb HK3 u0 u0' u0'' HRK HFI
          go_wp2_with fail
          go_loopw [30] (fun i wr => ∃ k : Nat, k ≤ u + 1 ∧ i = .int .i64 k ∧ Law w [tOwn (.slice (some ⟨g6, 0, none⟩) FL.length c6) FL, tOwn (.slice (some ⟨g5, 0, none⟩) RL.length c5) RL] wr) (fun i _ => u + 1 - (intOf i).toNat)
          case atStart => exact ⟨0, Nat.zero_le _, rfl, Law.first2 HK4.out⟩
          case round =>
            clear HK4
            obtain ⟨k, hk, rfl, L⟩ := hrel
            have HK5 := Lib.hid L
            clear L
            by_cases hku : k ≤ u
            · have hkI : (k : Int) ≤ u := by omega
              have hsub : IntKind.i64.wrap ((u : Int) - k) = u - k := IntWalk.i64_in _ (by omega)
              have HT0 := Lib.hid (tri_yes 0 u k hu6 hku)
              have HT1 := Lib.hid (tri_yes 1 u k hu6 hku)
              have HG0 := Lib.hid (HRG.out k hku)
              have HG1 := Lib.hid (HFG.out k hku)
              generalize ((triF 0 u (u - k) : Nat) : Int) = za at HT0 HG0
              generalize ((triF 1 u (u - k) : Nat) : Int) = zb at HT1 HG1
              go_wp2_with fail
              refine (ansIO_at (implStirlingSecond_any _ _ _) HT0.out).mono ?_
              rintro e y1 ⟨rfl, hb⟩
              have HK6 := Lib.hid (HK5.out.kept hb)
              clear hb HK5
              go_wp2_with fail
              refine (ansIO_at (implStirlingFirst_any _ _ _) HT1.out).mono ?_
              rintro e y2 ⟨rfl, hb⟩
              have HK7 := Lib.hid (HK6.out.kept hb)
              clear hb HK6
              have f1 := Own.cell (HK7.out.ownInts) k (by have := HFN.out; omega)
              have f2 := Own.cell (HK7.out.tl.ownInts) k (by have := HRN.out; omega)
              rw [HG1.out] at f1
              rw [HG0.out] at f2
              have hda : (za != za) = false := by simp
              have hdb : (zb != zb) = false := by simp
              have hk0 : (0 : Int) ≤ k := by omega
              have hkf : (k : Int) < FL.length := by have := HFN.out; omega
              have hkr : (k : Int) < RL.length := by have := HRN.out; omega
              go_wp2_with fail
              go_roundw
              case rel => exact ⟨k + 1, by omega, by go_num, HK7.out⟩
              case measure => simp [intOf]; omega
            · have hkI : ¬ (k : Int) ≤ u := by omega
              have HB := Lib.hid HK5.out.below
              clear HK5 HRN HFN HRG HFG HAL
              go_wp2_with fail
              refine (drawDrawIsFilePlacement_any a1 n1 p1 _ HN1.out (HY1.out.kept HB.out)).mono ?_
              rintro e t1 ⟨r4, c4, g4, len4, cap4, xs4, v4, F4, rfl, hl, _, h7, hF, hO, hO2, hb⟩
              unfold bdV
              subst hl
              have HXL4 := Lib.hid (show xs4.length ≤ 1048576 by omega)
              have HFL4 := Lib.hid (show F4.length ≤ 1048576 by omega)
              have HB1 := below_on HB.out hb
              have HM4 := Lib.hid (((Law.start w).kept HB1).box (.int .i64 r4) (.int .i64 c4) (.slice (some ⟨g4, 0, none⟩) xs4.length cap4) 28)
              have HO4 := Lib.hid (hO.kept (below_new (.cells #[.int .i64 r4, .int .i64 c4, .slice (some ⟨g4, 0, none⟩) xs4.length cap4] 28)))
              have HO5 := Lib.hid (hO2.kept (below_new (.cells #[.int .i64 r4, .int .i64 c4, .slice (some ⟨g4, 0, none⟩) xs4.length cap4] 28)))
              obtain ⟨b4, ok4, hP⟩ : ∃ b ok, isFilB r4 c4 xs4 F4 = ⟨b, ok⟩ := ⟨_, _, rfl⟩
              have HP := Lib.hid hP
              clear hb hO hO2 hP h7 hF HB1 HB
              have ⟨_, u0, u1, u2, _⟩ := HM4.out.ownBox
              go_wp2_with fail
              refine (ansOO_at (implIsFil_any r4 c4 xs4 F4 _ HXL4.out HFL4.out _ _ _ _ HO4.out HO5.out) HP.out).mono ?_
              rintro e t2 ⟨rfl, hb⟩
              have HM5 := Lib.hid (HM4.out.kept hb)
              replace HO4 := Lib.hid (HO4.out.kept hb)
              replace HO5 := Lib.hid (HO5.out.kept hb)
              clear hb HM4 u0 u1 u2
              have ⟨_, u0, u1, u2, _⟩ := HM5.out.ownBox
              go_wp2_with fail
              refine (ansOO_at (specIsFil_any r4 c4 xs4 F4 _ HXL4.out HFL4.out _ _ _ _ HO4.out HO5.out) HP.out).mono ?_
              rintro e t3 ⟨rfl, hb⟩
              have HBE := Lib.hid (HM5.out.kept hb).below
              clear hb HM5 u0 u1 u2 HO4 HO5
              have hd5 : (ok4 == ok4) = true := by simp
              have hd6 : (b4 == b4) = true := by simp
              go_wp2_with fail
              go_ret
              exact ⟨by simp, HBE.out⟩

set_option maxRecDepth 100000 in
set_option maxHeartbeats 1600000 in
theorem walk_big (a0 a1 : Option Addr) (n0 p0 n1 p1 : Nat) (w : World) (hm0 : n0 ≤ 9223372036854775807) (hm1 : n1 ≤ 9223372036854775807) (h : ¬ (n0 ≤ 1048576 ∧ n1 ≤ 1048576 - n0)) :
    Calls Try.prog 5 #[.slice a0 n0 p0, .slice a1 n1 p1] w fun e w' => e = .returned (.bool true) ∧ Below w.heap.size w w' := by
  have HBIG := Lib.hid (big_yes a0 a1 n0 p0 n1 p1 w hm0 hm1 h)
  clear h
  go_enter Try.func5, Try.ntmps5
  go_wp2_with fail
  refine HBIG.out.mono ?_
  rintro e w' ⟨rfl, hw⟩
  subst w'
  go_wp2_with fail
  go_ret
  exact ⟨rfl, Below.refl _ _⟩

theorem walk_all (a0 a1 : Option Addr) (n0 p0 n1 p1 : Nat) (w : World) (hm0 : n0 ≤ 9223372036854775807) (hm1 : n1 ≤ 9223372036854775807) (hy0 : ReadsY w a0 n0) (hy1 : ReadsY w a1 n1) :
    Calls Try.prog 5 #[.slice a0 n0 p0, .slice a1 n1 p1] w fun e w' => e = .returned (.bool true) ∧ Below w.heap.size w w' := by
  by_cases h : n0 ≤ 1048576 ∧ n1 ≤ 1048576 - n0
  · exact walk a0 a1 n0 p0 n1 p1 w h.1 h.2 hy0 hy1
  · exact walk_big a0 a1 n0 p0 n1 p1 w hm0 hm1 h

set_option maxRecDepth 100000 in
theorem contract (H : Type) (enc : TypeId × Value → H) (W : World) (base : Nat) (args : Array Value) (ds gs : List (DataW H)) (before : List MemPlace)
    (hval : ∀ (j : Nat) t v, Try.f5.params[j]? = some t → args[j]? = some v → Value.okWide Try.prog W .any base t v)
    (hW : DataW.Whole enc Try.prog Try.f5.params.toList Rows.fnFilesCountedSpec.vars false W args.toList ds gs before) :
    Calls Try.prog 5 args W fun e W' => ∃ v, e = .returned v ∧ Rows.fnFilesCountedSpec.post enc Try.prog Try.f5 false true false false W args v W' := by
  have hW' := hW
  obtain ⟨p, q, hA0, hV, rfl, hfz, hnd⟩ := hW
  have hA : DataW.TrodAll enc Try.prog W 0 (fun _ => true) true Try.f5.params.toList args.toList ds p := hA0
  rw [Try.params5] at hA hval
  obtain ⟨v0, v1, d0, d1, p0, p1, rfl, rfl, rfl, h0, h1⟩ := trodAll_two hA
  obtain ⟨rfl, rfl⟩ := trodVars_none hV
  clear hA0
  simp only [List.append_nil] at hW'
  have hlt : ∀ x ∈ p0 ++ p1, x.block < W.heap.size := fun x hx => by have := hW'.lt x (by simpa using hx); simpa using this
  have hc1 : Try.prog.cellsOf 5 = 1 := by kernel_rfl
  have t0 := h0
  obtain ⟨a0, n0, c0, rfl⟩ := okWide_slice Try.underlying38 (hval 0 38 v0 rfl rfl)
  obtain ⟨fu0, hf0⟩ := h0
  obtain ⟨m0, y0⟩ := readsY_of hc1 (by simpa [Value.cells] using hf0)
  have t1 := h1
  obtain ⟨a1, n1, c1, rfl⟩ := okWide_slice Try.underlying38 (hval 1 38 v1 rfl rfl)
  obtain ⟨fu1, hf1⟩ := h1
  obtain ⟨m1, y1⟩ := readsY_of hc1 (by simpa [Value.cells] using hf1)
  refine (walk_all a0 a1 n0 c0 n1 c1 W m0 m1 y0 y1).mono ?_
  rintro e W' ⟨rfl, hb⟩
  exact ⟨_, rfl, _, _, _, [], _, [], hW', trodAll_mk1 (shut_bool Try.underlying4 _), trodAll_mk2 (Below.trod Try.laidOut (by kernel_rfl) (of_decide_eq_true (by kernel_rfl)) t0 hb (fun x hx => hlt x (by simp [hx]))) (Below.trod Try.laidOut (by kernel_rfl) (of_decide_eq_true (by kernel_rfl)) t1 hb (fun x hx => hlt x (by simp [hx]))), rfl, hb.frame _, fun h => by cases h⟩

set_option maxRecDepth 100000 in
theorem lifted (os : Os) (started : os.Started) (H : Type) (enc : TypeId × Value → H) :
    ReturnsInHanded {} Try.checked os 5 .any (Rows.fnFilesCountedSpec.pre6 enc Try.prog Try.f5 Rows.fnFilesCountedRow.domain false) (Rows.fnFilesCountedSpec.post enc Try.prog Try.f5 false true false false) := by
  refine returnsInHanded_of_change (C := Try.checked) Try.own started (by kernel_rfl) Try.func5
    (ChangeSpec.witness6 (enc := enc) (C := Try.checked) false ⟨#[], #[.slice none 0 0, .slice none 0 0], []⟩ 8 (by kernel_rfl) (by kernel_rfl) (by kernel_rfl) (by kernel_rfl)) ?_
  intro W base args ds gs before hval hW _ _
  exact contract H enc W base args ds gs before hval hW

theorem holds : Rows.FnFilesCountedSaid :=
  OpenClaim.holds_of_wide 5 Try.f5 rfl rfl rfl rfl rfl rfl rfl ⟨rfl, rfl, rfl, rfl, rfl⟩ rfl rfl rfl rfl rfl (by kernel_rfl) Try.func5 (by kernel_rfl)
    (of_decide_eq_true (by kernel_rfl)) (by unfold Func.isWrapper; first | (rw [if_pos (by decide +kernel)]; kernel_rfl) | (rw [if_neg (by decide +kernel)]; exact ⟨rfl, rfl⟩))
    (fun os started H enc _ => lifted os started H enc)

#print axioms holds
end Go.Proofs.Ytakdiiccdkjjcac.lFilesCounted
