/- 'FnPolynomialsOfRooks' answers true for every input, and leaves it as it was. No condition. -/
import Derived.Test.YthiddoaefhmpaaaYi
import Derived.Test.YthiddoaefhmpaaaYj
import Derived.Test.YthiddoaefhmpaaaOpen
import Derived.Deep.RegionWith
namespace Go.Proofs.Ythiddoaefhmpaaa.lPolynomialsOfRooks
open Go.ChangeShapes Go.WideShapes Go.ChangeAt Go.RowKit Go.Joins

set_option maxRecDepth 100000 in
theorem big_no (a0 a1 : Option Addr) (n0 p0 n1 p1 : Nat) (w : World) (h0 : n0 ≤ 1048576) (h1 : n1 ≤ 1048576 - n0) : Calls Try.prog 4 #[.slice a0 n0 p0, .slice a1 n1 p1] w fun e w' => e = .returned (.bool false) ∧ w' = w := by
  have i0 : ¬ (1048576 : Int) < n0 := by omega
  have i1 : ¬ (1048576 : Int) - n0 < n1 := by omega
  have i2 : IntKind.i64.wrap ((1048576 : Int) - n0) = 1048576 - n0 := IntWalk.i64_in _ (by omega)
  go_enter Try.func4, Try.ntmps4
  go_wp2_with fail
  go_ret
  exact ⟨rfl, rfl⟩
set_option maxRecDepth 100000 in
theorem big_yes (a0 a1 : Option Addr) (n0 p0 n1 p1 : Nat) (w : World) (hm0 : n0 ≤ 9223372036854775807) (_hm1 : n1 ≤ 9223372036854775807) (h : ¬ (n0 ≤ 1048576 ∧ n1 ≤ 1048576 - n0)) : Calls Try.prog 4 #[.slice a0 n0 p0, .slice a1 n1 p1] w fun e w' => e = .returned (.bool true) ∧ w' = w := by
  by_cases h0 : n0 ≤ 1048576
  · have i0 : ¬ (1048576 : Int) < n0 := by omega
    have i1 : (1048576 : Int) - n0 < n1 := by omega
    have i2 : IntKind.i64.wrap ((1048576 : Int) - n0) = 1048576 - n0 := IntWalk.i64_in _ (by omega)
    go_enter Try.func4, Try.ntmps4
    go_wp2_with fail
    go_ret
    exact ⟨rfl, rfl⟩
  · have i0 : (1048576 : Int) < n0 := by omega
    clear h
    go_enter Try.func4, Try.ntmps4
    go_wp2_with fail
    go_ret
    exact ⟨rfl, rfl⟩


theorem own_rdY {w : World} {lo n p : Nat} {a : Option Addr} {xs : List Int} (h : Own w lo (.slice a n p) xs) : n = xs.length ∧ Reads w a n xs := by
  obtain ⟨a', q, e, hr⟩ := h.reads
  injection e with e1 e2 e3
  subst e1
  subst e2
  exact ⟨rfl, hr⟩
theorem ansB_at {P : Program} {f : FuncId} {args : Array Value} {w : World} {R : BR} {r c : Int} {xs : List Int} {ok : Bool} (h : Calls P f args w (AnsB R w)) (e : R = ⟨r, c, xs, ok⟩) : Calls P f args w fun e w' => ∃ s, e = .returned (.tuple #[.agg #[.int .i64 r, .int .i64 c, s], .bool ok]) ∧ Own w' w.heap.size s xs ∧ Below w.heap.size w w' := by
  subst e; exact h
theorem ansIO_at {P : Program} {f : FuncId} {args : Array Value} {w : World} {R : R1} {y : Int} {ok : Bool} (h : Calls P f args w (AnsIO R w)) (e : R = ⟨y, ok⟩) : Calls P f args w fun e w' => e = .returned (.tuple #[.int .i64 y, .bool ok]) ∧ Below w.heap.size w w' := by
  subst e; exact h
theorem ansL_at {P : Program} {f : FuncId} {args : Array Value} {w : World} {R : LR} {ys : List Int} {ok : Bool} (h : Calls P f args w (AnsL R w)) (e : R = ⟨ys, ok⟩) : Calls P f args w fun e w' => ∃ s, e = .returned (.tuple #[s, .bool ok]) ∧ Own w' w.heap.size s ys ∧ Below w.heap.size w w' := by
  subst e; exact h
theorem _root_.Go.Proofs.Ythiddoaefhmpaaa.Law.subL {w0 w : World} {ts ts' : List Thing} (h : Law w0 ts w) (hs : List.Sublist ts' ts) : Law w0 ts' w :=
  ⟨h.below, fun t ht => h.holds t (hs.subset ht), fun t ht => h.range t (hs.subset ht), h.dis.sublist hs⟩
set_option maxRecDepth 100000 in
set_option maxHeartbeats 40000000 in
theorem walk (a0 a1 : Option Addr) (n0 p0 n1 p1 : Nat) (w : World) (h0 : n0 ≤ 1048576) (h1 : n1 ≤ 1048576 - n0) (hy0 : ReadsY w a0 n0) (hy1 : ReadsY w a1 n1) :
    Calls Try.prog 3 #[.slice a0 n0 p0, .slice a1 n1 p1] w fun e w' => e = .returned (.bool true) ∧ Below w.heap.size w w' := by
  have HBIG := Lib.hid (big_no a0 a1 n0 p0 n1 p1 w h0 h1)
  have HY0 := Lib.hid hy0
  have HY1 := Lib.hid hy1
  have HN0 := Lib.hid (show n0 ≤ 4611686018427387904 by omega)
  have HN1 := Lib.hid (show n1 ≤ 4611686018427387904 by omega)
  have HL0 := Lib.hid (Law.start w)
  clear hy0 hy1 h0 h1
  go_enter Try.func3, Try.ntmps3
  go_wp2_with fail
  refine HBIG.out.mono ?_
  rintro e w' ⟨rfl, hw⟩
  subst w'
  clear HBIG
  go_wp2_with fail
  refine (drawDrawFactorialAt_any a0 n0 p0 _ HN0.out (HY0.out.kept HL0.out.below)).mono ?_
  rintro e w1 ⟨x1, r1, c1, g1, len1, cap1, xs1, rfl, hl, _, h7, hO, hb⟩
  unfold bdV
  subst hl
  have HX1 := Lib.hid (show xs1.length ≤ 1048576 by omega)
  have HL1 := Lib.hid ((HL0.out.own hb hO).box (.int .i64 r1) (.int .i64 c1) (.slice (some ⟨g1, 0, none⟩) xs1.length cap1) 26)
  clear HL0 hb hO h7
  obtain ⟨y1, ok1, hV⟩ : ∃ y ok, factB r1 c1 xs1 x1 = ⟨y, ok⟩ := ⟨_, _, rfl⟩
  have HV1 := Lib.hid hV
  clear hV
  have ⟨_, u0, u1, u2, _⟩ := (HL1.out).ownBox
  go_wp2_with fail
  refine (ansIO_at (implFact_any r1 c1 xs1 x1 _ HX1.out _ _ (HL1.out.tl).ownInts) HV1.out).mono ?_
  rintro e w2 ⟨rfl, hb⟩
  have HL2 := Lib.hid (HL1.out.kept hb)
  clear hb HL1 u0 u1 u2
  have ⟨_, u0, u1, u2, _⟩ := (HL2.out).ownBox
  go_wp2_with fail
  refine (ansIO_at (specFact_any r1 c1 xs1 x1 _ HX1.out _ _ (HL2.out.tl).ownInts) HV1.out).mono ?_
  rintro e w3 ⟨rfl, hb⟩
  have HL3 := Lib.hid (HL2.out.kept hb)
  clear hb HL2 u0 u1 u2
  have hd1 : (ok1 != ok1) = false := by simp
  have hd2 : (y1 != y1) = false := by simp
  go_wp2_with fail
  refine (drawDrawRookPolynomialAt_any a1 n1 p1 _ HN1.out (HY1.out.kept HL3.out.below)).mono ?_
  rintro e w4 ⟨x2, r2, c2, g2, len2, cap2, xs2, rfl, hl, _, h7, hO, hb⟩
  unfold bdV
  subst hl
  have HX2 := Lib.hid (show xs2.length ≤ 1048576 by omega)
  have HL4 := Lib.hid ((HL3.out.own hb hO).box (.int .i64 r2) (.int .i64 c2) (.slice (some ⟨g2, 0, none⟩) xs2.length cap2) 26)
  clear HL3 hb hO h7
  clear hd1 hd2
  obtain ⟨y2, ok2, hV⟩ : ∃ y ok, polyB r2 c2 xs2 x2 = ⟨y, ok⟩ := ⟨_, _, rfl⟩
  have HV2 := Lib.hid hV
  clear hV
  have ⟨_, u0, u1, u2, _⟩ := (HL4.out).ownBox
  go_wp2_with fail
  refine (ansIO_at (implPoly_any r2 c2 xs2 x2 _ HX2.out _ _ (HL4.out.tl).ownInts) HV2.out).mono ?_
  rintro e w5 ⟨rfl, hb⟩
  have HL5 := Lib.hid (HL4.out.kept hb)
  clear hb HL4 u0 u1 u2
  have ⟨_, u0, u1, u2, _⟩ := (HL5.out).ownBox
  go_wp2_with fail
  refine (ansIO_at (specPoly_any r2 c2 xs2 x2 _ HX2.out _ _ (HL5.out.tl).ownInts) HV2.out).mono ?_
  rintro e w6 ⟨rfl, hb⟩
  have HL6 := Lib.hid (HL5.out.kept hb)
  clear hb HL5 u0 u1 u2
  have hd1 : (ok2 != ok2) = false := by simp
  have hd2 : (y2 != y2) = false := by simp
  cases ok2
  · clear HV2
    go_wp2_with fail
    clear hd1 hd2
    refine (drawDrawPermanentOf_any a1 n1 p1 _ HN1.out (HY1.out.kept HL6.out.below)).mono ?_
    rintro e w7 ⟨r4, c4, g4, len4, cap4, xs4, rfl, hl, _, h7, hO, hb⟩
    unfold bdV
    subst hl
    have HX4 := Lib.hid (show xs4.length ≤ 1048576 by omega)
    have HL7 := Lib.hid ((HL6.out.own hb hO).box (.int .i64 r4) (.int .i64 c4) (.slice (some ⟨g4, 0, none⟩) xs4.length cap4) 26)
    clear HL6 hb hO h7
    obtain ⟨y4, ok4, hV⟩ : ∃ y ok, permB r4 c4 xs4 = ⟨y, ok⟩ := ⟨_, _, rfl⟩
    have HV4 := Lib.hid hV
    clear hV
    have ⟨_, u0, u1, u2, _⟩ := (HL7.out).ownBox
    go_wp2_with fail
    refine (ansIO_at (implPerm_any r4 c4 xs4 _ HX4.out _ _ (HL7.out.tl).ownInts) HV4.out).mono ?_
    rintro e w8 ⟨rfl, hb⟩
    have HL8 := Lib.hid (HL7.out.kept hb)
    clear hb HL7 u0 u1 u2
    have ⟨_, u0, u1, u2, _⟩ := (HL8.out).ownBox
    go_wp2_with fail
    refine (ansIO_at (specPerm_any r4 c4 xs4 _ HX4.out _ _ (HL8.out.tl).ownInts) HV4.out).mono ?_
    rintro e w9 ⟨rfl, hb⟩
    have HL9 := Lib.hid (HL8.out.kept hb)
    clear hb HL8 u0 u1 u2
    have hd1 : (ok4 != ok4) = false := by simp
    have hd2 : (y4 != y4) = false := by simp
    cases ok4
    · cases ok1
      · have HB := Lib.hid HL9.out.below
        clear HL9
        go_wp2_with fail
        go_ret
        exact ⟨rfl, HB.out⟩
      · obtain ⟨nn, ys1, hn1, hn6, hr, hc, hyl, hnb, hax, hyv, hst⟩ := fact_yes HV1.out
        have hr1 := hr
        have hc1 := hc
        subst hr1
        subst hc1
        have HNB := Lib.hid hnb
        have HYL := Lib.hid hyl
        have HAX := Lib.hid hax
        have HYV := Lib.hid hyv
        have HST := Lib.hid hst
        clear hr hc hyl hnb hax hyv hst HV1
        have ⟨_, u0, u1, u2, _⟩ := (HL9.out.tl.tl.tl.tl).ownBox
        go_wp2_with fail
        refine (ansL_at (implNumbers_any nn nn xs1 _ HX1.out _ _ (HL9.out.tl.tl.tl.tl.tl).ownInts) HNB.out).mono ?_
        rintro e w10 ⟨s9, rfl, hO, hb⟩
        rcases hO.cases with ⟨_, h0⟩ | ⟨g9, c9, rfl, _, _, _, _⟩
        · have := HYL.out
          rw [h0] at this
          simp at this
        have HL10 := Lib.hid (HL9.out.own hb hO)
        clear hO hb HL9 u0 u1 u2
        go_wp2_with fail
        go_loopw [30, 158] (fun sm i wr => ∃ k : Nat, k ≤ nn + 1 ∧ i = .int .i64 k ∧ sm = .int .i64 (sumT (falI ys1 x1 nn) k) ∧ Law w [tOwn (.slice (some ⟨g9, 0, none⟩) ys1.length c9) ys1, tBox w1.heap.size (.int .i64 nn) (.int .i64 nn) (.slice (some ⟨g1, 0, none⟩) xs1.length cap1)] wr) (fun _ i _ => nn + 1 - (intOf i).toNat)
        case atStart => exact ⟨0, Nat.zero_le _, rfl, rfl, Law.subL HL10.out (.cons_cons _ (.cons _ (.cons _ (.cons _ (.cons _ (.cons_cons _ (.cons _ List.Sublist.slnil)))))))⟩
        case round =>
          clear HL10
          obtain ⟨k, hk, rfl, rfl, L⟩ := hrel
          have HK1 := Lib.hid L
          clear L
          by_cases hkn : k < nn + 1
          · have hkI : (k : Int) < ys1.length := by have := HYL.out; omega
            have f1 := Own.cell (HK1.out.ownInts) k (by have := HYL.out; omega)
            have ⟨_, u0, u1, u2, _⟩ := HK1.out.tl.ownBox
            have hk0 : (0 : Int) ≤ k := by omega
            have hsub : IntKind.i64.wrap ((nn : Int) - k) = nn - k := IntWalk.i64_in _ (by omega)
            obtain ⟨st1, st2⟩ := HST.out k (by omega)
            obtain ⟨vk, hvk⟩ : ∃ v, v = ys1.getD k 0 := ⟨_, rfl⟩
            rw [← hvk] at f1 st1
            have HS12 := Lib.hid (And.intro st1 st2)
            clear hvk
            clear st1 st2
            go_wp2_with fail
            go_loopw [33, 34] (fun fl i wr => ∃ j : Nat, j ≤ nn - k ∧ i = .int .i64 j ∧ fl = .int .i64 (fal x1 j) ∧ Law w [tOwn (.slice (some ⟨g9, 0, none⟩) ys1.length c9) ys1, tBox w1.heap.size (.int .i64 nn) (.int .i64 nn) (.slice (some ⟨g1, 0, none⟩) xs1.length cap1)] wr) (fun _ i _ => nn - k - (intOf i).toNat)
            case atStart => exact ⟨0, Nat.zero_le _, rfl, rfl, HK1.out⟩
            case round =>
              clear HK1 u0 u1 u2 f1
              obtain ⟨j, hj, rfl, rfl, L⟩ := hrel
              have HK2 := Lib.hid L
              clear L
              have ⟨_, u0, u1, u2, _⟩ := HK2.out.tl.ownBox
              by_cases hjn : j < nn - k
              · have hjI : (j : Int) < (nn : Int) - k := by omega
                have hax := HAX.out
                have hfw := fal_wrap x1 hax j (by omega)
                have HFW := Lib.hid hfw
                have hxj : IntKind.i64.wrap (x1 - j) = x1 - j := by
                  unfold Abs at hax
                  exact IntWalk.i64_in _ (by omega)
                clear hfw hax
                go_wp2_with fail
                go_roundw
                case rel => exact ⟨j + 1, by omega, by go_num, by first | rfl | rw [HFW.out], HK2.out⟩
                case measure => simp [intOf]; omega
              · have hjI : ¬ (j : Int) < (nn : Int) - k := by omega
                have hje : j = nn - k := by omega
                subst hje
                go_wp2_with fail
                go_roundw
                case rel => exact ⟨k + 1, by omega, by go_num, by rw [HS12.out.1, HS12.out.2], HK2.out⟩
                case measure => simp [intOf]; omega
          · obtain rfl : k = nn + 1 := by omega
            have hkI : ¬ ((nn + 1 : Nat) : Int) < ys1.length := by have := HYL.out; omega
            rw [← HYV.out]
            have HB := Lib.hid HK1.out.below
            have hyy : (y1 == y1) = true := by simp
            clear HK1 HYL HST HYV HAX HNB
            go_wp2_with fail
            go_ret
            exact ⟨by simp, HB.out⟩
    · have HZ4 := Lib.hid (perm_zero HV4.out)
      have ⟨_, u0, u1, u2, _⟩ := (HL9.out).ownBox
      go_wp2_with fail
      refine (ansIO_at (implFact_any r4 c4 xs4 0 _ HX4.out _ _ (HL9.out.tl).ownInts) HZ4.out).mono ?_
      rintro e w10 ⟨rfl, hb⟩
      have HL10 := Lib.hid (HL9.out.kept hb)
      clear hb HL9 u0 u1 u2
      clear HV4 HZ4
      cases ok1
      · have HB := Lib.hid HL10.out.below
        clear HL10
        go_wp2_with fail
        go_ret
        exact ⟨rfl, HB.out⟩
      · obtain ⟨nn, ys1, hn1, hn6, hr, hc, hyl, hnb, hax, hyv, hst⟩ := fact_yes HV1.out
        have hr1 := hr
        have hc1 := hc
        subst hr1
        subst hc1
        have HNB := Lib.hid hnb
        have HYL := Lib.hid hyl
        have HAX := Lib.hid hax
        have HYV := Lib.hid hyv
        have HST := Lib.hid hst
        clear hr hc hyl hnb hax hyv hst HV1
        have ⟨_, u0, u1, u2, _⟩ := (HL10.out.tl.tl.tl.tl).ownBox
        go_wp2_with fail
        refine (ansL_at (implNumbers_any nn nn xs1 _ HX1.out _ _ (HL10.out.tl.tl.tl.tl.tl).ownInts) HNB.out).mono ?_
        rintro e w11 ⟨s9, rfl, hO, hb⟩
        rcases hO.cases with ⟨_, h0⟩ | ⟨g9, c9, rfl, _, _, _, _⟩
        · have := HYL.out
          rw [h0] at this
          simp at this
        have HL11 := Lib.hid (HL10.out.own hb hO)
        clear hO hb HL10 u0 u1 u2
        go_wp2_with fail
        go_loopw [30, 158] (fun sm i wr => ∃ k : Nat, k ≤ nn + 1 ∧ i = .int .i64 k ∧ sm = .int .i64 (sumT (falI ys1 x1 nn) k) ∧ Law w [tOwn (.slice (some ⟨g9, 0, none⟩) ys1.length c9) ys1, tBox w1.heap.size (.int .i64 nn) (.int .i64 nn) (.slice (some ⟨g1, 0, none⟩) xs1.length cap1)] wr) (fun _ i _ => nn + 1 - (intOf i).toNat)
        case atStart => exact ⟨0, Nat.zero_le _, rfl, rfl, Law.subL HL11.out (.cons_cons _ (.cons _ (.cons _ (.cons _ (.cons _ (.cons_cons _ (.cons _ List.Sublist.slnil)))))))⟩
        case round =>
          clear HL11
          obtain ⟨k, hk, rfl, rfl, L⟩ := hrel
          have HK1 := Lib.hid L
          clear L
          by_cases hkn : k < nn + 1
          · have hkI : (k : Int) < ys1.length := by have := HYL.out; omega
            have f1 := Own.cell (HK1.out.ownInts) k (by have := HYL.out; omega)
            have ⟨_, u0, u1, u2, _⟩ := HK1.out.tl.ownBox
            have hk0 : (0 : Int) ≤ k := by omega
            have hsub : IntKind.i64.wrap ((nn : Int) - k) = nn - k := IntWalk.i64_in _ (by omega)
            obtain ⟨st1, st2⟩ := HST.out k (by omega)
            obtain ⟨vk, hvk⟩ : ∃ v, v = ys1.getD k 0 := ⟨_, rfl⟩
            rw [← hvk] at f1 st1
            have HS12 := Lib.hid (And.intro st1 st2)
            clear hvk
            clear st1 st2
            go_wp2_with fail
            go_loopw [33, 34] (fun fl i wr => ∃ j : Nat, j ≤ nn - k ∧ i = .int .i64 j ∧ fl = .int .i64 (fal x1 j) ∧ Law w [tOwn (.slice (some ⟨g9, 0, none⟩) ys1.length c9) ys1, tBox w1.heap.size (.int .i64 nn) (.int .i64 nn) (.slice (some ⟨g1, 0, none⟩) xs1.length cap1)] wr) (fun _ i _ => nn - k - (intOf i).toNat)
            case atStart => exact ⟨0, Nat.zero_le _, rfl, rfl, HK1.out⟩
            case round =>
              clear HK1 u0 u1 u2 f1
              obtain ⟨j, hj, rfl, rfl, L⟩ := hrel
              have HK2 := Lib.hid L
              clear L
              have ⟨_, u0, u1, u2, _⟩ := HK2.out.tl.ownBox
              by_cases hjn : j < nn - k
              · have hjI : (j : Int) < (nn : Int) - k := by omega
                have hax := HAX.out
                have hfw := fal_wrap x1 hax j (by omega)
                have HFW := Lib.hid hfw
                have hxj : IntKind.i64.wrap (x1 - j) = x1 - j := by
                  unfold Abs at hax
                  exact IntWalk.i64_in _ (by omega)
                clear hfw hax
                go_wp2_with fail
                go_roundw
                case rel => exact ⟨j + 1, by omega, by go_num, by first | rfl | rw [HFW.out], HK2.out⟩
                case measure => simp [intOf]; omega
              · have hjI : ¬ (j : Int) < (nn : Int) - k := by omega
                have hje : j = nn - k := by omega
                subst hje
                go_wp2_with fail
                go_roundw
                case rel => exact ⟨k + 1, by omega, by go_num, by rw [HS12.out.1, HS12.out.2], HK2.out⟩
                case measure => simp [intOf]; omega
          · obtain rfl : k = nn + 1 := by omega
            have hkI : ¬ ((nn + 1 : Nat) : Int) < ys1.length := by have := HYL.out; omega
            rw [← HYV.out]
            have HB := Lib.hid HK1.out.below
            have hyy : (y1 == y1) = true := by simp
            clear HK1 HYL HST HYV HAX HNB
            go_wp2_with fail
            go_ret
            exact ⟨by simp, HB.out⟩
  · obtain ⟨q2, ys2, hq6, hyl, hnb, hyv⟩ := sumP_yes HV2.out
    have HNB2 := Lib.hid hnb
    have HYL2 := Lib.hid hyl
    have HYV2 := Lib.hid hyv
    obtain ⟨F2, hF2⟩ : ∃ F : Nat → Int, F = fun t => ys2.getD (q2 - t) 0 := ⟨_, rfl⟩
    have HYF2 := Lib.hid (show ∀ (t j : Nat), (t : Int) + j = q2 → F2 t = ys2.getD j 0 from fun t j h => by rw [hF2]; show ys2.getD (q2 - t) 0 = _; rw [show q2 - t = j by omega])
    rw [← hF2] at HYV2
    clear hF2
    clear hnb hyv HV2
    have ⟨_, u0, u1, u2, _⟩ := (HL6.out).ownBox
    go_wp2_with fail
    refine (ansL_at (implNumbers_any r2 c2 xs2 _ HX2.out _ _ (HL6.out.tl).ownInts) HNB2.out).mono ?_
    rintro e w7 ⟨s8, rfl, hO, hb⟩
    rcases hO.cases with ⟨_, h0⟩ | ⟨g8, c8, rfl, _, _, _, _⟩
    · have := HYL2.out
      rw [h0] at this
      simp at this
    have HL7 := Lib.hid (HL6.out.own hb hO)
    clear hO hb HL6 u0 u1 u2
    clear hyl
    have hw1 : IntKind.i64.wrap ((ys2.length : Int) - 1) = q2 := by
      have := HYL2.out
      rw [IntWalk.i64_in _ (by omega)]
      omega
    go_wp2_with fail
    go_loopw [19, 20] (fun sm i wr => ∃ (t : Nat) (k : Int), Hid ((t : Int) + k = q2) ∧ t ≤ q2 + 1 ∧ i = .int .i64 k ∧ sm = .int .i64 (wrap64 (horD F2 x2 t)) ∧ Law w [tOwn (.slice (some ⟨g8, 0, none⟩) ys2.length c8) ys2, tBox w1.heap.size (.int .i64 r1) (.int .i64 c1) (.slice (some ⟨g1, 0, none⟩) xs1.length cap1), tOwn (.slice (some ⟨g1, 0, none⟩) xs1.length cap1) xs1] wr) (fun _ i _ => (intOf i + 1).toNat)
    case atStart => exact ⟨0, q2, Lib.hid (by omega), Nat.zero_le _, rfl, by rw [horD_nil F2 x2], Law.subL HL7.out (.cons_cons _ (.cons _ (.cons _ (.cons_cons _ (.cons_cons _ List.Sublist.slnil)))))⟩
    case round =>
      clear HL7 hw1
      obtain ⟨t, k, HT, ht, rfl, rfl, L⟩ := hrel
      have HK3 := Lib.hid L
      clear L
      by_cases hk0 : 0 ≤ k
      · obtain ⟨j, hj⟩ := Int.eq_ofNat_of_zero_le hk0
        subst hj
        have hjl : (j : Int) < ys2.length := by have := HYL2.out; have := HT.out; omega
        have f1 := Own.cell (HK3.out.ownInts) j (by omega)
        rw [← HYF2.out t j HT.out] at f1
        have HST := Lib.hid (horD_step F2 x2 t)
        have hdec : IntKind.i64.wrap ((j : Int) - 1) = j - 1 := IntWalk.i64_in _ (by have := HT.out; omega)
        have HT2 : Hid (((t + 1 : Nat) : Int) + ((j : Int) - 1) = q2) := Lib.hid (by have := HT.out; omega)
        have htb : t + 1 ≤ q2 + 1 := by have := HT.out; omega
        go_wp2_with fail
        go_roundw
        case rel => exact ⟨t + 1, (j : Int) - 1, HT2, htb, rfl, by first | (rw [← HST.out]; rfl) | (rw [← HST.out]), HK3.out⟩
        case measure => simp [intOf] <;> omega
      · have htq : t = q2 + 1 := by have := HT.out; omega
        subst htq
        rw [← HYV2.out]
        clear HYV2 HYF2 HYL2 HNB2
        go_wp2_with fail
        clear hd1 hd2
        refine (drawDrawPermanentOf_any a1 n1 p1 _ HN1.out (HY1.out.kept HK3.out.below)).mono ?_
        rintro e w51 ⟨r4, c4, g4, len4, cap4, xs4, rfl, hl, _, h7, hO, hb⟩
        unfold bdV
        subst hl
        have HX4 := Lib.hid (show xs4.length ≤ 1048576 by omega)
        have HL51 := Lib.hid ((HK3.out.own hb hO).box (.int .i64 r4) (.int .i64 c4) (.slice (some ⟨g4, 0, none⟩) xs4.length cap4) 26)
        clear HK3 hb hO h7
        obtain ⟨y4, ok4, hV⟩ : ∃ y ok, permB r4 c4 xs4 = ⟨y, ok⟩ := ⟨_, _, rfl⟩
        have HV4 := Lib.hid hV
        clear hV
        have ⟨_, u0, u1, u2, _⟩ := (HL51.out).ownBox
        go_wp2_with fail
        refine (ansIO_at (implPerm_any r4 c4 xs4 _ HX4.out _ _ (HL51.out.tl).ownInts) HV4.out).mono ?_
        rintro e w52 ⟨rfl, hb⟩
        have HL52 := Lib.hid (HL51.out.kept hb)
        clear hb HL51 u0 u1 u2
        have ⟨_, u0, u1, u2, _⟩ := (HL52.out).ownBox
        go_wp2_with fail
        refine (ansIO_at (specPerm_any r4 c4 xs4 _ HX4.out _ _ (HL52.out.tl).ownInts) HV4.out).mono ?_
        rintro e w53 ⟨rfl, hb⟩
        have HL53 := Lib.hid (HL52.out.kept hb)
        clear hb HL52 u0 u1 u2
        have hd1 : (ok4 != ok4) = false := by simp
        have hd2 : (y4 != y4) = false := by simp
        cases ok4
        · cases ok1
          · have HB := Lib.hid HL53.out.below
            clear HL53
            go_wp2_with fail
            go_ret
            exact ⟨rfl, HB.out⟩
          · obtain ⟨nn, ys1, hn1, hn6, hr, hc, hyl, hnb, hax, hyv, hst⟩ := fact_yes HV1.out
            have hr1 := hr
            have hc1 := hc
            subst hr1
            subst hc1
            have HNB := Lib.hid hnb
            have HYL := Lib.hid hyl
            have HAX := Lib.hid hax
            have HYV := Lib.hid hyv
            have HST := Lib.hid hst
            clear hr hc hyl hnb hax hyv hst HV1
            have ⟨_, u0, u1, u2, _⟩ := (HL53.out.tl.tl.tl).ownBox
            go_wp2_with fail
            refine (ansL_at (implNumbers_any nn nn xs1 _ HX1.out _ _ (HL53.out.tl.tl.tl.tl).ownInts) HNB.out).mono ?_
            rintro e w54 ⟨s9, rfl, hO, hb⟩
            rcases hO.cases with ⟨_, h0⟩ | ⟨g9, c9, rfl, _, _, _, _⟩
            · have := HYL.out
              rw [h0] at this
              simp at this
            have HL54 := Lib.hid (HL53.out.own hb hO)
            clear hO hb HL53 u0 u1 u2
            go_wp2_with fail
            go_loopw [30, 158] (fun sm i wr => ∃ k : Nat, k ≤ nn + 1 ∧ i = .int .i64 k ∧ sm = .int .i64 (sumT (falI ys1 x1 nn) k) ∧ Law w [tOwn (.slice (some ⟨g9, 0, none⟩) ys1.length c9) ys1, tBox w1.heap.size (.int .i64 nn) (.int .i64 nn) (.slice (some ⟨g1, 0, none⟩) xs1.length cap1)] wr) (fun _ i _ => nn + 1 - (intOf i).toNat)
            case atStart => exact ⟨0, Nat.zero_le _, rfl, rfl, Law.subL HL54.out (.cons_cons _ (.cons _ (.cons _ (.cons _ (.cons_cons _ (.cons _ List.Sublist.slnil))))))⟩
            case round =>
              clear HL54
              obtain ⟨k, hk, rfl, rfl, L⟩ := hrel
              have HK1 := Lib.hid L
              clear L
              by_cases hkn : k < nn + 1
              · have hkI : (k : Int) < ys1.length := by have := HYL.out; omega
                have f1 := Own.cell (HK1.out.ownInts) k (by have := HYL.out; omega)
                have ⟨_, u0, u1, u2, _⟩ := HK1.out.tl.ownBox
                have hk0 : (0 : Int) ≤ k := by omega
                have hsub : IntKind.i64.wrap ((nn : Int) - k) = nn - k := IntWalk.i64_in _ (by omega)
                obtain ⟨st1, st2⟩ := HST.out k (by omega)
                obtain ⟨vk, hvk⟩ : ∃ v, v = ys1.getD k 0 := ⟨_, rfl⟩
                rw [← hvk] at f1 st1
                have HS12 := Lib.hid (And.intro st1 st2)
                clear hvk
                clear st1 st2
                go_wp2_with fail
                go_loopw [33, 34] (fun fl i wr => ∃ j : Nat, j ≤ nn - k ∧ i = .int .i64 j ∧ fl = .int .i64 (fal x1 j) ∧ Law w [tOwn (.slice (some ⟨g9, 0, none⟩) ys1.length c9) ys1, tBox w1.heap.size (.int .i64 nn) (.int .i64 nn) (.slice (some ⟨g1, 0, none⟩) xs1.length cap1)] wr) (fun _ i _ => nn - k - (intOf i).toNat)
                case atStart => exact ⟨0, Nat.zero_le _, rfl, rfl, HK1.out⟩
                case round =>
                  clear HK1 u0 u1 u2 f1
                  obtain ⟨j, hj, rfl, rfl, L⟩ := hrel
                  have HK2 := Lib.hid L
                  clear L
                  have ⟨_, u0, u1, u2, _⟩ := HK2.out.tl.ownBox
                  by_cases hjn : j < nn - k
                  · have hjI : (j : Int) < (nn : Int) - k := by omega
                    have hax := HAX.out
                    have hfw := fal_wrap x1 hax j (by omega)
                    have HFW := Lib.hid hfw
                    have hxj : IntKind.i64.wrap (x1 - j) = x1 - j := by
                      unfold Abs at hax
                      exact IntWalk.i64_in _ (by omega)
                    clear hfw hax
                    go_wp2_with fail
                    go_roundw
                    case rel => exact ⟨j + 1, by omega, by go_num, by first | rfl | rw [HFW.out], HK2.out⟩
                    case measure => simp [intOf]; omega
                  · have hjI : ¬ (j : Int) < (nn : Int) - k := by omega
                    have hje : j = nn - k := by omega
                    subst hje
                    go_wp2_with fail
                    go_roundw
                    case rel => exact ⟨k + 1, by omega, by go_num, by rw [HS12.out.1, HS12.out.2], HK2.out⟩
                    case measure => simp [intOf]; omega
              · obtain rfl : k = nn + 1 := by omega
                have hkI : ¬ ((nn + 1 : Nat) : Int) < ys1.length := by have := HYL.out; omega
                rw [← HYV.out]
                have HB := Lib.hid HK1.out.below
                have hyy : (y1 == y1) = true := by simp
                clear HK1 HYL HST HYV HAX HNB
                go_wp2_with fail
                go_ret
                exact ⟨by simp, HB.out⟩
        · have HZ4 := Lib.hid (perm_zero HV4.out)
          have ⟨_, u0, u1, u2, _⟩ := (HL53.out).ownBox
          go_wp2_with fail
          refine (ansIO_at (implFact_any r4 c4 xs4 0 _ HX4.out _ _ (HL53.out.tl).ownInts) HZ4.out).mono ?_
          rintro e w54 ⟨rfl, hb⟩
          have HL54 := Lib.hid (HL53.out.kept hb)
          clear hb HL53 u0 u1 u2
          clear HV4 HZ4
          cases ok1
          · have HB := Lib.hid HL54.out.below
            clear HL54
            go_wp2_with fail
            go_ret
            exact ⟨rfl, HB.out⟩
          · obtain ⟨nn, ys1, hn1, hn6, hr, hc, hyl, hnb, hax, hyv, hst⟩ := fact_yes HV1.out
            have hr1 := hr
            have hc1 := hc
            subst hr1
            subst hc1
            have HNB := Lib.hid hnb
            have HYL := Lib.hid hyl
            have HAX := Lib.hid hax
            have HYV := Lib.hid hyv
            have HST := Lib.hid hst
            clear hr hc hyl hnb hax hyv hst HV1
            have ⟨_, u0, u1, u2, _⟩ := (HL54.out.tl.tl.tl).ownBox
            go_wp2_with fail
            refine (ansL_at (implNumbers_any nn nn xs1 _ HX1.out _ _ (HL54.out.tl.tl.tl.tl).ownInts) HNB.out).mono ?_
            rintro e w55 ⟨s9, rfl, hO, hb⟩
            rcases hO.cases with ⟨_, h0⟩ | ⟨g9, c9, rfl, _, _, _, _⟩
            · have := HYL.out
              rw [h0] at this
              simp at this
            have HL55 := Lib.hid (HL54.out.own hb hO)
            clear hO hb HL54 u0 u1 u2
            go_wp2_with fail
            go_loopw [30, 158] (fun sm i wr => ∃ k : Nat, k ≤ nn + 1 ∧ i = .int .i64 k ∧ sm = .int .i64 (sumT (falI ys1 x1 nn) k) ∧ Law w [tOwn (.slice (some ⟨g9, 0, none⟩) ys1.length c9) ys1, tBox w1.heap.size (.int .i64 nn) (.int .i64 nn) (.slice (some ⟨g1, 0, none⟩) xs1.length cap1)] wr) (fun _ i _ => nn + 1 - (intOf i).toNat)
            case atStart => exact ⟨0, Nat.zero_le _, rfl, rfl, Law.subL HL55.out (.cons_cons _ (.cons _ (.cons _ (.cons _ (.cons_cons _ (.cons _ List.Sublist.slnil))))))⟩
            case round =>
              clear HL55
              obtain ⟨k, hk, rfl, rfl, L⟩ := hrel
              have HK1 := Lib.hid L
              clear L
              by_cases hkn : k < nn + 1
              · have hkI : (k : Int) < ys1.length := by have := HYL.out; omega
                have f1 := Own.cell (HK1.out.ownInts) k (by have := HYL.out; omega)
                have ⟨_, u0, u1, u2, _⟩ := HK1.out.tl.ownBox
                have hk0 : (0 : Int) ≤ k := by omega
                have hsub : IntKind.i64.wrap ((nn : Int) - k) = nn - k := IntWalk.i64_in _ (by omega)
                obtain ⟨st1, st2⟩ := HST.out k (by omega)
                obtain ⟨vk, hvk⟩ : ∃ v, v = ys1.getD k 0 := ⟨_, rfl⟩
                rw [← hvk] at f1 st1
                have HS12 := Lib.hid (And.intro st1 st2)
                clear hvk
                clear st1 st2
                go_wp2_with fail
                go_loopw [33, 34] (fun fl i wr => ∃ j : Nat, j ≤ nn - k ∧ i = .int .i64 j ∧ fl = .int .i64 (fal x1 j) ∧ Law w [tOwn (.slice (some ⟨g9, 0, none⟩) ys1.length c9) ys1, tBox w1.heap.size (.int .i64 nn) (.int .i64 nn) (.slice (some ⟨g1, 0, none⟩) xs1.length cap1)] wr) (fun _ i _ => nn - k - (intOf i).toNat)
                case atStart => exact ⟨0, Nat.zero_le _, rfl, rfl, HK1.out⟩
                case round =>
                  clear HK1 u0 u1 u2 f1
                  obtain ⟨j, hj, rfl, rfl, L⟩ := hrel
                  have HK2 := Lib.hid L
                  clear L
                  have ⟨_, u0, u1, u2, _⟩ := HK2.out.tl.ownBox
                  by_cases hjn : j < nn - k
                  · have hjI : (j : Int) < (nn : Int) - k := by omega
                    have hax := HAX.out
                    have hfw := fal_wrap x1 hax j (by omega)
                    have HFW := Lib.hid hfw
                    have hxj : IntKind.i64.wrap (x1 - j) = x1 - j := by
                      unfold Abs at hax
                      exact IntWalk.i64_in _ (by omega)
                    clear hfw hax
                    go_wp2_with fail
                    go_roundw
                    case rel => exact ⟨j + 1, by omega, by go_num, by first | rfl | rw [HFW.out], HK2.out⟩
                    case measure => simp [intOf]; omega
                  · have hjI : ¬ (j : Int) < (nn : Int) - k := by omega
                    have hje : j = nn - k := by omega
                    subst hje
                    go_wp2_with fail
                    go_roundw
                    case rel => exact ⟨k + 1, by omega, by go_num, by rw [HS12.out.1, HS12.out.2], HK2.out⟩
                    case measure => simp [intOf]; omega
              · obtain rfl : k = nn + 1 := by omega
                have hkI : ¬ ((nn + 1 : Nat) : Int) < ys1.length := by have := HYL.out; omega
                rw [← HYV.out]
                have HB := Lib.hid HK1.out.below
                have hyy : (y1 == y1) = true := by simp
                clear HK1 HYL HST HYV HAX HNB
                go_wp2_with fail
                go_ret
                exact ⟨by simp, HB.out⟩

set_option maxRecDepth 100000 in
set_option maxHeartbeats 1600000 in
theorem walk_big (a0 a1 : Option Addr) (n0 p0 n1 p1 : Nat) (w : World) (hm0 : n0 ≤ 9223372036854775807) (hm1 : n1 ≤ 9223372036854775807) (h : ¬ (n0 ≤ 1048576 ∧ n1 ≤ 1048576 - n0)) :
    Calls Try.prog 3 #[.slice a0 n0 p0, .slice a1 n1 p1] w fun e w' => e = .returned (.bool true) ∧ Below w.heap.size w w' := by
  have HBIG := Lib.hid (big_yes a0 a1 n0 p0 n1 p1 w hm0 hm1 h)
  clear h
  go_enter Try.func3, Try.ntmps3
  go_wp2_with fail
  refine HBIG.out.mono ?_
  rintro e w' ⟨rfl, hw⟩
  subst w'
  go_wp2_with fail
  go_ret
  exact ⟨rfl, Below.refl _ _⟩

theorem walk_all (a0 a1 : Option Addr) (n0 p0 n1 p1 : Nat) (w : World) (hm0 : n0 ≤ 9223372036854775807) (hm1 : n1 ≤ 9223372036854775807) (hy0 : ReadsY w a0 n0) (hy1 : ReadsY w a1 n1) :
    Calls Try.prog 3 #[.slice a0 n0 p0, .slice a1 n1 p1] w fun e w' => e = .returned (.bool true) ∧ Below w.heap.size w w' := by
  by_cases h : n0 ≤ 1048576 ∧ n1 ≤ 1048576 - n0
  · exact walk a0 a1 n0 p0 n1 p1 w h.1 h.2 hy0 hy1
  · exact walk_big a0 a1 n0 p0 n1 p1 w hm0 hm1 h

set_option maxRecDepth 100000 in
theorem contract (H : Type) (enc : TypeId × Value → H) (W : World) (base : Nat) (args : Array Value) (ds gs : List (DataW H)) (before : List MemPlace)
    (hval : ∀ (j : Nat) t v, Try.f3.params[j]? = some t → args[j]? = some v → Value.okWide Try.prog W .any base t v)
    (hW : DataW.Whole enc Try.prog Try.f3.params.toList Rows.fnPolynomialsOfRooksSpec.vars false W args.toList ds gs before) :
    Calls Try.prog 3 args W fun e W' => ∃ v, e = .returned v ∧ Rows.fnPolynomialsOfRooksSpec.post enc Try.prog Try.f3 false true false false W args v W' := by
  have hW' := hW
  obtain ⟨p, q, hA0, hV, rfl, hfz, hnd⟩ := hW
  have hA : DataW.TrodAll enc Try.prog W 0 (fun _ => true) true Try.f3.params.toList args.toList ds p := hA0
  rw [Try.params3] at hA hval
  obtain ⟨v0, v1, d0, d1, p0, p1, rfl, rfl, rfl, h0, h1⟩ := trodAll_two hA
  obtain ⟨rfl, rfl⟩ := trodVars_none hV
  clear hA0
  simp only [List.append_nil] at hW'
  have hlt : ∀ x ∈ p0 ++ p1, x.block < W.heap.size := fun x hx => by have := hW'.lt x (by simpa using hx); simpa using this
  have hc1 : Try.prog.cellsOf 5 = 1 := by kernel_rfl
  have t0 := h0
  obtain ⟨a0, n0, c0, rfl⟩ := okWide_slice Try.underlying22 (hval 0 22 v0 rfl rfl)
  obtain ⟨fu0, hf0⟩ := h0
  obtain ⟨m0, y0⟩ := readsY_of hc1 (by simpa [Value.cells] using hf0)
  have t1 := h1
  obtain ⟨a1, n1, c1, rfl⟩ := okWide_slice Try.underlying22 (hval 1 22 v1 rfl rfl)
  obtain ⟨fu1, hf1⟩ := h1
  obtain ⟨m1, y1⟩ := readsY_of hc1 (by simpa [Value.cells] using hf1)
  refine (walk_all a0 a1 n0 c0 n1 c1 W m0 m1 y0 y1).mono ?_
  rintro e W' ⟨rfl, hb⟩
  exact ⟨_, rfl, _, _, _, [], _, [], hW', trodAll_mk1 (shut_bool Try.underlying4 _), trodAll_mk2 (Below.trod Try.laidOut (by kernel_rfl) (of_decide_eq_true (by kernel_rfl)) t0 hb (fun x hx => hlt x (by simp [hx]))) (Below.trod Try.laidOut (by kernel_rfl) (of_decide_eq_true (by kernel_rfl)) t1 hb (fun x hx => hlt x (by simp [hx]))), rfl, hb.frame _, fun h => by cases h⟩

set_option maxRecDepth 100000 in
theorem lifted (os : Os) (started : os.Started) (H : Type) (enc : TypeId × Value → H) :
    ReturnsInHanded {} Try.checked os 3 .any (Rows.fnPolynomialsOfRooksSpec.pre6 enc Try.prog Try.f3 Rows.fnPolynomialsOfRooksRow.domain false) (Rows.fnPolynomialsOfRooksSpec.post enc Try.prog Try.f3 false true false false) := by
  refine returnsInHanded_of_change (C := Try.checked) Try.own started (by kernel_rfl) Try.func3
    (ChangeSpec.witness6 (enc := enc) (C := Try.checked) false ⟨#[], #[.slice none 0 0, .slice none 0 0], []⟩ 8 (by kernel_rfl) (by kernel_rfl) (by kernel_rfl) (by kernel_rfl)) ?_
  intro W base args ds gs before hval hW _ _
  exact contract H enc W base args ds gs before hval hW

theorem holds : Rows.FnPolynomialsOfRooksSaid :=
  OpenClaim.holds_of_wide 3 Try.f3 rfl rfl rfl rfl rfl rfl rfl ⟨rfl, rfl, rfl, rfl, rfl⟩ rfl rfl rfl rfl rfl (by kernel_rfl) Try.func3 (by kernel_rfl)
    (of_decide_eq_true (by kernel_rfl)) (by unfold Func.isWrapper; first | (rw [if_pos (by decide +kernel)]; kernel_rfl) | (rw [if_neg (by decide +kernel)]; exact ⟨rfl, rfl⟩))
    (fun os started H enc _ => lifted os started H enc)

#print axioms holds
end Go.Proofs.Ythiddoaefhmpaaa.lPolynomialsOfRooks
