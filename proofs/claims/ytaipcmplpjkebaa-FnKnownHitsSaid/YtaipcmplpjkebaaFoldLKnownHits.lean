import Derived.Test.YtaipcmplpjkebaaFold32
import Derived.Test.YtaipcmplpjkebaaFold4
import Derived.Deep.RegionWith
namespace Go.Proofs.Ytaipcmplpjkebaa.lKnownHits
open Go.ChangeShapes Go.WideShapes Go.ChangeAt Go.RowKit Go.Joins

set_option maxRecDepth 100000 in
theorem big_no (a0 a1 : Option Addr) (n0 p0 n1 p1 : Nat) (w : World) (h0 : n0 ≤ 1048576) (h1 : n1 ≤ 1048576 - n0) : Calls Try.prog 6 #[.slice a0 n0 p0, .slice a1 n1 p1] w fun e w' => e = .returned (.bool false) ∧ w' = w := by
  have i0 : ¬ (1048576 : Int) < n0 := by omega
  have i1 : ¬ (1048576 : Int) - n0 < n1 := by omega
  have i2 : IntKind.i64.wrap ((1048576 : Int) - n0) = 1048576 - n0 := IntWalk.i64_in _ (by omega)
  go_enter Try.func6, Try.ntmps6
  go_wp2_with fail
  go_ret
  exact ⟨rfl, rfl⟩
set_option maxRecDepth 100000 in
theorem big_yes (a0 a1 : Option Addr) (n0 p0 n1 p1 : Nat) (w : World) (hm0 : n0 ≤ 9223372036854775807) (_hm1 : n1 ≤ 9223372036854775807) (h : ¬ (n0 ≤ 1048576 ∧ n1 ≤ 1048576 - n0)) : Calls Try.prog 6 #[.slice a0 n0 p0, .slice a1 n1 p1] w fun e w' => e = .returned (.bool true) ∧ w' = w := by
  by_cases h0 : n0 ≤ 1048576
  · have i0 : ¬ (1048576 : Int) < n0 := by omega
    have i1 : (1048576 : Int) - n0 < n1 := by omega
    have i2 : IntKind.i64.wrap ((1048576 : Int) - n0) = 1048576 - n0 := IntWalk.i64_in _ (by omega)
    go_enter Try.func6, Try.ntmps6
    go_wp2_with fail
    go_ret
    exact ⟨rfl, rfl⟩
  · have i0 : (1048576 : Int) < n0 := by omega
    clear h
    go_enter Try.func6, Try.ntmps6
    go_wp2_with fail
    go_ret
    exact ⟨rfl, rfl⟩


theorem eulR_nat (n : Nat) (h1 : 1 ≤ n) (h : n ≤ 10) : eulR (n : Int) = ⟨lstL n (eul n), true⟩ := by
  unfold eulR
  rw [if_pos (inB_yes (by omega) (by omega)), Int.toNat_natCast]
theorem derW_nat (n k : Nat) (h : n ≤ 12) (hk : k ≤ n) : derW (n : Int) (k : Int) = ⟨((chs n k * der (n - k) : Nat) : Int), true⟩ := by
  unfold derW
  rw [inB_yes (by omega) (by omega), inB_yes (by omega) (by omega), Int.toNat_natCast, Int.toNat_natCast]
  rfl
theorem cplB_nat (n : Nat) (h1 : 2 ≤ n) (h : n ≤ 10) : cplB (n : Int) = ⟨sumT (cplT n) (n + 1), true⟩ := by
  unfold cplB
  rw [if_pos (inB_yes (by omega) (by omega)), Int.toNat_natCast]

theorem eul_yes {n : Int} {ys : List Int} (e : eulR n = ⟨ys, true⟩) : ∃ u : Nat, n = u ∧ 1 ≤ u ∧ u ≤ 10 ∧ ys = lstL u (eul u) := by
  unfold eulR at e
  cases hg : inB 1 n 10
  · rw [hg] at e
    simp at e
  · rw [hg] at e
    have h := inB_iff.1 hg
    injection e with e1 e2
    exact ⟨n.toNat, by omega, by omega, by omega, e1.symm⟩
theorem der_yes {n : Int} {y : Int} (e : derB n = ⟨y, true⟩) : ∃ k : Nat, n = k ∧ k ≤ 12 ∧ y = (der k : Nat) := by
  unfold derB at e
  cases hg : inB 0 n 12
  · rw [hg] at e
    simp at e
  · rw [hg] at e
    have h := inB_iff.1 hg
    injection e with e1 e2
    exact ⟨n.toNat, by omega, by omega, e1.symm⟩
theorem derB_nat (k : Nat) (h : k ≤ 12) : derB (k : Int) = ⟨(der k : Nat), true⟩ := by
  unfold derB
  rw [if_pos (inB_yes (by omega) (by omega)), Int.toNat_natCast]
theorem der_step (q : Nat) (h : q + 2 ≤ 12) : IntKind.i64.wrap ((der (q + 1) : Int) + der q) = (der (q + 1) : Int) + der q ∧ IntKind.i64.wrap ((((q + 2 : Nat) : Int) - 1) * ((der (q + 1) : Int) + der q)) = (der (q + 2) : Nat) := by
  have key : ∀ q : Fin 11, IntKind.i64.wrap ((der ((q : Nat) + 1) : Int) + der q) = (der ((q : Nat) + 1) : Int) + der q ∧ IntKind.i64.wrap (((((q : Nat) + 2 : Nat) : Int) - 1) * ((der ((q : Nat) + 1) : Int) + der q)) = (der ((q : Nat) + 2) : Nat) := by decide +kernel
  exact key ⟨q, by omega⟩

theorem ansB_at {P : Program} {f : FuncId} {args : Array Value} {w : World} {R : BR} {r c : Int} {xs : List Int} {ok : Bool} (h : Calls P f args w (AnsB R w)) (e : R = ⟨r, c, xs, ok⟩) : Calls P f args w fun e w' => ∃ s, e = .returned (.tuple #[.agg #[.int .i64 r, .int .i64 c, s], .bool ok]) ∧ Own w' w.heap.size s xs ∧ Below w.heap.size w w' := by
  subst e; exact h
theorem ansIO_at {P : Program} {f : FuncId} {args : Array Value} {w : World} {R : R1} {y : Int} {ok : Bool} (h : Calls P f args w (AnsIO R w)) (e : R = ⟨y, ok⟩) : Calls P f args w fun e w' => e = .returned (.tuple #[.int .i64 y, .bool ok]) ∧ Below w.heap.size w w' := by
  subst e; exact h
theorem ansL_at {P : Program} {f : FuncId} {args : Array Value} {w : World} {R : LR} {ys : List Int} {ok : Bool} (h : Calls P f args w (AnsL R w)) (e : R = ⟨ys, ok⟩) : Calls P f args w fun e w' => ∃ s, e = .returned (.tuple #[s, .bool ok]) ∧ Own w' w.heap.size s ys ∧ Below w.heap.size w w' := by
  subst e; exact h
theorem eulB_at {w : World} {n : Int} {ys : List Int} {ok : Bool} (e : eulR n = ⟨ys, ok⟩) : Calls Try.prog 17 #[.int .i64 n] w fun e w' => ∃ a p, e = .returned (.tuple #[.slice a ys.length p, .bool ok]) ∧ Reads w' a ys.length ys ∧ Below w.heap.size w w' := by
  have h := implEulR_any n w
  rw [e] at h
  exact h
theorem own_capK {w : World} {lo : Nat} {a : Option Addr} {n p : Nat} {xs : List Int} (h : Own w lo (.slice a n p) xs) : n ≤ p := by
  rcases h.cases with ⟨h0, _⟩ | ⟨g', p', h0, _, _, h1, _⟩
  · injection h0 with _ h2 h3
    omega
  · injection h0 with _ h2 h3
    omega
set_option maxRecDepth 100000 in
set_option maxHeartbeats 40000000 in
theorem walk (a0 a1 : Option Addr) (n0 p0 n1 p1 : Nat) (w : World) (h0 : n0 ≤ 1048576) (h1 : n1 ≤ 1048576 - n0) (hy0 : ReadsY w a0 n0) (hy1 : ReadsY w a1 n1) :
    Calls Try.prog 3 #[.slice a0 n0 p0, .slice a1 n1 p1] w fun e w' => e = .returned (.bool true) ∧ Below w.heap.size w w' := by
  have HBIG := Lib.hid (big_no a0 a1 n0 p0 n1 p1 w h0 h1)
  have HY0 := Lib.hid hy0
  have HY1 := Lib.hid hy1
  have HN0 := Lib.hid (show n0 ≤ 4611686018427387904 by omega)
  have HN1 := Lib.hid (show n1 ≤ 4611686018427387904 by omega)
  clear hy0 hy1 h0 h1
  go_enter Try.func3, Try.ntmps3
  go_wp2_with fail
  refine HBIG.out.mono ?_
  rintro e w' ⟨rfl, hw⟩
  subst w'
  clear HBIG
  go_wp2_with fail
  refine (drawDrawDiagonalBoard_any a0 n0 p0 w HN0.out HY0.out).mono ?_
  rintro e w1 ⟨N, rfl, hb⟩
  have HL1 := Lib.hid ((Law.start w).kept hb)
  clear hb
  cases hN : inB 1 N 6
  · have HBD := Lib.hid (show diagB N = ⟨0, 0, [], false⟩ by simp [diagB, ruleB, hN, BR.zero])
    have HBA := Lib.hid (show aboveB N = ⟨0, 0, [], false⟩ by simp [aboveB, ruleB, hN, BR.zero])
    have HBT := Lib.hid (show tableB N = ⟨0, 0, [], false⟩ by simp [tableB, ruleB, inB_no (show ¬ ((2 : Int) ≤ N ∧ N ≤ 6) from fun h => by rw [inB_yes (by omega) h.2] at hN; cases hN), BR.zero])
    obtain ⟨xD, hxD⟩ : ∃ x : List Int, x = [] := ⟨_, rfl⟩
    have HLD : Hid (xD.length = 0) := Lib.hid (by rw [hxD]; rfl)
    obtain ⟨xA, hxA⟩ : ∃ x : List Int, x = [] := ⟨_, rfl⟩
    have HLA : Hid (xA.length = 0) := Lib.hid (by rw [hxA]; rfl)
    obtain ⟨xT, hxT⟩ : ∃ x : List Int, x = [] := ⟨_, rfl⟩
    have HLT : Hid (xT.length = 0) := Lib.hid (by rw [hxT]; rfl)
    rw [← hxD] at HBD
    rw [← hxA] at HBA
    rw [← hxT] at HBT
    clear hxD hxA hxT hN
    go_wp2_with fail
    refine (ansB_at (implDiagonalBoard_any N _) HBD.out).mono ?_
    rintro e w2 ⟨s0, rfl, hO, hb⟩
    obtain ⟨q0, c0, rfl, _⟩ := hO.reads
    rw [HLD.out] at hO ⊢
    have HM0 := Lib.hid ((HL1.out.own hb hO).box (.int .i64 0) (.int .i64 0) (.slice q0 0 c0) 27)
    clear hO hb HL1
    go_wp2_with fail
    refine (ansB_at (specDiagonalBoard_any N _) HBD.out).mono ?_
    rintro e w3 ⟨s1, rfl, hO, hb⟩
    obtain ⟨q1, c1, rfl, _⟩ := hO.reads
    rw [HLD.out] at hO ⊢
    have HM1 := Lib.hid ((HM0.out.own hb hO).box (.int .i64 0) (.int .i64 0) (.slice q1 0 c1) 27)
    clear hO hb HM0
    go_wp2_with fail
    refine (ansB_at (implAboveBoard_any N _) HBA.out).mono ?_
    rintro e w4 ⟨s2, rfl, hO, hb⟩
    obtain ⟨q2, c2, rfl, _⟩ := hO.reads
    rw [HLA.out] at hO ⊢
    have HM2 := Lib.hid ((HM1.out.own hb hO).box (.int .i64 0) (.int .i64 0) (.slice q2 0 c2) 27)
    clear hO hb HM1
    go_wp2_with fail
    refine (ansB_at (specAboveBoard_any N _) HBA.out).mono ?_
    rintro e w5 ⟨s3, rfl, hO, hb⟩
    obtain ⟨q3, c3, rfl, _⟩ := hO.reads
    rw [HLA.out] at hO ⊢
    have HM3 := Lib.hid ((HM2.out.own hb hO).box (.int .i64 0) (.int .i64 0) (.slice q3 0 c3) 27)
    clear hO hb HM2
    go_wp2_with fail
    refine (ansB_at (implTableBoard_any N _) HBT.out).mono ?_
    rintro e w6 ⟨s4, rfl, hO, hb⟩
    obtain ⟨q4, c4, rfl, _⟩ := hO.reads
    rw [HLT.out] at hO ⊢
    have HM4 := Lib.hid ((HM3.out.own hb hO).box (.int .i64 0) (.int .i64 0) (.slice q4 0 c4) 27)
    clear hO hb HM3
    go_wp2_with fail
    refine (ansB_at (specTableBoard_any N _) HBT.out).mono ?_
    rintro e w7 ⟨s5, rfl, hO, hb⟩
    obtain ⟨q5, c5, rfl, _⟩ := hO.reads
    rw [HLT.out] at hO ⊢
    have HM5 := Lib.hid ((HM4.out.own hb hO).box (.int .i64 0) (.int .i64 0) (.slice q5 0 c5) 27)
    clear hO hb HM4
    have ⟨_, u0, u0', u0'', _⟩ := (HM5.out.tl.tl.tl.tl.tl.tl.tl.tl.tl.tl).ownBox
    have ⟨_, u1, u1', u1'', _⟩ := (HM5.out.tl.tl.tl.tl.tl.tl.tl.tl).ownBox
    have hr0 := (own_rdY (HM5.out.tl.tl.tl.tl.tl.tl.tl.tl.tl.tl.tl).ownInts).2
    have hr1 := (own_rdY (HM5.out.tl.tl.tl.tl.tl.tl.tl.tl.tl).ownInts).2
    go_wp2_with fail
    refine (kBoard_same 0 0 q0 q1 0 c0 c1 xD _ (by omega) hr0 hr1).mono ?_
    rintro e v1 ⟨rfl, hb⟩
    have HV1 := Lib.hid (HM5.out.kept hb)
    clear hb u0 u0' u0'' u1 u1' u1'' hr0 hr1 HM5
    have ⟨_, u2, u2', u2'', _⟩ := (HV1.out.tl.tl.tl.tl.tl.tl).ownBox
    have ⟨_, u3, u3', u3'', _⟩ := (HV1.out.tl.tl.tl.tl).ownBox
    have hr2 := (own_rdY (HV1.out.tl.tl.tl.tl.tl.tl.tl).ownInts).2
    have hr3 := (own_rdY (HV1.out.tl.tl.tl.tl.tl).ownInts).2
    go_wp2_with fail
    refine (kBoard_same 0 0 q2 q3 0 c2 c3 xA _ (by omega) hr2 hr3).mono ?_
    rintro e v2 ⟨rfl, hb⟩
    have HV2 := Lib.hid (HV1.out.kept hb)
    clear hb u2 u2' u2'' u3 u3' u3'' hr2 hr3 HV1
    have ⟨_, u4, u4', u4'', _⟩ := (HV2.out.tl.tl).ownBox
    have ⟨_, u5, u5', u5'', _⟩ := (HV2.out).ownBox
    have hr4 := (own_rdY (HV2.out.tl.tl.tl).ownInts).2
    have hr5 := (own_rdY (HV2.out.tl).ownInts).2
    go_wp2_with fail
    refine (kBoard_same 0 0 q4 q5 0 c4 c5 xT _ (by omega) hr4 hr5).mono ?_
    rintro e v3 ⟨rfl, hb⟩
    have HV3 := Lib.hid (HV2.out.kept hb)
    clear hb u4 u4' u4'' u5 u5' u5'' hr4 hr5 HV2
    have HB := Lib.hid HV3.out.below
    clear HV3
    go_wp2_with fail
    refine (drawDrawDerangements_any a1 n1 p1 _ HN1.out (HY1.out.kept HB.out)).mono ?_
    rintro e z1 ⟨K, rfl, hb⟩
    replace HB := Lib.hid (below_on HB.out hb)
    obtain ⟨yK, bK, hK⟩ : ∃ y b, derB K = ⟨y, b⟩ := ⟨_, _, rfl⟩
    have HK := Lib.hid hK
    clear hb hK
    go_wp2_with fail
    refine (ansIO_at (implDer_any K _) HK.out).mono ?_
    rintro e z2 ⟨rfl, hb⟩
    replace HB := Lib.hid (below_on HB.out hb)
    clear hb
    go_wp2_with fail
    refine (ansIO_at (specDer_any K _) HK.out).mono ?_
    rintro e z3 ⟨rfl, hb⟩
    replace HB := Lib.hid (below_on HB.out hb)
    clear hb
    go_wp2_with fail
    refine (drawDrawCountCouples_any a1 n1 p1 _ HN1.out (HY1.out.kept HB.out)).mono ?_
    rintro e z4 ⟨M, rfl, hb⟩
    replace HB := Lib.hid (below_on HB.out hb)
    obtain ⟨yM, bM, hM⟩ : ∃ y b, cplB M = ⟨y, b⟩ := ⟨_, _, rfl⟩
    have HM := Lib.hid hM
    clear hb hM
    go_wp2_with fail
    refine (ansIO_at (implCpl_any M _) HM.out).mono ?_
    rintro e z5 ⟨rfl, hb⟩
    replace HB := Lib.hid (below_on HB.out hb)
    clear hb
    go_wp2_with fail
    refine (ansIO_at (specCpl_any M _) HM.out).mono ?_
    rintro e z6 ⟨rfl, hb⟩
    replace HB := Lib.hid (below_on HB.out hb)
    clear hb HM
    go_wp2_with fail
    refine (drawDrawEulerNumbers_any a1 n1 p1 _ HN1.out (HY1.out.kept HB.out)).mono ?_
    rintro e z7 ⟨U, rfl, hb⟩
    replace HB := Lib.hid (below_on HB.out hb)
    obtain ⟨yU, bU, hU⟩ : ∃ y b, eulR U = ⟨y, b⟩ := ⟨_, _, rfl⟩
    have HU := Lib.hid hU
    have hUl := eulR_len U
    rw [hU] at hUl
    have HUL := Lib.hid (show yU.length ≤ 1048576 from hUl)
    clear hb hU hUl
    go_wp2_with fail
    refine (eulB_at HU.out).mono ?_
    rintro e z8 ⟨aU, pU, rfl, hrU, hb⟩
    replace HB := Lib.hid (below_on HB.out hb)
    have HRU := Lib.hid hrU
    clear hb hrU
    go_wp2_with fail
    refine (ansL_at (specEul_any U _) HU.out).mono ?_
    rintro e z9 ⟨sU, rfl, hO, hb⟩
    obtain ⟨aV, pV, rfl, hrV⟩ := hO.reads
    have HRV := Lib.hid hrV
    replace HRU := Lib.hid (HRU.out.kept hb)
    replace HB := Lib.hid (below_on HB.out hb)
    clear hb hO hrV
    go_wp2_with fail
    refine (drawDerangementsWith_any a1 n1 p1 _ HN1.out (HY1.out.kept HB.out)).mono ?_
    rintro e z10 ⟨X, Y, rfl, hb⟩
    replace HRU := Lib.hid (HRU.out.kept hb)
    replace HRV := Lib.hid (HRV.out.kept hb)
    replace HB := Lib.hid (below_on HB.out hb)
    obtain ⟨yX, bX, hX⟩ : ∃ y b, derW X Y = ⟨y, b⟩ := ⟨_, _, rfl⟩
    have HX := Lib.hid hX
    clear hb hX
    go_wp2_with fail
    refine (ansIO_at (implDerW_any X Y _) HX.out).mono ?_
    rintro e z11 ⟨rfl, hb⟩
    replace HRU := Lib.hid (HRU.out.kept hb)
    replace HRV := Lib.hid (HRV.out.kept hb)
    replace HB := Lib.hid (below_on HB.out hb)
    clear hb
    go_wp2_with fail
    refine (ansIO_at (specDerW_any X Y _) HX.out).mono ?_
    rintro e z12 ⟨rfl, hb⟩
    replace HRU := Lib.hid (HRU.out.kept hb)
    replace HRV := Lib.hid (HRV.out.kept hb)
    replace HB := Lib.hid (below_on HB.out hb)
    clear hb HX
    go_wp2_with fail
    refine (kSame_same aU aV yU.length pU pV yU _ HUL.out HRU.out HRV.out).mono ?_
    rintro e z13 ⟨rfl, hb⟩
    replace HRU := Lib.hid (HRU.out.kept hb)
    replace HB := Lib.hid (below_on HB.out hb)
    clear hb HRV
    cases bK
    · cases bU
      · go_wp2_with fail
        go_ret
        exact ⟨rfl, HB.out⟩
      · obtain ⟨u, hu, hu1, hu10, hyu⟩ := eul_yes HU.out
        subst hu
        subst hyu
        have HKF := Lib.hid (fun W => kFact_any u W (by omega))
        have HES := Lib.hid (eul_sum u hu10 hu1)
        have hll := lstL_len u (eul u)
        rw [hll] at HRU HUL ⊢
        have HKS := Lib.hid (fun W (h : Reads W aU u (lstL u (eul u))) => kSum_any aU u pU (lstL u (eul u)) W HUL.out h)
        rw [HES.out] at HKS
        have hff : (fct u == fct u) = true := by simp
        generalize lstL u (eul u) = yy at *
        generalize fct u = ff at *
        go_wp2_with fail
        refine (HKS.out _ HRU.out).mono ?_
        rintro e z20 ⟨rfl, hw⟩
        subst hw
        go_wp2_with fail
        refine (HKF.out _).mono ?_
        rintro e z21 ⟨rfl, hw⟩
        subst hw
        go_wp2_with fail
        go_ret
        exact ⟨by simp, HB.out⟩
    · obtain ⟨k, hk, hk12, hyk⟩ := der_yes HK.out
      subst hk
      subst hyk
      by_cases hk2 : (2 : Int) ≤ k
      · obtain ⟨q, rfl⟩ : ∃ q, k = q + 2 := ⟨k - 2, by omega⟩
        have HD1 := Lib.hid (show derB (((q + 2 : Nat) : Int) - 1) = ⟨(der (q + 1) : Nat), true⟩ by
          rw [show (((q + 2 : Nat) : Int) - 1) = ((q + 1 : Nat) : Int) by omega]
          exact derB_nat (q + 1) (by omega))
        have HD2 := Lib.hid (show derB (((q + 2 : Nat) : Int) - 2) = ⟨(der q : Nat), true⟩ by
          rw [show (((q + 2 : Nat) : Int) - 2) = ((q : Nat) : Int) by omega]
          exact derB_nat q (by omega))
        have hw1 : IntKind.i64.wrap (((q + 2 : Nat) : Int) - 1) = ((q + 2 : Nat) : Int) - 1 := IntWalk.i64_in _ (by omega)
        have hw2 : IntKind.i64.wrap (((q + 2 : Nat) : Int) - 2) = ((q + 2 : Nat) : Int) - 2 := IntWalk.i64_in _ (by omega)
        have hx := der_step q (by omega)
        have HST := Lib.hid hx
        have hxx : ((der (q + 2) : Int) != der (q + 2)) = false := by simp
        obtain ⟨kk, hkk⟩ : ∃ kk : Int, kk = ((q + 2 : Nat) : Int) := ⟨_, rfl⟩
        rw [← hkk] at HD1 HD2 hw1 hw2 hk2 HST ⊢
        obtain ⟨d0, hd0⟩ : ∃ d0 : Int, d0 = (der q : Nat) := ⟨_, rfl⟩
        obtain ⟨d1, hd1⟩ : ∃ d1 : Int, d1 = (der (q + 1) : Nat) := ⟨_, rfl⟩
        obtain ⟨d2, hd2⟩ : ∃ d2 : Int, d2 = (der (q + 2) : Nat) := ⟨_, rfl⟩
        rw [← hd0] at HD2 HST
        rw [← hd1] at HD1 HST
        rw [← hd2] at HST hxx ⊢
        obtain ⟨hs1, hs2⟩ := HST.out
        clear hx hkk hd0 hd1 hd2 HK HST
        go_wp2_with fail
        refine (ansIO_at (implDer_any _ _) HD1.out).mono ?_
        rintro e z14 ⟨rfl, hb⟩
        replace HRU := Lib.hid (HRU.out.kept hb)
        replace HB := Lib.hid (below_on HB.out hb)
        clear hb
        go_wp2_with fail
        refine (ansIO_at (implDer_any _ _) HD2.out).mono ?_
        rintro e z15 ⟨rfl, hb⟩
        replace HRU := Lib.hid (HRU.out.kept hb)
        replace HB := Lib.hid (below_on HB.out hb)
        clear hb
        cases bU
        · go_wp2_with fail
          go_ret
          exact ⟨rfl, HB.out⟩
        · obtain ⟨u, hu, hu1, hu10, hyu⟩ := eul_yes HU.out
          subst hu
          subst hyu
          have HKF := Lib.hid (fun W => kFact_any u W (by omega))
          have HES := Lib.hid (eul_sum u hu10 hu1)
          have hll := lstL_len u (eul u)
          rw [hll] at HRU HUL ⊢
          have HKS := Lib.hid (fun W (h : Reads W aU u (lstL u (eul u))) => kSum_any aU u pU (lstL u (eul u)) W HUL.out h)
          rw [HES.out] at HKS
          have hff : (fct u == fct u) = true := by simp
          generalize lstL u (eul u) = yy at *
          generalize fct u = ff at *
          go_wp2_with fail
          refine (HKS.out _ HRU.out).mono ?_
          rintro e z20 ⟨rfl, hw⟩
          subst hw
          go_wp2_with fail
          refine (HKF.out _).mono ?_
          rintro e z21 ⟨rfl, hw⟩
          subst hw
          go_wp2_with fail
          go_ret
          exact ⟨by simp, HB.out⟩
      · cases bU
        · go_wp2_with fail
          go_ret
          exact ⟨rfl, HB.out⟩
        · obtain ⟨u, hu, hu1, hu10, hyu⟩ := eul_yes HU.out
          subst hu
          subst hyu
          have HKF := Lib.hid (fun W => kFact_any u W (by omega))
          have HES := Lib.hid (eul_sum u hu10 hu1)
          have hll := lstL_len u (eul u)
          rw [hll] at HRU HUL ⊢
          have HKS := Lib.hid (fun W (h : Reads W aU u (lstL u (eul u))) => kSum_any aU u pU (lstL u (eul u)) W HUL.out h)
          rw [HES.out] at HKS
          have hff : (fct u == fct u) = true := by simp
          generalize lstL u (eul u) = yy at *
          generalize fct u = ff at *
          go_wp2_with fail
          refine (HKS.out _ HRU.out).mono ?_
          rintro e z20 ⟨rfl, hw⟩
          subst hw
          go_wp2_with fail
          refine (HKF.out _).mono ?_
          rintro e z21 ⟨rfl, hw⟩
          subst hw
          go_wp2_with fail
          go_ret
          exact ⟨by simp, HB.out⟩
  · obtain ⟨hN1, hN6⟩ := inB_iff.1 hN
    obtain ⟨n, rfl⟩ := Int.eq_ofNat_of_zero_le (show 0 ≤ N by omega)
    clear hN
    have hn6 : n ≤ 6 := by omega
    by_cases hn2 : (2 : Int) ≤ n
    · have HBD := Lib.hid (show diagB n = ⟨n, n, rowsL diagR n, true⟩ by simp [diagB, ruleB, inB_yes (show (1 : Int) ≤ n by omega) (show (n : Int) ≤ 6 by omega)])
      have HBA := Lib.hid (show aboveB n = ⟨n, n, rowsL aboveR n, true⟩ by simp [aboveB, ruleB, inB_yes (show (1 : Int) ≤ n by omega) (show (n : Int) ≤ 6 by omega)])
      have HKD := Lib.hid (kd_hit n (by omega) (by omega))
      have HKA := Lib.hid (ka_hit n (by omega) (by omega))
      have HLD := Lib.hid (rowsL_len diagR n)
      have HLA := Lib.hid (rowsL_len aboveR n)
      have HBT := Lib.hid (show tableB n = ⟨n, n, rowsL (tableR n) n, true⟩ by simp [tableB, ruleB, inB_yes (show (2 : Int) ≤ n by omega) (show (n : Int) ≤ 6 by omega)])
      have HKT := Lib.hid (kt_hit n (by omega) (by omega))
      have HLT := Lib.hid (rowsL_len (tableR n) n)
      obtain ⟨xT, hxT⟩ : ∃ x, x = rowsL (tableR n) n := ⟨_, rfl⟩
      rw [← hxT] at HBT HKT HLT
      clear hxT
      obtain ⟨xD, hxD⟩ : ∃ x, x = rowsL diagR n := ⟨_, rfl⟩
      obtain ⟨xA, hxA⟩ : ∃ x, x = rowsL aboveR n := ⟨_, rfl⟩
      rw [← hxD] at HBD HKD HLD
      rw [← hxA] at HBA HKA HLA
      clear hxD hxA
      go_wp2_with fail
      refine (ansB_at (implDiagonalBoard_any (n : Int) _) HBD.out).mono ?_
      rintro e w2 ⟨s0, rfl, hO, hb⟩
      obtain ⟨q0, c0, rfl, _⟩ := hO.reads
      rw [HLD.out] at hO ⊢
      have HM0 := Lib.hid ((HL1.out.own hb hO).box (.int .i64 n) (.int .i64 n) (.slice q0 n c0) 27)
      clear hO hb HL1
      go_wp2_with fail
      refine (ansB_at (specDiagonalBoard_any (n : Int) _) HBD.out).mono ?_
      rintro e w3 ⟨s1, rfl, hO, hb⟩
      obtain ⟨q1, c1, rfl, _⟩ := hO.reads
      rw [HLD.out] at hO ⊢
      have HM1 := Lib.hid ((HM0.out.own hb hO).box (.int .i64 n) (.int .i64 n) (.slice q1 n c1) 27)
      clear hO hb HM0
      go_wp2_with fail
      refine (ansB_at (implAboveBoard_any (n : Int) _) HBA.out).mono ?_
      rintro e w4 ⟨s2, rfl, hO, hb⟩
      obtain ⟨q2, c2, rfl, _⟩ := hO.reads
      rw [HLA.out] at hO ⊢
      have HM2 := Lib.hid ((HM1.out.own hb hO).box (.int .i64 n) (.int .i64 n) (.slice q2 n c2) 27)
      clear hO hb HM1
      go_wp2_with fail
      refine (ansB_at (specAboveBoard_any (n : Int) _) HBA.out).mono ?_
      rintro e w5 ⟨s3, rfl, hO, hb⟩
      obtain ⟨q3, c3, rfl, _⟩ := hO.reads
      rw [HLA.out] at hO ⊢
      have HM3 := Lib.hid ((HM2.out.own hb hO).box (.int .i64 n) (.int .i64 n) (.slice q3 n c3) 27)
      clear hO hb HM2
      go_wp2_with fail
      refine (ansB_at (implTableBoard_any (n : Int) _) HBT.out).mono ?_
      rintro e w6 ⟨s4, rfl, hO, hb⟩
      obtain ⟨q4, c4, rfl, _⟩ := hO.reads
      rw [HLT.out] at hO ⊢
      have HM4 := Lib.hid ((HM3.out.own hb hO).box (.int .i64 n) (.int .i64 n) (.slice q4 n c4) 27)
      clear hO hb HM3
      go_wp2_with fail
      refine (ansB_at (specTableBoard_any (n : Int) _) HBT.out).mono ?_
      rintro e w7 ⟨s5, rfl, hO, hb⟩
      obtain ⟨q5, c5, rfl, _⟩ := hO.reads
      rw [HLT.out] at hO ⊢
      have HM5 := Lib.hid ((HM4.out.own hb hO).box (.int .i64 n) (.int .i64 n) (.slice q5 n c5) 27)
      clear hO hb HM4
      have ⟨_, u0, u0', u0'', _⟩ := (HM5.out.tl.tl.tl.tl.tl.tl.tl.tl.tl.tl).ownBox
      have ⟨_, u1, u1', u1'', _⟩ := (HM5.out.tl.tl.tl.tl.tl.tl.tl.tl).ownBox
      have hr0 := (own_rdY (HM5.out.tl.tl.tl.tl.tl.tl.tl.tl.tl.tl.tl).ownInts).2
      have hr1 := (own_rdY (HM5.out.tl.tl.tl.tl.tl.tl.tl.tl.tl).ownInts).2
      go_wp2_with fail
      refine (kBoard_same n n q0 q1 n c0 c1 xD _ (by omega) hr0 hr1).mono ?_
      rintro e v1 ⟨rfl, hb⟩
      have HV1 := Lib.hid (HM5.out.kept hb)
      clear hb u0 u0' u0'' u1 u1' u1'' hr0 hr1 HM5
      have ⟨_, u2, u2', u2'', _⟩ := (HV1.out.tl.tl.tl.tl.tl.tl).ownBox
      have ⟨_, u3, u3', u3'', _⟩ := (HV1.out.tl.tl.tl.tl).ownBox
      have hr2 := (own_rdY (HV1.out.tl.tl.tl.tl.tl.tl.tl).ownInts).2
      have hr3 := (own_rdY (HV1.out.tl.tl.tl.tl.tl).ownInts).2
      go_wp2_with fail
      refine (kBoard_same n n q2 q3 n c2 c3 xA _ (by omega) hr2 hr3).mono ?_
      rintro e v2 ⟨rfl, hb⟩
      have HV2 := Lib.hid (HV1.out.kept hb)
      clear hb u2 u2' u2'' u3 u3' u3'' hr2 hr3 HV1
      have ⟨_, u4, u4', u4'', _⟩ := (HV2.out.tl.tl).ownBox
      have ⟨_, u5, u5', u5'', _⟩ := (HV2.out).ownBox
      have hr4 := (own_rdY (HV2.out.tl.tl.tl).ownInts).2
      have hr5 := (own_rdY (HV2.out.tl).ownInts).2
      go_wp2_with fail
      refine (kBoard_same n n q4 q5 n c4 c5 xT _ (by omega) hr4 hr5).mono ?_
      rintro e v3 ⟨rfl, hb⟩
      have HV3 := Lib.hid (HV2.out.kept hb)
      clear hb u4 u4' u4'' u5 u5' u5'' hr4 hr5 HV2
      have ⟨_, u0, u0', u0'', _⟩ := (HV3.out.tl.tl.tl.tl.tl.tl.tl.tl.tl.tl).ownBox
      have hoD := (HV3.out.tl.tl.tl.tl.tl.tl.tl.tl.tl.tl.tl).ownInts
      go_wp2_with fail
      refine (ansL_at (implHits_any n n xD _ (by rw [HLD.out]; omega) 0 _ hoD) HKD.out).mono ?_
      rintro e y1 ⟨s6, rfl, hO, hb⟩
      obtain ⟨q6, c6, rfl, hr6⟩ := hO.reads
      rw [kdL_len] at hr6 ⊢
      have HW1 := Lib.hid (HV3.out.kept hb)
      have HR6 := Lib.hid hr6
      clear hb hO hr6 u0 u0' u0'' hoD HV3
      have ⟨_, u2, u2', u2'', _⟩ := (HW1.out.tl.tl.tl.tl.tl.tl).ownBox
      have hoA := (HW1.out.tl.tl.tl.tl.tl.tl.tl).ownInts
      go_wp2_with fail
      refine (ansL_at (implHits_any n n xA _ (by rw [HLA.out]; omega) 0 _ hoA) HKA.out).mono ?_
      rintro e y2 ⟨s7, rfl, hO, hb⟩
      obtain ⟨q7, c7, rfl, hr7⟩ := hO.reads
      rw [kaL_len] at hO hr7 ⊢
      have HC7 := Lib.hid (own_capK hO)
      have HW2 := Lib.hid (HW1.out.kept hb)
      replace HR6 := Lib.hid (HR6.out.kept hb)
      have HR7 := Lib.hid hr7
      clear hb hO hr7 u2 u2' u2'' hoA HW1
      go_wp2_with fail
      refine (ansIO_at (implDer_any n _) (derB_nat n (by omega))).mono ?_
      rintro e y3 ⟨rfl, hb⟩
      have HW3 := Lib.hid (HW2.out.kept hb)
      replace HR6 := Lib.hid (HR6.out.kept hb)
      replace HR7 := Lib.hid (HR7.out.kept hb)
      clear hb HW2
      go_wp2_with fail
      refine (eulB_at (eulR_nat n (by omega) (by omega))).mono ?_
      rintro e y4 ⟨a8, p8, rfl, hr8, hb⟩
      rw [lstL_len] at hr8 ⊢
      have HW4 := Lib.hid (HW3.out.kept hb)
      replace HR6 := Lib.hid (HR6.out.kept hb)
      replace HR7 := Lib.hid (HR7.out.kept hb)
      have HR8 := Lib.hid hr8
      clear hb hr8 HW3
      obtain ⟨b6, o6, rfl, _, hc6⟩ := reads_row HR6.out (by omega)
      obtain ⟨b7, o7, rfl, _, hc7⟩ := reads_row HR7.out (by omega)
      have g6 := hc6 0 (by omega)
      rw [kdL_zero n hn6, Nat.add_zero] at g6
      have g7 := hc7 n (by omega)
      rw [kaL_last] at g7
      have hcap := HC7.out
      have hnn0 : (0 : Int) ≤ n := by omega
      have hnn1 : (n : Int) < (n : Int) + 1 := by omega
      have hnn2 : (n : Int) ≤ c7 := by omega
      have hnn3 : n ≤ c7 := by omega
      have hn0' : (0 : Int) < (n : Int) + 1 := by omega
      have HRT := Lib.hid (show Reads y4 (some ⟨b7, o7, none⟩) n (lstL n (eul n)) by
        rw [← kaL_take]
        refine ⟨by rw [List.length_take, kaL_len]; omega, .inr ⟨b7, o7, rfl, ?_, fun j hj => ?_⟩⟩
        · exact World.block_lt_of_cell? _ _ g7
        · rw [hc7 j (by omega)]
          rw [List.getD_eq_getElem?_getD, List.getD_eq_getElem?_getD, List.getElem?_take, if_pos hj])
      have hdd : ((der n : Int) != der n) = false := by simp
      clear hc6 hc7
      go_wp2_with fail
      refine (kSame_same (some ⟨b7, o7, none⟩) a8 n c7 p8 (lstL n (eul n)) _ (by omega) HRT.out HR8.out).mono ?_
      rintro e y5 ⟨rfl, hb⟩
      have HW5 := Lib.hid (HW4.out.kept hb)
      replace HR6 := Lib.hid (HR6.out.kept hb)
      clear hb HW4 HRT HR8 HR7 g6 g7
      go_wp2_with fail
      go_loopw [198] (fun i wr => ∃ k : Nat, k ≤ n + 1 ∧ i = .int .i64 k ∧ Below y5.heap.size y5 wr) (fun i _ => n + 1 - (intOf i).toNat)
      case atStart => exact ⟨0, Nat.zero_le _, rfl, Below.refl _ _⟩
      case round =>
        obtain ⟨k, hk, rfl, hb0⟩ := hrel
        have HB0 := Lib.hid hb0
        by_cases hlt : k < n + 1
        · obtain ⟨b6', o6', e6, _, hc6⟩ := reads_row (HR6.out.kept hb0) (by omega)
          injection e6 with e6
          injection e6 with e61 e62
          subst e61
          subst e62
          have g6 := hc6 k hlt
          rw [kdL_get n k (by omega)] at g6
          have hlt' : (k : Int) < (n : Int) + 1 := by omega
          have hk0 : (0 : Int) ≤ k := by omega
          have HDW := Lib.hid (derW_nat n k (by omega) (by omega))
          have hxx : ((((chs n k * der (n - k) : Nat)) : Int) != ((chs n k * der (n - k) : Nat) : Int)) = false := by simp
          generalize ((chs n k * der (n - k) : Nat) : Int) = zz at *
          clear hc6 hb0
          go_wp2_with fail
          refine (ansIO_at (implDerW_any n k _) HDW.out).mono ?_
          rintro e y6 ⟨rfl, hb⟩
          have HB1 := Lib.hid (below_on HB0.out hb)
          clear hb
          go_wp2_with fail
          go_roundw
          case rel => exact ⟨k + 1, by omega, by go_num, HB1.out⟩
          case measure => simp [intOf]; omega
        · obtain hke : k = n + 1 := by omega
          have hlt' : ¬ (k : Int) < (n : Int) + 1 := by omega
          have HW6 := Lib.hid (HW5.out.kept hb0)
          clear HW5 HB0 hb0
          have ⟨_, u4, u4', u4'', _⟩ := (HW6.out.tl.tl).ownBox
          have hoT := (HW6.out.tl.tl.tl).ownInts
          go_wp2_with fail
          refine (ansL_at (implHits_any n n xT _ (by rw [HLT.out]; omega) 0 _ hoT) HKT.out.1).mono ?_
          rintro e y7 ⟨s9, rfl, hO, hb⟩
          obtain ⟨q9, c9, rfl, hr9⟩ := hO.reads
          rw [ktL_len] at hr9 ⊢
          have HW7 := Lib.hid (HW6.out.kept hb)
          have HR9 := Lib.hid hr9
          clear hb hO hr9 u4 u4' u4'' hoT HW6
          go_wp2_with fail
          refine (ansIO_at (implCpl_any n _) (cplB_nat n (by omega) (by omega))).mono ?_
          rintro e y8 ⟨rfl, hb⟩
          have HB := Lib.hid (HW7.out.kept hb).below
          obtain ⟨b9, o9, rfl, _, hc9⟩ := reads_row (HR9.out.kept hb) (by omega)
          have g9 := hc9 0 (by omega)
          rw [HKT.out.2, Nat.add_zero] at g9
          have hxx : (sumT (cplT n) (n + 1) != sumT (cplT n) (n + 1)) = false := by simp
          have hnn : (0 : Int) < (n : Int) + 1 := by omega
          generalize sumT (cplT n) (n + 1) = zc at *
          clear hb hc9 HW7 HR9
          go_wp2_with fail
          refine (drawDrawDerangements_any a1 n1 p1 _ HN1.out (HY1.out.kept HB.out)).mono ?_
          rintro e z1 ⟨K, rfl, hb⟩
          replace HB := Lib.hid (below_on HB.out hb)
          obtain ⟨yK, bK, hK⟩ : ∃ y b, derB K = ⟨y, b⟩ := ⟨_, _, rfl⟩
          have HK := Lib.hid hK
          clear hb hK
          go_wp2_with fail
          refine (ansIO_at (implDer_any K _) HK.out).mono ?_
          rintro e z2 ⟨rfl, hb⟩
          replace HB := Lib.hid (below_on HB.out hb)
          clear hb
          go_wp2_with fail
          refine (ansIO_at (specDer_any K _) HK.out).mono ?_
          rintro e z3 ⟨rfl, hb⟩
          replace HB := Lib.hid (below_on HB.out hb)
          clear hb
          go_wp2_with fail
          refine (drawDrawCountCouples_any a1 n1 p1 _ HN1.out (HY1.out.kept HB.out)).mono ?_
          rintro e z4 ⟨M, rfl, hb⟩
          replace HB := Lib.hid (below_on HB.out hb)
          obtain ⟨yM, bM, hM⟩ : ∃ y b, cplB M = ⟨y, b⟩ := ⟨_, _, rfl⟩
          have HM := Lib.hid hM
          clear hb hM
          go_wp2_with fail
          refine (ansIO_at (implCpl_any M _) HM.out).mono ?_
          rintro e z5 ⟨rfl, hb⟩
          replace HB := Lib.hid (below_on HB.out hb)
          clear hb
          go_wp2_with fail
          refine (ansIO_at (specCpl_any M _) HM.out).mono ?_
          rintro e z6 ⟨rfl, hb⟩
          replace HB := Lib.hid (below_on HB.out hb)
          clear hb HM
          go_wp2_with fail
          refine (drawDrawEulerNumbers_any a1 n1 p1 _ HN1.out (HY1.out.kept HB.out)).mono ?_
          rintro e z7 ⟨U, rfl, hb⟩
          replace HB := Lib.hid (below_on HB.out hb)
          obtain ⟨yU, bU, hU⟩ : ∃ y b, eulR U = ⟨y, b⟩ := ⟨_, _, rfl⟩
          have HU := Lib.hid hU
          have hUl := eulR_len U
          rw [hU] at hUl
          have HUL := Lib.hid (show yU.length ≤ 1048576 from hUl)
          clear hb hU hUl
          go_wp2_with fail
          refine (eulB_at HU.out).mono ?_
          rintro e z8 ⟨aU, pU, rfl, hrU, hb⟩
          replace HB := Lib.hid (below_on HB.out hb)
          have HRU := Lib.hid hrU
          clear hb hrU
          go_wp2_with fail
          refine (ansL_at (specEul_any U _) HU.out).mono ?_
          rintro e z9 ⟨sU, rfl, hO, hb⟩
          obtain ⟨aV, pV, rfl, hrV⟩ := hO.reads
          have HRV := Lib.hid hrV
          replace HRU := Lib.hid (HRU.out.kept hb)
          replace HB := Lib.hid (below_on HB.out hb)
          clear hb hO hrV
          go_wp2_with fail
          refine (drawDerangementsWith_any a1 n1 p1 _ HN1.out (HY1.out.kept HB.out)).mono ?_
          rintro e z10 ⟨X, Y, rfl, hb⟩
          replace HRU := Lib.hid (HRU.out.kept hb)
          replace HRV := Lib.hid (HRV.out.kept hb)
          replace HB := Lib.hid (below_on HB.out hb)
          obtain ⟨yX, bX, hX⟩ : ∃ y b, derW X Y = ⟨y, b⟩ := ⟨_, _, rfl⟩
          have HX := Lib.hid hX
          clear hb hX
          go_wp2_with fail
          refine (ansIO_at (implDerW_any X Y _) HX.out).mono ?_
          rintro e z11 ⟨rfl, hb⟩
          replace HRU := Lib.hid (HRU.out.kept hb)
          replace HRV := Lib.hid (HRV.out.kept hb)
          replace HB := Lib.hid (below_on HB.out hb)
          clear hb
          go_wp2_with fail
          refine (ansIO_at (specDerW_any X Y _) HX.out).mono ?_
          rintro e z12 ⟨rfl, hb⟩
          replace HRU := Lib.hid (HRU.out.kept hb)
          replace HRV := Lib.hid (HRV.out.kept hb)
          replace HB := Lib.hid (below_on HB.out hb)
          clear hb HX
          go_wp2_with fail
          refine (kSame_same aU aV yU.length pU pV yU _ HUL.out HRU.out HRV.out).mono ?_
          rintro e z13 ⟨rfl, hb⟩
          replace HRU := Lib.hid (HRU.out.kept hb)
          replace HB := Lib.hid (below_on HB.out hb)
          clear hb HRV
          cases bK
          · cases bU
            · go_wp2_with fail
              go_ret
              exact ⟨rfl, HB.out⟩
            · obtain ⟨u, hu, hu1, hu10, hyu⟩ := eul_yes HU.out
              subst hu
              subst hyu
              have HKF := Lib.hid (fun W => kFact_any u W (by omega))
              have HES := Lib.hid (eul_sum u hu10 hu1)
              have hll := lstL_len u (eul u)
              rw [hll] at HRU HUL ⊢
              have HKS := Lib.hid (fun W (h : Reads W aU u (lstL u (eul u))) => kSum_any aU u pU (lstL u (eul u)) W HUL.out h)
              rw [HES.out] at HKS
              have hff : (fct u == fct u) = true := by simp
              generalize lstL u (eul u) = yy at *
              generalize fct u = ff at *
              go_wp2_with fail
              refine (HKS.out _ HRU.out).mono ?_
              rintro e z20 ⟨rfl, hw⟩
              subst hw
              go_wp2_with fail
              refine (HKF.out _).mono ?_
              rintro e z21 ⟨rfl, hw⟩
              subst hw
              go_wp2_with fail
              go_ret
              exact ⟨by simp, HB.out⟩
          · obtain ⟨k, hk, hk12, hyk⟩ := der_yes HK.out
            subst hk
            subst hyk
            by_cases hk2 : (2 : Int) ≤ k
            · obtain ⟨q, rfl⟩ : ∃ q, k = q + 2 := ⟨k - 2, by omega⟩
              have HD1 := Lib.hid (show derB (((q + 2 : Nat) : Int) - 1) = ⟨(der (q + 1) : Nat), true⟩ by
                rw [show (((q + 2 : Nat) : Int) - 1) = ((q + 1 : Nat) : Int) by omega]
                exact derB_nat (q + 1) (by omega))
              have HD2 := Lib.hid (show derB (((q + 2 : Nat) : Int) - 2) = ⟨(der q : Nat), true⟩ by
                rw [show (((q + 2 : Nat) : Int) - 2) = ((q : Nat) : Int) by omega]
                exact derB_nat q (by omega))
              have hw1 : IntKind.i64.wrap (((q + 2 : Nat) : Int) - 1) = ((q + 2 : Nat) : Int) - 1 := IntWalk.i64_in _ (by omega)
              have hw2 : IntKind.i64.wrap (((q + 2 : Nat) : Int) - 2) = ((q + 2 : Nat) : Int) - 2 := IntWalk.i64_in _ (by omega)
              have hx := der_step q (by omega)
              have HST := Lib.hid hx
              have hxx : ((der (q + 2) : Int) != der (q + 2)) = false := by simp
              obtain ⟨kk, hkk⟩ : ∃ kk : Int, kk = ((q + 2 : Nat) : Int) := ⟨_, rfl⟩
              rw [← hkk] at HD1 HD2 hw1 hw2 hk2 HST ⊢
              obtain ⟨d0, hd0⟩ : ∃ d0 : Int, d0 = (der q : Nat) := ⟨_, rfl⟩
              obtain ⟨d1, hd1⟩ : ∃ d1 : Int, d1 = (der (q + 1) : Nat) := ⟨_, rfl⟩
              obtain ⟨d2, hd2⟩ : ∃ d2 : Int, d2 = (der (q + 2) : Nat) := ⟨_, rfl⟩
              rw [← hd0] at HD2 HST
              rw [← hd1] at HD1 HST
              rw [← hd2] at HST hxx ⊢
              obtain ⟨hs1, hs2⟩ := HST.out
              clear hx hkk hd0 hd1 hd2 HK HST
              go_wp2_with fail
              refine (ansIO_at (implDer_any _ _) HD1.out).mono ?_
              rintro e z14 ⟨rfl, hb⟩
              replace HRU := Lib.hid (HRU.out.kept hb)
              replace HB := Lib.hid (below_on HB.out hb)
              clear hb
              go_wp2_with fail
              refine (ansIO_at (implDer_any _ _) HD2.out).mono ?_
              rintro e z15 ⟨rfl, hb⟩
              replace HRU := Lib.hid (HRU.out.kept hb)
              replace HB := Lib.hid (below_on HB.out hb)
              clear hb
              cases bU
              · go_wp2_with fail
                go_ret
                exact ⟨rfl, HB.out⟩
              · obtain ⟨u, hu, hu1, hu10, hyu⟩ := eul_yes HU.out
                subst hu
                subst hyu
                have HKF := Lib.hid (fun W => kFact_any u W (by omega))
                have HES := Lib.hid (eul_sum u hu10 hu1)
                have hll := lstL_len u (eul u)
                rw [hll] at HRU HUL ⊢
                have HKS := Lib.hid (fun W (h : Reads W aU u (lstL u (eul u))) => kSum_any aU u pU (lstL u (eul u)) W HUL.out h)
                rw [HES.out] at HKS
                have hff : (fct u == fct u) = true := by simp
                generalize lstL u (eul u) = yy at *
                generalize fct u = ff at *
                go_wp2_with fail
                refine (HKS.out _ HRU.out).mono ?_
                rintro e z20 ⟨rfl, hw⟩
                subst hw
                go_wp2_with fail
                refine (HKF.out _).mono ?_
                rintro e z21 ⟨rfl, hw⟩
                subst hw
                go_wp2_with fail
                go_ret
                exact ⟨by simp, HB.out⟩
            · cases bU
              · go_wp2_with fail
                go_ret
                exact ⟨rfl, HB.out⟩
              · obtain ⟨u, hu, hu1, hu10, hyu⟩ := eul_yes HU.out
                subst hu
                subst hyu
                have HKF := Lib.hid (fun W => kFact_any u W (by omega))
                have HES := Lib.hid (eul_sum u hu10 hu1)
                have hll := lstL_len u (eul u)
                rw [hll] at HRU HUL ⊢
                have HKS := Lib.hid (fun W (h : Reads W aU u (lstL u (eul u))) => kSum_any aU u pU (lstL u (eul u)) W HUL.out h)
                rw [HES.out] at HKS
                have hff : (fct u == fct u) = true := by simp
                generalize lstL u (eul u) = yy at *
                generalize fct u = ff at *
                go_wp2_with fail
                refine (HKS.out _ HRU.out).mono ?_
                rintro e z20 ⟨rfl, hw⟩
                subst hw
                go_wp2_with fail
                refine (HKF.out _).mono ?_
                rintro e z21 ⟨rfl, hw⟩
                subst hw
                go_wp2_with fail
                go_ret
                exact ⟨by simp, HB.out⟩
    · have HBD := Lib.hid (show diagB n = ⟨n, n, rowsL diagR n, true⟩ by simp [diagB, ruleB, inB_yes (show (1 : Int) ≤ n by omega) (show (n : Int) ≤ 6 by omega)])
      have HBA := Lib.hid (show aboveB n = ⟨n, n, rowsL aboveR n, true⟩ by simp [aboveB, ruleB, inB_yes (show (1 : Int) ≤ n by omega) (show (n : Int) ≤ 6 by omega)])
      have HKD := Lib.hid (kd_hit n (by omega) (by omega))
      have HKA := Lib.hid (ka_hit n (by omega) (by omega))
      have HLD := Lib.hid (rowsL_len diagR n)
      have HLA := Lib.hid (rowsL_len aboveR n)
      have HBT := Lib.hid (show tableB n = ⟨0, 0, [], false⟩ by simp [tableB, ruleB, inB_no (show ¬ ((2 : Int) ≤ n ∧ (n : Int) ≤ 6) by omega), BR.zero])
      obtain ⟨xT, hxT⟩ : ∃ x : List Int, x = [] := ⟨_, rfl⟩
      have HLT : Hid (xT.length = 0) := Lib.hid (by rw [hxT]; rfl)
      rw [← hxT] at HBT
      clear hxT
      obtain ⟨xD, hxD⟩ : ∃ x, x = rowsL diagR n := ⟨_, rfl⟩
      obtain ⟨xA, hxA⟩ : ∃ x, x = rowsL aboveR n := ⟨_, rfl⟩
      rw [← hxD] at HBD HKD HLD
      rw [← hxA] at HBA HKA HLA
      clear hxD hxA
      go_wp2_with fail
      refine (ansB_at (implDiagonalBoard_any (n : Int) _) HBD.out).mono ?_
      rintro e w2 ⟨s0, rfl, hO, hb⟩
      obtain ⟨q0, c0, rfl, _⟩ := hO.reads
      rw [HLD.out] at hO ⊢
      have HM0 := Lib.hid ((HL1.out.own hb hO).box (.int .i64 n) (.int .i64 n) (.slice q0 n c0) 27)
      clear hO hb HL1
      go_wp2_with fail
      refine (ansB_at (specDiagonalBoard_any (n : Int) _) HBD.out).mono ?_
      rintro e w3 ⟨s1, rfl, hO, hb⟩
      obtain ⟨q1, c1, rfl, _⟩ := hO.reads
      rw [HLD.out] at hO ⊢
      have HM1 := Lib.hid ((HM0.out.own hb hO).box (.int .i64 n) (.int .i64 n) (.slice q1 n c1) 27)
      clear hO hb HM0
      go_wp2_with fail
      refine (ansB_at (implAboveBoard_any (n : Int) _) HBA.out).mono ?_
      rintro e w4 ⟨s2, rfl, hO, hb⟩
      obtain ⟨q2, c2, rfl, _⟩ := hO.reads
      rw [HLA.out] at hO ⊢
      have HM2 := Lib.hid ((HM1.out.own hb hO).box (.int .i64 n) (.int .i64 n) (.slice q2 n c2) 27)
      clear hO hb HM1
      go_wp2_with fail
      refine (ansB_at (specAboveBoard_any (n : Int) _) HBA.out).mono ?_
      rintro e w5 ⟨s3, rfl, hO, hb⟩
      obtain ⟨q3, c3, rfl, _⟩ := hO.reads
      rw [HLA.out] at hO ⊢
      have HM3 := Lib.hid ((HM2.out.own hb hO).box (.int .i64 n) (.int .i64 n) (.slice q3 n c3) 27)
      clear hO hb HM2
      go_wp2_with fail
      refine (ansB_at (implTableBoard_any (n : Int) _) HBT.out).mono ?_
      rintro e w6 ⟨s4, rfl, hO, hb⟩
      obtain ⟨q4, c4, rfl, _⟩ := hO.reads
      rw [HLT.out] at hO ⊢
      have HM4 := Lib.hid ((HM3.out.own hb hO).box (.int .i64 0) (.int .i64 0) (.slice q4 0 c4) 27)
      clear hO hb HM3
      go_wp2_with fail
      refine (ansB_at (specTableBoard_any (n : Int) _) HBT.out).mono ?_
      rintro e w7 ⟨s5, rfl, hO, hb⟩
      obtain ⟨q5, c5, rfl, _⟩ := hO.reads
      rw [HLT.out] at hO ⊢
      have HM5 := Lib.hid ((HM4.out.own hb hO).box (.int .i64 0) (.int .i64 0) (.slice q5 0 c5) 27)
      clear hO hb HM4
      have ⟨_, u0, u0', u0'', _⟩ := (HM5.out.tl.tl.tl.tl.tl.tl.tl.tl.tl.tl).ownBox
      have ⟨_, u1, u1', u1'', _⟩ := (HM5.out.tl.tl.tl.tl.tl.tl.tl.tl).ownBox
      have hr0 := (own_rdY (HM5.out.tl.tl.tl.tl.tl.tl.tl.tl.tl.tl.tl).ownInts).2
      have hr1 := (own_rdY (HM5.out.tl.tl.tl.tl.tl.tl.tl.tl.tl).ownInts).2
      go_wp2_with fail
      refine (kBoard_same n n q0 q1 n c0 c1 xD _ (by omega) hr0 hr1).mono ?_
      rintro e v1 ⟨rfl, hb⟩
      have HV1 := Lib.hid (HM5.out.kept hb)
      clear hb u0 u0' u0'' u1 u1' u1'' hr0 hr1 HM5
      have ⟨_, u2, u2', u2'', _⟩ := (HV1.out.tl.tl.tl.tl.tl.tl).ownBox
      have ⟨_, u3, u3', u3'', _⟩ := (HV1.out.tl.tl.tl.tl).ownBox
      have hr2 := (own_rdY (HV1.out.tl.tl.tl.tl.tl.tl.tl).ownInts).2
      have hr3 := (own_rdY (HV1.out.tl.tl.tl.tl.tl).ownInts).2
      go_wp2_with fail
      refine (kBoard_same n n q2 q3 n c2 c3 xA _ (by omega) hr2 hr3).mono ?_
      rintro e v2 ⟨rfl, hb⟩
      have HV2 := Lib.hid (HV1.out.kept hb)
      clear hb u2 u2' u2'' u3 u3' u3'' hr2 hr3 HV1
      have ⟨_, u4, u4', u4'', _⟩ := (HV2.out.tl.tl).ownBox
      have ⟨_, u5, u5', u5'', _⟩ := (HV2.out).ownBox
      have hr4 := (own_rdY (HV2.out.tl.tl.tl).ownInts).2
      have hr5 := (own_rdY (HV2.out.tl).ownInts).2
      go_wp2_with fail
      refine (kBoard_same 0 0 q4 q5 0 c4 c5 xT _ (by omega) hr4 hr5).mono ?_
      rintro e v3 ⟨rfl, hb⟩
      have HV3 := Lib.hid (HV2.out.kept hb)
      clear hb u4 u4' u4'' u5 u5' u5'' hr4 hr5 HV2
      have ⟨_, u0, u0', u0'', _⟩ := (HV3.out.tl.tl.tl.tl.tl.tl.tl.tl.tl.tl).ownBox
      have hoD := (HV3.out.tl.tl.tl.tl.tl.tl.tl.tl.tl.tl.tl).ownInts
      go_wp2_with fail
      refine (ansL_at (implHits_any n n xD _ (by rw [HLD.out]; omega) 0 _ hoD) HKD.out).mono ?_
      rintro e y1 ⟨s6, rfl, hO, hb⟩
      obtain ⟨q6, c6, rfl, hr6⟩ := hO.reads
      rw [kdL_len] at hr6 ⊢
      have HW1 := Lib.hid (HV3.out.kept hb)
      have HR6 := Lib.hid hr6
      clear hb hO hr6 u0 u0' u0'' hoD HV3
      have ⟨_, u2, u2', u2'', _⟩ := (HW1.out.tl.tl.tl.tl.tl.tl).ownBox
      have hoA := (HW1.out.tl.tl.tl.tl.tl.tl.tl).ownInts
      go_wp2_with fail
      refine (ansL_at (implHits_any n n xA _ (by rw [HLA.out]; omega) 0 _ hoA) HKA.out).mono ?_
      rintro e y2 ⟨s7, rfl, hO, hb⟩
      obtain ⟨q7, c7, rfl, hr7⟩ := hO.reads
      rw [kaL_len] at hO hr7 ⊢
      have HC7 := Lib.hid (own_capK hO)
      have HW2 := Lib.hid (HW1.out.kept hb)
      replace HR6 := Lib.hid (HR6.out.kept hb)
      have HR7 := Lib.hid hr7
      clear hb hO hr7 u2 u2' u2'' hoA HW1
      go_wp2_with fail
      refine (ansIO_at (implDer_any n _) (derB_nat n (by omega))).mono ?_
      rintro e y3 ⟨rfl, hb⟩
      have HW3 := Lib.hid (HW2.out.kept hb)
      replace HR6 := Lib.hid (HR6.out.kept hb)
      replace HR7 := Lib.hid (HR7.out.kept hb)
      clear hb HW2
      go_wp2_with fail
      refine (eulB_at (eulR_nat n (by omega) (by omega))).mono ?_
      rintro e y4 ⟨a8, p8, rfl, hr8, hb⟩
      rw [lstL_len] at hr8 ⊢
      have HW4 := Lib.hid (HW3.out.kept hb)
      replace HR6 := Lib.hid (HR6.out.kept hb)
      replace HR7 := Lib.hid (HR7.out.kept hb)
      have HR8 := Lib.hid hr8
      clear hb hr8 HW3
      obtain ⟨b6, o6, rfl, _, hc6⟩ := reads_row HR6.out (by omega)
      obtain ⟨b7, o7, rfl, _, hc7⟩ := reads_row HR7.out (by omega)
      have g6 := hc6 0 (by omega)
      rw [kdL_zero n hn6, Nat.add_zero] at g6
      have g7 := hc7 n (by omega)
      rw [kaL_last] at g7
      have hcap := HC7.out
      have hnn0 : (0 : Int) ≤ n := by omega
      have hnn1 : (n : Int) < (n : Int) + 1 := by omega
      have hnn2 : (n : Int) ≤ c7 := by omega
      have hnn3 : n ≤ c7 := by omega
      have hn0' : (0 : Int) < (n : Int) + 1 := by omega
      have HRT := Lib.hid (show Reads y4 (some ⟨b7, o7, none⟩) n (lstL n (eul n)) by
        rw [← kaL_take]
        refine ⟨by rw [List.length_take, kaL_len]; omega, .inr ⟨b7, o7, rfl, ?_, fun j hj => ?_⟩⟩
        · exact World.block_lt_of_cell? _ _ g7
        · rw [hc7 j (by omega)]
          rw [List.getD_eq_getElem?_getD, List.getD_eq_getElem?_getD, List.getElem?_take, if_pos hj])
      have hdd : ((der n : Int) != der n) = false := by simp
      clear hc6 hc7
      go_wp2_with fail
      refine (kSame_same (some ⟨b7, o7, none⟩) a8 n c7 p8 (lstL n (eul n)) _ (by omega) HRT.out HR8.out).mono ?_
      rintro e y5 ⟨rfl, hb⟩
      have HW5 := Lib.hid (HW4.out.kept hb)
      replace HR6 := Lib.hid (HR6.out.kept hb)
      clear hb HW4 HRT HR8 HR7 g6 g7
      go_wp2_with fail
      go_loopw [198] (fun i wr => ∃ k : Nat, k ≤ n + 1 ∧ i = .int .i64 k ∧ Below y5.heap.size y5 wr) (fun i _ => n + 1 - (intOf i).toNat)
      case atStart => exact ⟨0, Nat.zero_le _, rfl, Below.refl _ _⟩
      case round =>
        obtain ⟨k, hk, rfl, hb0⟩ := hrel
        have HB0 := Lib.hid hb0
        by_cases hlt : k < n + 1
        · obtain ⟨b6', o6', e6, _, hc6⟩ := reads_row (HR6.out.kept hb0) (by omega)
          injection e6 with e6
          injection e6 with e61 e62
          subst e61
          subst e62
          have g6 := hc6 k hlt
          rw [kdL_get n k (by omega)] at g6
          have hlt' : (k : Int) < (n : Int) + 1 := by omega
          have hk0 : (0 : Int) ≤ k := by omega
          have HDW := Lib.hid (derW_nat n k (by omega) (by omega))
          have hxx : ((((chs n k * der (n - k) : Nat)) : Int) != ((chs n k * der (n - k) : Nat) : Int)) = false := by simp
          generalize ((chs n k * der (n - k) : Nat) : Int) = zz at *
          clear hc6 hb0
          go_wp2_with fail
          refine (ansIO_at (implDerW_any n k _) HDW.out).mono ?_
          rintro e y6 ⟨rfl, hb⟩
          have HB1 := Lib.hid (below_on HB0.out hb)
          clear hb
          go_wp2_with fail
          go_roundw
          case rel => exact ⟨k + 1, by omega, by go_num, HB1.out⟩
          case measure => simp [intOf]; omega
        · obtain hke : k = n + 1 := by omega
          have hlt' : ¬ (k : Int) < (n : Int) + 1 := by omega
          have HW6 := Lib.hid (HW5.out.kept hb0)
          clear HW5 HB0 hb0
          have HB := Lib.hid HW6.out.below
          clear HW6
          go_wp2_with fail
          refine (drawDrawDerangements_any a1 n1 p1 _ HN1.out (HY1.out.kept HB.out)).mono ?_
          rintro e z1 ⟨K, rfl, hb⟩
          replace HB := Lib.hid (below_on HB.out hb)
          obtain ⟨yK, bK, hK⟩ : ∃ y b, derB K = ⟨y, b⟩ := ⟨_, _, rfl⟩
          have HK := Lib.hid hK
          clear hb hK
          go_wp2_with fail
          refine (ansIO_at (implDer_any K _) HK.out).mono ?_
          rintro e z2 ⟨rfl, hb⟩
          replace HB := Lib.hid (below_on HB.out hb)
          clear hb
          go_wp2_with fail
          refine (ansIO_at (specDer_any K _) HK.out).mono ?_
          rintro e z3 ⟨rfl, hb⟩
          replace HB := Lib.hid (below_on HB.out hb)
          clear hb
          go_wp2_with fail
          refine (drawDrawCountCouples_any a1 n1 p1 _ HN1.out (HY1.out.kept HB.out)).mono ?_
          rintro e z4 ⟨M, rfl, hb⟩
          replace HB := Lib.hid (below_on HB.out hb)
          obtain ⟨yM, bM, hM⟩ : ∃ y b, cplB M = ⟨y, b⟩ := ⟨_, _, rfl⟩
          have HM := Lib.hid hM
          clear hb hM
          go_wp2_with fail
          refine (ansIO_at (implCpl_any M _) HM.out).mono ?_
          rintro e z5 ⟨rfl, hb⟩
          replace HB := Lib.hid (below_on HB.out hb)
          clear hb
          go_wp2_with fail
          refine (ansIO_at (specCpl_any M _) HM.out).mono ?_
          rintro e z6 ⟨rfl, hb⟩
          replace HB := Lib.hid (below_on HB.out hb)
          clear hb HM
          go_wp2_with fail
          refine (drawDrawEulerNumbers_any a1 n1 p1 _ HN1.out (HY1.out.kept HB.out)).mono ?_
          rintro e z7 ⟨U, rfl, hb⟩
          replace HB := Lib.hid (below_on HB.out hb)
          obtain ⟨yU, bU, hU⟩ : ∃ y b, eulR U = ⟨y, b⟩ := ⟨_, _, rfl⟩
          have HU := Lib.hid hU
          have hUl := eulR_len U
          rw [hU] at hUl
          have HUL := Lib.hid (show yU.length ≤ 1048576 from hUl)
          clear hb hU hUl
          go_wp2_with fail
          refine (eulB_at HU.out).mono ?_
          rintro e z8 ⟨aU, pU, rfl, hrU, hb⟩
          replace HB := Lib.hid (below_on HB.out hb)
          have HRU := Lib.hid hrU
          clear hb hrU
          go_wp2_with fail
          refine (ansL_at (specEul_any U _) HU.out).mono ?_
          rintro e z9 ⟨sU, rfl, hO, hb⟩
          obtain ⟨aV, pV, rfl, hrV⟩ := hO.reads
          have HRV := Lib.hid hrV
          replace HRU := Lib.hid (HRU.out.kept hb)
          replace HB := Lib.hid (below_on HB.out hb)
          clear hb hO hrV
          go_wp2_with fail
          refine (drawDerangementsWith_any a1 n1 p1 _ HN1.out (HY1.out.kept HB.out)).mono ?_
          rintro e z10 ⟨X, Y, rfl, hb⟩
          replace HRU := Lib.hid (HRU.out.kept hb)
          replace HRV := Lib.hid (HRV.out.kept hb)
          replace HB := Lib.hid (below_on HB.out hb)
          obtain ⟨yX, bX, hX⟩ : ∃ y b, derW X Y = ⟨y, b⟩ := ⟨_, _, rfl⟩
          have HX := Lib.hid hX
          clear hb hX
          go_wp2_with fail
          refine (ansIO_at (implDerW_any X Y _) HX.out).mono ?_
          rintro e z11 ⟨rfl, hb⟩
          replace HRU := Lib.hid (HRU.out.kept hb)
          replace HRV := Lib.hid (HRV.out.kept hb)
          replace HB := Lib.hid (below_on HB.out hb)
          clear hb
          go_wp2_with fail
          refine (ansIO_at (specDerW_any X Y _) HX.out).mono ?_
          rintro e z12 ⟨rfl, hb⟩
          replace HRU := Lib.hid (HRU.out.kept hb)
          replace HRV := Lib.hid (HRV.out.kept hb)
          replace HB := Lib.hid (below_on HB.out hb)
          clear hb HX
          go_wp2_with fail
          refine (kSame_same aU aV yU.length pU pV yU _ HUL.out HRU.out HRV.out).mono ?_
          rintro e z13 ⟨rfl, hb⟩
          replace HRU := Lib.hid (HRU.out.kept hb)
          replace HB := Lib.hid (below_on HB.out hb)
          clear hb HRV
          cases bK
          · cases bU
            · go_wp2_with fail
              go_ret
              exact ⟨rfl, HB.out⟩
            · obtain ⟨u, hu, hu1, hu10, hyu⟩ := eul_yes HU.out
              subst hu
              subst hyu
              have HKF := Lib.hid (fun W => kFact_any u W (by omega))
              have HES := Lib.hid (eul_sum u hu10 hu1)
              have hll := lstL_len u (eul u)
              rw [hll] at HRU HUL ⊢
              have HKS := Lib.hid (fun W (h : Reads W aU u (lstL u (eul u))) => kSum_any aU u pU (lstL u (eul u)) W HUL.out h)
              rw [HES.out] at HKS
              have hff : (fct u == fct u) = true := by simp
              generalize lstL u (eul u) = yy at *
              generalize fct u = ff at *
              go_wp2_with fail
              refine (HKS.out _ HRU.out).mono ?_
              rintro e z20 ⟨rfl, hw⟩
              subst hw
              go_wp2_with fail
              refine (HKF.out _).mono ?_
              rintro e z21 ⟨rfl, hw⟩
              subst hw
              go_wp2_with fail
              go_ret
              exact ⟨by simp, HB.out⟩
          · obtain ⟨k, hk, hk12, hyk⟩ := der_yes HK.out
            subst hk
            subst hyk
            by_cases hk2 : (2 : Int) ≤ k
            · obtain ⟨q, rfl⟩ : ∃ q, k = q + 2 := ⟨k - 2, by omega⟩
              have HD1 := Lib.hid (show derB (((q + 2 : Nat) : Int) - 1) = ⟨(der (q + 1) : Nat), true⟩ by
                rw [show (((q + 2 : Nat) : Int) - 1) = ((q + 1 : Nat) : Int) by omega]
                exact derB_nat (q + 1) (by omega))
              have HD2 := Lib.hid (show derB (((q + 2 : Nat) : Int) - 2) = ⟨(der q : Nat), true⟩ by
                rw [show (((q + 2 : Nat) : Int) - 2) = ((q : Nat) : Int) by omega]
                exact derB_nat q (by omega))
              have hw1 : IntKind.i64.wrap (((q + 2 : Nat) : Int) - 1) = ((q + 2 : Nat) : Int) - 1 := IntWalk.i64_in _ (by omega)
              have hw2 : IntKind.i64.wrap (((q + 2 : Nat) : Int) - 2) = ((q + 2 : Nat) : Int) - 2 := IntWalk.i64_in _ (by omega)
              have hx := der_step q (by omega)
              have HST := Lib.hid hx
              have hxx : ((der (q + 2) : Int) != der (q + 2)) = false := by simp
              obtain ⟨kk, hkk⟩ : ∃ kk : Int, kk = ((q + 2 : Nat) : Int) := ⟨_, rfl⟩
              rw [← hkk] at HD1 HD2 hw1 hw2 hk2 HST ⊢
              obtain ⟨d0, hd0⟩ : ∃ d0 : Int, d0 = (der q : Nat) := ⟨_, rfl⟩
              obtain ⟨d1, hd1⟩ : ∃ d1 : Int, d1 = (der (q + 1) : Nat) := ⟨_, rfl⟩
              obtain ⟨d2, hd2⟩ : ∃ d2 : Int, d2 = (der (q + 2) : Nat) := ⟨_, rfl⟩
              rw [← hd0] at HD2 HST
              rw [← hd1] at HD1 HST
              rw [← hd2] at HST hxx ⊢
              obtain ⟨hs1, hs2⟩ := HST.out
              clear hx hkk hd0 hd1 hd2 HK HST
              go_wp2_with fail
              refine (ansIO_at (implDer_any _ _) HD1.out).mono ?_
              rintro e z14 ⟨rfl, hb⟩
              replace HRU := Lib.hid (HRU.out.kept hb)
              replace HB := Lib.hid (below_on HB.out hb)
              clear hb
              go_wp2_with fail
              refine (ansIO_at (implDer_any _ _) HD2.out).mono ?_
              rintro e z15 ⟨rfl, hb⟩
              replace HRU := Lib.hid (HRU.out.kept hb)
              replace HB := Lib.hid (below_on HB.out hb)
              clear hb
              cases bU
              · go_wp2_with fail
                go_ret
                exact ⟨rfl, HB.out⟩
              · obtain ⟨u, hu, hu1, hu10, hyu⟩ := eul_yes HU.out
                subst hu
                subst hyu
                have HKF := Lib.hid (fun W => kFact_any u W (by omega))
                have HES := Lib.hid (eul_sum u hu10 hu1)
                have hll := lstL_len u (eul u)
                rw [hll] at HRU HUL ⊢
                have HKS := Lib.hid (fun W (h : Reads W aU u (lstL u (eul u))) => kSum_any aU u pU (lstL u (eul u)) W HUL.out h)
                rw [HES.out] at HKS
                have hff : (fct u == fct u) = true := by simp
                generalize lstL u (eul u) = yy at *
                generalize fct u = ff at *
                go_wp2_with fail
                refine (HKS.out _ HRU.out).mono ?_
                rintro e z20 ⟨rfl, hw⟩
                subst hw
                go_wp2_with fail
                refine (HKF.out _).mono ?_
                rintro e z21 ⟨rfl, hw⟩
                subst hw
                go_wp2_with fail
                go_ret
                exact ⟨by simp, HB.out⟩
            · cases bU
              · go_wp2_with fail
                go_ret
                exact ⟨rfl, HB.out⟩
              · obtain ⟨u, hu, hu1, hu10, hyu⟩ := eul_yes HU.out
                subst hu
                subst hyu
                have HKF := Lib.hid (fun W => kFact_any u W (by omega))
                have HES := Lib.hid (eul_sum u hu10 hu1)
                have hll := lstL_len u (eul u)
                rw [hll] at HRU HUL ⊢
                have HKS := Lib.hid (fun W (h : Reads W aU u (lstL u (eul u))) => kSum_any aU u pU (lstL u (eul u)) W HUL.out h)
                rw [HES.out] at HKS
                have hff : (fct u == fct u) = true := by simp
                generalize lstL u (eul u) = yy at *
                generalize fct u = ff at *
                go_wp2_with fail
                refine (HKS.out _ HRU.out).mono ?_
                rintro e z20 ⟨rfl, hw⟩
                subst hw
                go_wp2_with fail
                refine (HKF.out _).mono ?_
                rintro e z21 ⟨rfl, hw⟩
                subst hw
                go_wp2_with fail
                go_ret
                exact ⟨by simp, HB.out⟩

set_option maxRecDepth 100000 in
set_option maxHeartbeats 1600000 in
theorem walk_big (a0 a1 : Option Addr) (n0 p0 n1 p1 : Nat) (w : World) (hm0 : n0 ≤ 9223372036854775807) (hm1 : n1 ≤ 9223372036854775807) (h : ¬ (n0 ≤ 1048576 ∧ n1 ≤ 1048576 - n0)) :
    Calls Try.prog 3 #[.slice a0 n0 p0, .slice a1 n1 p1] w fun e w' => e = .returned (.bool true) ∧ Below w.heap.size w w' := by
  have HBIG := Lib.hid (big_yes a0 a1 n0 p0 n1 p1 w hm0 hm1 h)
  clear h
  go_enter Try.func3, Try.ntmps3
  go_wp2_with fail
  refine HBIG.out.mono ?_
  rintro e w' ⟨rfl, hw⟩
  subst w'
  go_wp2_with fail
  go_ret
  exact ⟨rfl, Below.refl _ _⟩

theorem walk_all (a0 a1 : Option Addr) (n0 p0 n1 p1 : Nat) (w : World) (hm0 : n0 ≤ 9223372036854775807) (hm1 : n1 ≤ 9223372036854775807) (hy0 : ReadsY w a0 n0) (hy1 : ReadsY w a1 n1) :
    Calls Try.prog 3 #[.slice a0 n0 p0, .slice a1 n1 p1] w fun e w' => e = .returned (.bool true) ∧ Below w.heap.size w w' := by
  by_cases h : n0 ≤ 1048576 ∧ n1 ≤ 1048576 - n0
  · exact walk a0 a1 n0 p0 n1 p1 w h.1 h.2 hy0 hy1
  · exact walk_big a0 a1 n0 p0 n1 p1 w hm0 hm1 h

set_option maxRecDepth 100000 in
theorem contract (H : Type) (enc : TypeId × Value → H) (W : World) (base : Nat) (args : Array Value) (ds gs : List (DataW H)) (before : List MemPlace)
    (hval : ∀ (j : Nat) t v, Try.f3.params[j]? = some t → args[j]? = some v → Value.okWide Try.prog W .any base t v)
    (hW : DataW.Whole enc Try.prog Try.f3.params.toList Rows.fnKnownHitsSpec.vars false W args.toList ds gs before) :
    Calls Try.prog 3 args W fun e W' => ∃ v, e = .returned v ∧ Rows.fnKnownHitsSpec.post enc Try.prog Try.f3 false true false false W args v W' := by
  have hW' := hW
  obtain ⟨p, q, hA0, hV, rfl, hfz, hnd⟩ := hW
  have hA : DataW.TrodAll enc Try.prog W 0 (fun _ => true) true Try.f3.params.toList args.toList ds p := hA0
  rw [Try.params3] at hA hval
  obtain ⟨v0, v1, d0, d1, p0, p1, rfl, rfl, rfl, h0, h1⟩ := trodAll_two hA
  obtain ⟨rfl, rfl⟩ := trodVars_none hV
  clear hA0
  simp only [List.append_nil] at hW'
  have hlt : ∀ x ∈ p0 ++ p1, x.block < W.heap.size := fun x hx => by have := hW'.lt x (by simpa using hx); simpa using this
  have hc1 : Try.prog.cellsOf 5 = 1 := by kernel_rfl
  have t0 := h0
  obtain ⟨a0, n0, c0, rfl⟩ := okWide_slice Try.underlying22 (hval 0 22 v0 rfl rfl)
  obtain ⟨fu0, hf0⟩ := h0
  obtain ⟨m0, y0⟩ := readsY_of hc1 (by simpa [Value.cells] using hf0)
  have t1 := h1
  obtain ⟨a1, n1, c1, rfl⟩ := okWide_slice Try.underlying22 (hval 1 22 v1 rfl rfl)
  obtain ⟨fu1, hf1⟩ := h1
  obtain ⟨m1, y1⟩ := readsY_of hc1 (by simpa [Value.cells] using hf1)
  refine (walk_all a0 a1 n0 c0 n1 c1 W m0 m1 y0 y1).mono ?_
  rintro e W' ⟨rfl, hb⟩
  exact ⟨_, rfl, _, _, _, [], _, [], hW', trodAll_mk1 (shut_bool Try.underlying4 _), trodAll_mk2 (Below.trod Try.laidOut (by kernel_rfl) (of_decide_eq_true (by kernel_rfl)) t0 hb (fun x hx => hlt x (by simp [hx]))) (Below.trod Try.laidOut (by kernel_rfl) (of_decide_eq_true (by kernel_rfl)) t1 hb (fun x hx => hlt x (by simp [hx]))), rfl, hb.frame _, fun h => by cases h⟩

set_option maxRecDepth 100000 in
theorem lifted (os : Os) (started : os.Started) (H : Type) (enc : TypeId × Value → H) :
    ReturnsInHanded {} Try.checked os 3 .any (Rows.fnKnownHitsSpec.pre6 enc Try.prog Try.f3 Rows.fnKnownHitsRow.domain false) (Rows.fnKnownHitsSpec.post enc Try.prog Try.f3 false true false false) := by
  refine returnsInHanded_of_change (C := Try.checked) Try.own started (by kernel_rfl) Try.func3
    (ChangeSpec.witness6 (enc := enc) (C := Try.checked) false ⟨#[], #[.slice none 0 0, .slice none 0 0], []⟩ 8 (by kernel_rfl) (by kernel_rfl) (by kernel_rfl) (by kernel_rfl)) ?_
  intro W base args ds gs before hval hW _ _
  exact contract H enc W base args ds gs before hval hW

theorem holds : Rows.FnKnownHitsSaid :=
  OpenClaim.holds_of_wide 3 Try.f3 rfl rfl rfl rfl rfl rfl rfl ⟨rfl, rfl, rfl, rfl, rfl⟩ rfl rfl rfl rfl rfl (by kernel_rfl) Try.func3 (by kernel_rfl)
    (of_decide_eq_true (by kernel_rfl)) (by unfold Func.isWrapper; first | (rw [if_pos (by decide +kernel)]; kernel_rfl) | (rw [if_neg (by decide +kernel)]; exact ⟨rfl, rfl⟩))
    (fun os started H enc _ => lifted os started H enc)

#print axioms holds
end Go.Proofs.Ytaipcmplpjkebaa.lKnownHits
