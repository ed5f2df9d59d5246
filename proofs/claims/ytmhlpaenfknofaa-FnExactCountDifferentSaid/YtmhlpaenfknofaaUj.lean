/- All queens as lists, the first ones; those that go on and those on tori, in both texts. No condition but the sizes. -/
import Derived.Test.YtmhlpaenfknofaaUi
import Derived.Test.YtmhlpaenfknofaaM4
namespace Go.Proofs.Ytmhlpaenfknofaa
open Go.RowKit Go.WideShapes Go.ChangeShapes Go.ChangeAt Go.Joins

set_option maxRecDepth 100000 in
set_option maxHeartbeats 6400000 in
theorem implAllQ_any (n : Int) (w : World) : Calls Try.prog 30 #[.int .i64 n] w fun e w' => AnsM (allQR n) w e w' := by
  cases hg : inB 1 n 8
  · rw [show allQR n = ⟨[], false⟩ by simp [allQR, hg]]
    have HQ := Lib.hid (at_boolV (isQueenSide_any n w) hg)
    clear hg
    go_enter Try.func30, Try.ntmps30
    go_wp2_with (go_at_call 55; ((with_reducible refine HQ.out.mono ?_); rintro e w' ⟨rfl, rfl⟩))
    go_ret2
    exact ⟨_, _, rfl, OwnM.nil _ _, Below.refl _ _⟩
  · have HQ := Lib.hid (fun W => at_boolV (isQueenSide_any n W) hg)
    obtain ⟨m, rfl, m1, m8⟩ := inB_nat hg
    rw [show allQR m = ⟨quA bQ m m [], true⟩ by simp [allQR, hg]]
    have HA := Lib.hid (fun W => allQueens_any m W m8)
    have HGD := Lib.hid (fun q hq => (gd_facts (all_gd bQ m m1 m8 q hq).2).2.1)
    have hfew := all_few bQ m m8
    generalize quA bQ m m [] = L at *
    obtain ⟨i0, hi, hz0, hz1, hz2⟩ := info_parts Try.infoL
    have HFEW := Lib.hid hfew
    clear hg
    go_enter Try.func30, Try.ntmps30
    go_wp2_with (go_at_call 55; ((with_reducible refine (HQ.out _).mono ?_); rintro e w' ⟨rfl, rfl⟩))
    refine (HA.out _).mono ?_
    rintro e w2 ⟨v, rfl, hO, hb⟩
    obtain ⟨av, pv, rfl⟩ := hO.form
    have L2 := (Law.start _).addQ hb hO
    have HL2 := Lib.hid L2
    clear hO hb L2
    go_wp2_with (at_make; refine wpList_make_full _ rfl _ _ 28 rfl w2.heap.size 22 i0 (.slice none 0 0) 1 Try.underlying28 hi hz0 hz1 .i64 .i64 _ _ L.length rfl rfl rfl rfl ?b1 ?b2 ?b3 ?_)
    case b1 => rw [hz2]; omega
    case b2 => unfold maxLen; omega
    case b3 => exact Nat.le_refl _
    intro w1 hown hg
    have L1 := HL2.out.addM ((Below.refl _ _).grown hg (Nat.le_refl _) (by simp)) (own_madeM hown)
    have HL := Lib.hid L1
    obtain ⟨b, hbb⟩ : ∃ b, b = w2.heap.size := ⟨_, rfl⟩
    rw [← hbb] at HL ⊢
    clear hown hg L1 hi hz0 hz1 hz2 HL2 hbb
    go_wp2_with fail
    go_loopw [6, 18] (fun _ i wr => ∃ (k : Nat) (vs : List Value), k ≤ L.length ∧ vs.length = L.length ∧ i = .int .i64 k ∧ Law w [tM (.slice (some ⟨b, 0, none⟩) L.length L.length) vs (fillL L [] L.length k), tQu (.slice av L.length pv) L] wr) (fun _ i _ => L.length - (intOf i).toNat)
    case atStart => exact ⟨0, List.replicate L.length (.slice none 0 0), Nat.zero_le _, by simp, rfl, by rw [fillL_zero]; exact HL.out⟩
    case round =>
      clear HL
      obtain ⟨k, vs, hk, hvl, rfl, LL⟩ := hrel
      obtain ⟨wo, rfl⟩ : ∃ wo : World, wo = wr := ⟨_, rfl⟩
      have HV := Lib.hid hvl
      by_cases hlt : k < L.length
      · obtain ⟨g, rfl, hc⟩ := LL.tl.ownQ.nine k hlt
        have c0 := hc 0 _ rfl
        rw [Nat.add_zero] at c0
        have c1 := hc 1 _ rfl
        have c2 := hc 2 _ rfl
        have c3 := hc 3 _ rfl
        have c4 := hc 4 _ rfl
        have c5 := hc 5 _ rfl
        have c6 := hc 6 _ rfl
        have c7 := hc 7 _ rfl
        have c8 := hc 8 _ rfl
        have hq8 := HGD.out L[k] (List.getElem_mem hlt)
        have HF := Lib.hid (fillL_set L [] L.length k hlt hlt)
        generalize L[k] = Q at *
        have HC := Lib.hid (fun W => list_any Q.length (cF Q) Q W hq8 (col_cells (cF Q) Q hq8 (fun _ _ => rfl)))
        have hkI : (k : Int) < L.length := by omega
        have L2 := LL.has (ql Q.length (cF Q)) 46
        rw [show wo.alloc (.cells (ql Q.length (cF Q)).toArray 46) = wo.alloc (.cells #[.int .i64 Q.length, .int .i64 (cF Q 0), .int .i64 (cF Q 1), .int .i64 (cF Q 2), .int .i64 (cF Q 3), .int .i64 (cF Q 4), .int .i64 (cF Q 5), .int .i64 (cF Q 6), .int .i64 (cF Q 7)] 46) from rfl] at L2
        have HL2 := Lib.hid L2
        clear LL L2 hc hvl
        go_upto_region 8 with fail
        clear c0 c1 c2 c3 c4 c5 c6 c7 c8
        generalize wo.alloc _ = w5 at *
        obtain ⟨f0, f1, f2, f3, f4, f5, f6, f7, f8, ff⟩ := ql_held HL2.out.ownHas
        have HL := Lib.hid HL2.out.tl
        clear HL2
        go_wp2_with fail
        refine (HC.out _).mono ?_
        rintro e w6 ⟨u, rfl, hO, hb⟩
        obtain ⟨au, pu, hu, _⟩ := hO.reads
        subst hu
        have L2 := HL.out.own hb hO
        have hM2 := L2.tl.ownM
        have hc0 := World.ownsRow.cellAt (by have := hM2.outer; rw [HV.out] at this; exact this) k (by omega)
        have hfz := World.ownsRow.frozenAt (by have := hM2.outer; rw [HV.out] at this; exact this) k
        have hcz : w6.cell? ⟨b, k, none⟩ = some (vs[k]'(by rw [HV.out]; exact hlt)) := by
          rw [hc0]
          simp [HV.out, hlt]
        clear hc0
        have L3 := L2.putM HV.out k hlt
        rw [HF.out] at L3
        have HL3 := Lib.hid L3
        have HVS := Lib.hid (show (vs.set k (.slice au Q.length pu)).length = L.length by rw [List.length_set]; exact HV.out)
        clear L2 L3 hM2 HL hO hb HC HF f0 f1 f2 f3 f4 f5 f6 f7 f8 ff
        go_wp2_with fail
        go_roundw
        case rel => first | exact ⟨k + 1, _, by omega, HVS.out, by go_num, HL3.out⟩ | ((repeat apply Exists.intro); exact ⟨⟨k + 1, _, by omega, HVS.out, by go_num, HL3.out⟩, rfl⟩)
        case measure => simp [intOf]; omega
      · obtain rfl : k = L.length := by omega
        rw [fillL_full] at LL
        have HL := Lib.hid LL
        clear LL
        go_wp2_with fail
        go_ret2
        exact ⟨_, vs, rfl, HL.out.ownMLo, HL.out.below⟩
set_option maxRecDepth 100000 in
set_option maxHeartbeats 3200000 in
theorem implFstQ_any (n : Int) (w : World) : Calls Try.prog 32 #[.int .i64 n] w fun e w' => AnsL (fstQR n) w e w' := by
  cases hg : inB 1 n 8
  · rw [show fstQR n = ⟨[], false⟩ by simp [fstQR, hg]]
    have HQ := Lib.hid (at_boolV (isQueenSide_any n w) hg)
    clear hg
    go_enter Try.func32, Try.ntmps32
    go_wp2_with (go_at_call 55; ((with_reducible refine HQ.out.mono ?_); rintro e w' ⟨rfl, rfl⟩))
    go_ret2
    exact ⟨_, rfl, Own.nil _ _, Below.refl _ _⟩
  · have HQ := Lib.hid (fun W => at_boolV (isQueenSide_any n W) hg)
    obtain ⟨m, rfl, m1, m8⟩ := inB_nat hg
    have hR : fstQR m = if decide (quA bQ m m [] ≠ []) then ⟨(quA bQ m m []).getD 0 [], true⟩ else ⟨[], false⟩ := by simp [fstQR, hg]
    rw [hR]
    have HA := Lib.hid (fun W => allQueens_any m W m8)
    have HGD := Lib.hid (fun q hq => (gd_facts (all_gd bQ m m1 m8 q hq).2).2.1)
    have hfew := all_few bQ m m8
    generalize quA bQ m m [] = L at *
    clear hg hR
    cases L with
    | nil =>
      rw [show (if decide (([] : List (List Int)) ≠ []) then (⟨([] : List (List Int)).getD 0 [], true⟩ : LR) else ⟨[], false⟩) = ⟨[], false⟩ by simp]
      go_enter Try.func32, Try.ntmps32
      go_wp2_with (go_at_call 55; ((with_reducible refine (HQ.out _).mono ?_); rintro e w' ⟨rfl, rfl⟩))
      refine (HA.out _).mono ?_
      rintro e w2 ⟨v, rfl, hO, hb⟩
      obtain ⟨av, pv, rfl⟩ := hO.form
      have HB := Lib.hid hb
      clear hO hb
      go_wp2_with fail
      go_ret2
      exact ⟨_, rfl, Own.nil _ _, HB.out⟩
    | cons Q t =>
      rw [show (if decide ((Q :: t) ≠ []) then (⟨(Q :: t).getD 0 [], true⟩ : LR) else ⟨[], false⟩) = ⟨Q, true⟩ by simp]
      have hq8 := HGD.out Q (by simp)
      have HC := Lib.hid (fun W => list_any Q.length (cF Q) Q W hq8 (col_cells (cF Q) Q hq8 (fun _ _ => rfl)))
      have hlen : ((Q :: t).length : Int) = (t.length : Int) + 1 := by rw [List.length_cons]; omega
      go_enter Try.func32, Try.ntmps32
      go_wp2_with (go_at_call 55; ((with_reducible refine (HQ.out _).mono ?_); rintro e w' ⟨rfl, rfl⟩))
      refine (HA.out _).mono ?_
      rintro e w2 ⟨v, rfl, hO, hb⟩
      obtain ⟨av, pv, rfl⟩ := hO.form
      obtain ⟨g, rfl, hc⟩ := hO.nine 0 (by simp)
      rw [show (Q :: t)[0] = Q from rfl, Nat.zero_mul] at hc
      have c0 := hc 0 _ rfl
      have c1 := hc 1 _ rfl
      have c2 := hc 2 _ rfl
      have c3 := hc 3 _ rfl
      have c4 := hc 4 _ rfl
      have c5 := hc 5 _ rfl
      have c6 := hc 6 _ rfl
      have c7 := hc 7 _ rfl
      have c8 := hc 8 _ rfl
      simp only [Nat.zero_add] at c0 c1 c2 c3 c4 c5 c6 c7 c8
      have HB := Lib.hid hb
      have hne : (((Q :: t).length : Int) == 0) = false := by rw [beq_eq_false_iff_ne, hlen]; omega
      have hpos : (0 : Int) < ((Q :: t).length : Int) := by rw [hlen]; omega
      clear hO hb hc hlen
      generalize (Q :: t).length = l at *
      go_wp2_with fail
      refine (HC.out _).mono ?_
      rintro e w6 ⟨u, rfl, hO, hb⟩
      have HO := Lib.hid (hO.lower HB.out.size)
      have HB2 := Lib.hid (below_on HB.out hb)
      clear hO hb c0 c1 c2 c3 c4 c5 c6 c7 c8
      go_wp2_with fail
      go_ret2
      exact ⟨_, rfl, HO.out, HB2.out⟩
set_option maxRecDepth 100000 in
set_option maxHeartbeats 3200000 in
theorem specFstQ_any (n : Int) (w : World) : Calls Try.prog 31 #[.int .i64 n] w fun e w' => AnsL (fstQR n) w e w' := by
  cases hg : inB 1 n 8
  · rw [show fstQR n = ⟨[], false⟩ by simp [fstQR, hg]]
    have HQ := Lib.hid (at_boolV (quSide_any n w) hg)
    clear hg
    go_enter Try.func31, Try.ntmps31
    go_wp2_with (go_at_call 53; ((with_reducible refine HQ.out.mono ?_); rintro e w' ⟨rfl, rfl⟩))
    go_ret2
    exact ⟨_, rfl, Own.nil _ _, Below.refl _ _⟩
  · have HQ := Lib.hid (fun W => at_boolV (quSide_any n W) hg)
    obtain ⟨m, rfl, m1, m8⟩ := inB_nat hg
    have hR : fstQR m = if decide (quA bQ m m [] ≠ []) then ⟨(quA bQ m m []).getD 0 [], true⟩ else ⟨[], false⟩ := by simp [fstQR, hg]
    rw [hR]
    have HA := Lib.hid (fun W => quAll_any m m8 m [] (by simp) (by simp) (by simp) W 0 _ (Own.nil _ _))
    generalize quA bQ m m [] = L at *
    clear hg hR
    cases L with
    | nil =>
      rw [show (if decide (([] : List (List Int)) ≠ []) then (⟨([] : List (List Int)).getD 0 [], true⟩ : LR) else ⟨[], false⟩) = ⟨[], false⟩ by simp]
      go_enter Try.func31, Try.ntmps31
      go_wp2_with (go_at_call 53; ((with_reducible refine (HQ.out _).mono ?_); rintro e w' ⟨rfl, rfl⟩))
      refine (HA.out _).mono ?_
      rintro e w2 ⟨v, vs, rfl, hO, _, hb⟩
      obtain ⟨av, pv, rfl⟩ := ownM_shapeQ hO
      have HB := Lib.hid hb
      clear hO hb
      go_wp2_with fail
      go_ret2
      exact ⟨_, rfl, Own.nil _ _, HB.out⟩
    | cons Q t =>
      rw [show (if decide ((Q :: t) ≠ []) then (⟨(Q :: t).getD 0 [], true⟩ : LR) else ⟨[], false⟩) = ⟨Q, true⟩ by simp]
      have hlen : ((Q :: t).length : Int) = (t.length : Int) + 1 := by rw [List.length_cons]; omega
      go_enter Try.func31, Try.ntmps31
      go_wp2_with (go_at_call 53; ((with_reducible refine (HQ.out _).mono ?_); rintro e w' ⟨rfl, rfl⟩))
      refine (HA.out _).mono ?_
      rintro e w2 ⟨v, vs, rfl, hO, _, hb⟩
      have hvl := hO.len
      have h0 : 0 < vs.length := by rw [← hvl]; simp
      have hrow := hO.row 0 h0
      obtain ⟨a', cap', hv, hc⟩ := hO.form
      obtain ⟨g, rfl, c0⟩ := hc 0 h0
      subst hv
      have HO := Lib.hid (show Own w2 w.heap.size vs[0] Q from hrow)
      have HB := Lib.hid hb
      have hpos : (0 : Int) < (vs.length : Int) := by omega
      have hne : ((vs.length : Int) == 0) = false := by rw [beq_eq_false_iff_ne]; omega
      clear hO hb hc hlen hvl hrow
      generalize vs[0] = u at *
      generalize vs.length = l at *
      go_wp2_with fail
      go_ret2
      exact ⟨_, rfl, HO.out, HB.out⟩
theorem flt_take (L : List (List Int)) (p : List Int → Bool) (k : Nat) (hk : k < L.length) : ((L.take (k + 1)).filter p).length = ((L.take k).filter p).length + (if p L[k] then 1 else 0) := by
  rw [List.take_succ_eq_append_getElem hk, List.filter_append, List.length_append]
  congr 1
  cases h : p L[k] <;> simp [h]
theorem flt_le (L : List (List Int)) (p : List Int → Bool) (k : Nat) : ((L.take k).filter p).length ≤ L.length :=
  Nat.le_trans (List.length_filter_le _ _) (by rw [List.length_take]; omega)
set_option maxRecDepth 100000 in
set_option maxHeartbeats 6400000 in
theorem specTorC_any (n : Int) (w : World) : Calls Try.prog 38 #[.int .i64 n] w fun e w' => AnsIO (torQR n) w e w' := by
  cases hg : inB 1 n 8
  · rw [show torQR n = ⟨0, false⟩ by simp [torQR, hg]]
    have HQ := Lib.hid (at_boolV (quSide_any n w) hg)
    clear hg
    go_enter Try.func38, Try.ntmps38
    go_wp2_with (go_at_call 53; ((with_reducible refine HQ.out.mono ?_); rintro e w' ⟨rfl, rfl⟩))
    go_ret2
    exact ⟨rfl, Below.refl _ _⟩
  · have HQ := Lib.hid (fun W => at_boolV (quSide_any n W) hg)
    obtain ⟨m, rfl, m1, m8⟩ := inB_nat hg
    rw [show torQR m = ⟨((quA bQ m m []).filter (tor m)).length, true⟩ by rw [quA_tor_len]; simp [torQR, hg]]
    have HA := Lib.hid (fun W => quAll_any m m8 m [] (by simp) (by simp) (by simp) W 0 _ (Own.nil _ _))
    have HGD := Lib.hid (fun q hq => all_gd bQ m m1 m8 q hq)
    have hfew := all_few bQ m m8
    generalize quA bQ m m [] = L at *
    have HTK := Lib.hid (flt_take L (tor m))
    have HLE := Lib.hid (fun k => flt_le L (tor m) k)
    clear hg
    go_enter Try.func38, Try.ntmps38
    go_wp2_with (go_at_call 53; ((with_reducible refine (HQ.out _).mono ?_); rintro e w' ⟨rfl, rfl⟩))
    refine (HA.out _).mono ?_
    rintro e w2 ⟨v, vs, rfl, hO, _, hb⟩
    obtain ⟨av, pv, rfl⟩ := ownM_shapeQ hO
    have HL := Lib.hid ((Law.start _).addM hb hO)
    clear hO hb
    go_wp2_with fail
    go_loopw [4, 6, 13] (fun cn _ i wr => ∃ k : Nat, k ≤ L.length ∧ i = .int .i64 k ∧ cn = .int .i64 ((L.take k).filter (tor m)).length ∧ Law w [tM (.slice av L.length pv) vs L] wr) (fun _ _ i _ => L.length - (intOf i).toNat)
    case atStart => exact ⟨0, Nat.zero_le _, rfl, rfl, HL.out⟩
    case round =>
      clear HL
      obtain ⟨k, hk, rfl, rfl, LL⟩ := hrel
      obtain ⟨wo, rfl⟩ : ∃ wo : World, wo = wr := ⟨_, rfl⟩
      by_cases hlt : k < L.length
      · have hvl := LL.ownM.len
        have hkv : k < vs.length := by omega
        have hrow := LL.ownM.row k hkv
        obtain ⟨a', cap', hv, hc⟩ := LL.ownM.form
        obtain ⟨g, rfl, c0⟩ := hc k hkv
        injection hv with e1 e2 e3
        subst e1
        obtain ⟨ax, px, hvx, hr⟩ := hrow.reads
        rw [hvx] at c0
        obtain ⟨hql, hqg⟩ := HGD.out L[k] (List.getElem_mem hlt)
        have hT := quTorus_any ax px L[k] wo hqg hr
        have hs := HTK.out k hlt
        have hle := HLE.out k
        generalize L[k] = Q at *
        rw [hql, show decide (meets (attP (tQ m) Q) m m = []) = tor m Q by unfold tor; rw [hql]] at hT
        have HT := Lib.hid hT
        have HL := Lib.hid LL
        generalize hx : ((L.take k).filter (tor m)).length = x at *
        rw [hql] at c0
        clear hT hrow hc hvx hr hvl hkv LL e2 e3 hql hqg hx
        cases ht : tor m Q
        · rw [ht] at hs HT
          have HS := Lib.hid (show ((L.take (k + 1)).filter (tor m)).length = x by rw [hs]; rfl)
          clear hs ht
          go_wp2_with (go_at_call 51; ((with_reducible refine HT.out.mono ?_); rintro e w' ⟨rfl, rfl⟩))
          clear c0
          go_roundw
          case rel => first | exact ⟨k + 1, by omega, by go_num, by rw [HS.out], HL.out⟩ | ((repeat apply Exists.intro); exact ⟨⟨k + 1, by omega, by go_num, by rw [HS.out], HL.out⟩, rfl⟩)
          case measure => simp [intOf]; omega
        · rw [ht] at hs HT
          have HS := Lib.hid (show ((L.take (k + 1)).filter (tor m)).length = x + 1 by rw [hs]; rfl)
          clear hs ht
          go_wp2_with (go_at_call 51; ((with_reducible refine HT.out.mono ?_); rintro e w' ⟨rfl, rfl⟩))
          clear c0
          go_roundw
          case rel => first | exact ⟨k + 1, by omega, by go_num, by rw [HS.out]; go_num, HL.out⟩ | ((repeat apply Exists.intro); exact ⟨⟨k + 1, by omega, by go_num, by rw [HS.out]; go_num, HL.out⟩, rfl⟩)
          case measure => simp [intOf]; omega
      · obtain rfl : k = L.length := by omega
        have HL := Lib.hid LL
        rw [List.take_length]
        clear LL
        go_wp2_with fail
        go_ret2
        exact ⟨rfl, HL.out.below⟩
theorem goiR_no {n : Int} {xs : List Int} (h : linB n xs = false) : goiR n xs = ⟨0, false⟩ := by simp [goiR, h]
set_option maxRecDepth 100000 in
set_option maxHeartbeats 6400000 in
theorem specGoi_any (n : Int) (xs : List Int) (w : World) (hx : xs.length ≤ 1048576) (lo : Nat) (s : Value) (hO : Own w lo s xs) :
    Calls Try.prog 34 #[.int .i64 n, s] w fun e w' => AnsIO (goiR n xs) w e w' := by
  obtain ⟨a, cap, rfl, hr, hcap⟩ := own_form hO
  have HO := Lib.hid hO
  have HQ := Lib.hid (quSide_any n w)
  have HNO := Lib.hid (fun h => goiR_no (n := n) (xs := xs) h)
  clear hO
  by_cases hq : 1 ≤ n ∧ n ≤ 8
  · rw [inB_yes hq.1 hq.2] at HQ
    obtain ⟨q1, q8⟩ := hq
    by_cases hle : (xs.length : Int) ≤ n
    · cases h2 : within 0 (n - 1) xs
      · have HA := Lib.hid (at_boolV (l1All_any a cap xs 0 (n - 1) w hx hr) h2)
        rw [HNO.out (by simp [linB, inN, h2])]
        clear h2 hr HO HNO hcap
        generalize xs.length = m at *
        go_enter Try.func34, Try.ntmps34
        go_wp2_with (first | (go_at_call 53; ((with_reducible refine HQ.out.mono ?_); rintro e w' ⟨rfl, rfl⟩)) | (go_at_call 58; ((with_reducible refine HA.out.mono ?_); rintro e w' ⟨rfl, rfl⟩)))
        go_ret2
        exact ⟨rfl, Below.refl _ _⟩
      · have HA := Lib.hid (at_boolV (l1All_any a cap xs 0 (n - 1) w hx hr) h2)
        have HW := Lib.hid h2
        clear h2
        go_enter Try.func34, Try.ntmps34
        go_wp2_with (first | (go_at_call 53; ((with_reducible refine HQ.out.mono ?_); rintro e w' ⟨rfl, rfl⟩)) | (go_at_call 58; ((with_reducible refine HA.out.mono ?_); rintro e w' ⟨rfl, rfl⟩)))
        go_loop [26] (fun i => ∃ k : Nat, k ≤ xs.length ∧ i = .int .i64 k ∧ Hid ((xs.take k).Nodup)) (fun i => xs.length - (intOf i).toNat)
        case atStart => exact ⟨0, Nat.zero_le _, rfl, Lib.hid (by simp)⟩
        case round =>
          obtain ⟨k, hk, rfl, HE⟩ := hrel
          by_cases hlt : k < xs.length
          · have hrt := hr.takeO k hk
            have hkl : (xs.take k).length = k := by simp; omega
            rw [hkl] at hrt
            obtain ⟨b, off, rfl, hb, hc⟩ := reads_row hr (by omega)
            have hck := hc k hlt
            have hkc : k ≤ cap := by omega
            clear hc
            by_cases hm : xs.getD k 0 ∈ xs.take k
            · have HC := Lib.hid (at_boolV (l1HasO_any (some ⟨b, off, none⟩) cap (xs.take k) (xs.getD k 0) w (by omega) (by rw [hkl]; exact hrt)) (show hasL (xs.take k) (xs.getD k 0) = true by unfold hasL; rw [decide_eq_true_eq]; exact hm))
              have HD := Lib.hid (HNO.out (show linB n xs = false by simp [linB, inN, nodup_no xs k hlt hm]))
              rw [hkl] at HC
              clear hkl hrt hm
              generalize xs.getD k 0 = x at *
              go_wp2_with (go_at_call 59; ((with_reducible refine HC.out.mono ?_); rintro e w' ⟨rfl, rfl⟩))
              go_ret2
              rw [HD.out]
              exact ⟨rfl, Below.refl _ _⟩
            · have HC := Lib.hid (at_boolV (l1HasO_any (some ⟨b, off, none⟩) cap (xs.take k) (xs.getD k 0) w (by omega) (by rw [hkl]; exact hrt)) (show hasL (xs.take k) (xs.getD k 0) = false by unfold hasL; rw [decide_eq_false_iff_not]; exact hm))
              have HN := Lib.hid (nodup_step xs k hlt HE.out hm)
              rw [hkl] at HC
              clear hkl hrt hm
              generalize xs.getD k 0 = x at *
              go_wp2_with (go_at_call 59; ((with_reducible refine HC.out.mono ?_); rintro e w' ⟨rfl, rfl⟩))
              go_round
              case rel => exact ⟨k + 1, by omega, by go_num, HN⟩
              case measure => simp [intOf]; omega
          · obtain rfl : k = xs.length := by omega
            have hlin : linB n xs = true := by
              have := HE.out
              rw [List.take_length] at this
              simp [linB, inN, HW.out, this, hle, q1, q8]
            obtain ⟨_, _, hl, hb1, hb2⟩ := lin_facts hlin
            obtain ⟨m, rfl⟩ := Int.eq_ofNat_of_zero_le (show 0 ≤ n by omega)
            have hR : goiR m xs = ⟨(goL bQ m xs).length, true⟩ := by simp [goiR, hlin]
            have HT := Lib.hid (quAttacks_any a cap xs w (by omega) (fun x hx => by have h1 := hb1 x hx; omega) hr)
            rw [meets_spec] at HT
            have HA2 := Lib.hid (fun W (hb : Below w.heap.size w W) => quAll_any m (by omega) (m - xs.length) xs (by omega) hb1 hb2 W lo _ (HO.out.kept hb))
            by_cases hme : meets (attP bQ xs) xs.length xs.length = []
            · have hG : goL bQ m xs = quA bQ m (m - xs.length) xs := by simp [goL, hme]
              rw [hG] at hR
              have HR := Lib.hid hR
              rw [hme] at HT
              clear hlin hb1 hb2 hr hme hR hG HNO HE HO hcap hl
              generalize quA bQ m (m - xs.length) xs = L at *
              generalize xs.length = l at *
              go_wp2_with fail
              refine HT.out.mono ?_
              rintro e w2 ⟨v, vs, rfl, hM, hb⟩
              obtain ⟨av, pv, rfl⟩ := ownM_shapeQ hM
              have HB := Lib.hid hb
              clear hM hb HT
              go_wp2_with fail
              refine (HA2.out _ HB.out).mono ?_
              rintro e w3 ⟨v, vs2, rfl, hM, _, hb⟩
              obtain ⟨av2, pv2, rfl⟩ := ownM_shapeQ hM
              have HB2 := Lib.hid (below_on HB.out hb)
              clear hM hb
              go_wp2_with fail
              go_ret2
              rw [HR.out]
              exact ⟨rfl, HB2.out⟩
            · have hG : goL bQ m xs = [] := by simp [goL, hme]
              rw [hG] at hR
              have HR := Lib.hid hR
              obtain ⟨x, t, hxt⟩ : ∃ x t, meets (attP bQ xs) xs.length xs.length = x :: t := by
                match hq : meets (attP bQ xs) xs.length xs.length, hme with
                | x :: t, _ => exact ⟨x, t, rfl⟩
              rw [hxt] at HT
              have hgt : 0 < ((x :: t).length : Int) := by rw [List.length_cons]; omega
              clear hlin hb1 hb2 hr hme hR hG HNO HE HO hcap hl hxt HA2
              generalize xs.length = l at *
              go_wp2_with fail
              refine HT.out.mono ?_
              rintro e w2 ⟨v, vs, rfl, hM, hb⟩
              obtain ⟨av, pv, rfl⟩ := ownM_shapeQ hM
              have HB := Lib.hid hb
              clear hM hb HT
              generalize (x :: t).length = l2 at *
              go_wp2_with fail
              go_ret2
              rw [HR.out]
              exact ⟨rfl, HB.out⟩
    · rw [HNO.out (by simp [linB, hle])]
      have hgt : n < (xs.length : Int) := by omega
      clear hle hr HO HNO hcap
      generalize xs.length = m at *
      go_enter Try.func34, Try.ntmps34
      go_wp2_with (go_at_call 53; ((with_reducible refine HQ.out.mono ?_); rintro e w' ⟨rfl, rfl⟩))
      go_ret2
      exact ⟨rfl, Below.refl _ _⟩
  · rw [inB_no hq] at HQ
    rw [HNO.out (by simp [linB, hq])]
    clear hq hr HO HNO hcap
    generalize xs.length = m at *
    go_enter Try.func34, Try.ntmps34
    go_wp2_with (go_at_call 53; ((with_reducible refine HQ.out.mono ?_); rintro e w' ⟨rfl, rfl⟩))
    go_ret2
    exact ⟨rfl, Below.refl _ _⟩

end Go.Proofs.Ytmhlpaenfknofaa
