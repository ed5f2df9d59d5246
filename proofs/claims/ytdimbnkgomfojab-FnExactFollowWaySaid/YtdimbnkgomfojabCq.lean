/- A way that makes a placement longer, in the program. No condition but the sizes. -/
import Derived.Test.YtdimbnkgomfojabCp
import Derived.Test.YtdimbnkgomfojabPv
import Derived.Test.YtdimbnkgomfojabSm
import Derived.BigRegion
import Derived.Deep.RegionHeld3
import Derived.Deep.RegionWith
import Derived.BigQuiet
namespace Go.Proofs.Ytdimbnkgomfojab
open Go.RowKit Go.WideShapes

def sixQ (F : Nat → Int) : List Int := [F 0, F 1, F 2, F 3, F 4, F 5]
theorem rcnt_padQ (P : List Int) (k : Nat) : rcnt (P ++ List.replicate k (-1)) = rcnt P := by
  unfold rcnt
  rw [List.filter_append, List.length_append, show (List.replicate k (-1 : Int)).filter (fun x => decide (0 ≤ x)) = [] from List.filter_eq_nil_iff.2 (fun x hx => by rw [(List.mem_replicate.1 hx).2]; decide)]
  rfl
theorem six_cntQ (P : List Int) (n : Nat) (hp : P.length = n) (hn : n ≤ 6) : rcnt (sixQ (plF P n)) = rcnt P := by
  subst hp
  match P, hn with
  | [], _ => exact rcnt_padQ [] 6
  | [a], _ => exact rcnt_padQ [a] 5
  | [a, b], _ => exact rcnt_padQ [a, b] 4
  | [a, b, c], _ => exact rcnt_padQ [a, b, c] 3
  | [a, b, c, d], _ => exact rcnt_padQ [a, b, c, d] 2
  | [a, b, c, d, e], _ => exact rcnt_padQ [a, b, c, d, e] 1
  | [a, b, c, d, e, f], _ => rfl
  | _ :: _ :: _ :: _ :: _ :: _ :: _ :: _, h => simp at h <;> omega
theorem six_readsQ {w : World} {b : Nat} {F : Nat → Int} {t : TypeId} (h : Has w b (pl6 F) t) : Reads w (some ⟨b, 0, none⟩) (sixQ F).length (sixQ F) :=
  ⟨rfl, .inr ⟨b, 0, rfl, h.lt, fun j hj => by
    rw [Nat.zero_add, h.cell j, pl6_get F j (by simpa [sixQ] using hj)]
    have : j = 0 ∨ j = 1 ∨ j = 2 ∨ j = 3 ∨ j = 4 ∨ j = 5 := by simp [sixQ] at hj; omega
    rcases this with rfl | rfl | rfl | rfl | rfl | rfl <;> rfl⟩⟩
theorem lst_back (P : List Int) (n : Nat) (hp : P.length = n) : lstI n (plF P n) = P := by
  refine List.ext_getElem (by rw [lstI_len, hp]) (fun k h1 h2 => ?_)
  have h3 := lstI_get n (plF P n) k (by omega)
  rw [List.getD_eq_getElem?_getD, List.getElem?_eq_getElem h1] at h3
  rw [show (lstI n (plF P n))[k] = plF P n k from h3]
  unfold plF
  rw [if_pos (by omega)]
  simp [List.getD, h2]

theorem six_sumQ {n m : Nat} {xs P : List Int} (h : placeP n m xs P = true) (hn : n ≤ 6) : sumT (one1 (sixQ (plF P n))) (sixQ (plF P n)).length = (rcnt P : Nat) := by
  obtain ⟨hpn, hpf⟩ := placeP_facts h
  rw [one1_cnt _ (fun j => by
    by_cases h6 : j < 6
    · have hj : (sixQ (plF P n)).getD j 0 = plF P n j := by
        have : j = 0 ∨ j = 1 ∨ j = 2 ∨ j = 3 ∨ j = 4 ∨ j = 5 := by omega
        rcases this with rfl | rfl | rfl | rfl | rfl | rfl <;> rfl
      rw [hj]
      unfold plF
      split
      · have := hpf j (by assumption); omega
      · omega
    · rw [List.getD_eq_getElem?_getD, List.getElem?_eq_none (by simp [sixQ]; omega)]; decide) _ (Nat.le_refl _), List.take_length, six_cntQ P n hpn hn]
theorem count_place {n m : Nat} {xs P : List Int} (h : placeP n m xs P = true) (hn : n ≤ 6) (b : Nat) (W : World) (hH : Has W b (pl6 (plF P n)) 71) :
    Calls Try.prog 96 #[.slice (some ⟨b, 0, none⟩) 6 6] W fun e w' => e = .returned (.int .i64 (rcnt P : Nat)) ∧ Below W.heap.size W w' := by
  have := countRooks_any (some ⟨b, 0, none⟩) 6 (sixQ (plF P n)) W (by simp [sixQ]) (six_readsQ hH)
  rw [six_sumQ h hn] at this
  exact this

set_option maxRecDepth 100000 in
set_option maxHeartbeats 6400000 in
theorem implFol_any (r c : Int) (xs P Q : List Int) (w : World) (hx : xs.length ≤ 1048576) (hp : P.length ≤ 1048576) (hq : Q.length ≤ 1048576) (lo : Nat) (s : Value) (lo2 : Nat) (s2 : Value) (lo3 : Nat) (s3 : Value) (hO : Own w lo s xs) (hO2 : Own w lo2 s2 P) (hO3 : Own w lo3 s3 Q) :
    Calls Try.prog 53 #[.agg #[.int .i64 r, .int .i64 c, s], s2, s3] w fun e w' => AnsL (wayR r c xs P Q) w e w' := by
  have L0 := (Law.start w).box (.int .i64 r) (.int .i64 c) s 28
  obtain ⟨a, cap, rfl, hr⟩ := hO.reads
  obtain ⟨a2, p2, rfl, hr2⟩ := hO2.reads
  obtain ⟨a3, p3, rfl, hr3⟩ := hO3.reads
  have HP := Lib.hid (placementOn_any r c xs P _ hx hp a cap (L0.reads hr) a2 p2 (L0.reads hr2))
  clear hO hO2 hO3
  cases hok : okPl r c xs P
  · rw [show wayR r c xs P Q = ⟨[], false⟩ by unfold wayR; rw [← Bool.and_assoc, show (goodB r c xs && placeP r.toNat c.toNat xs P) = false from hok, Bool.false_and]; rfl]
    have HOK := Lib.hid hok
    clear hok
    go_enter Try.func53, Try.ntmps53
    go_wp2_with fail
    refine HP.out.mono ?_
    rintro e w1 ⟨r', c', M, F, rfl, _, hb⟩
    rw [HOK.out]
    have L1 := ((L0.kept hb).has (gl r' c' M) 68).has (pl6 F) 71
    have HB := Lib.hid L1.below
    clear L0 hb L1 HP
    go_wp2_with fail
    go_ret2
    exact ⟨_, rfl, Own.nil _ _, HB.out⟩
  · have hok' := hok
    unfold okPl at hok'
    rw [Bool.and_eq_true] at hok'
    obtain ⟨hg, hz⟩ := hok'
    obtain ⟨g1, g2, g3, _⟩ := good_facts hg
    have hgc := good_cell hg
    obtain ⟨n, rfl⟩ := Int.eq_ofNat_of_zero_le (show 0 ≤ r by omega)
    obtain ⟨m, rfl⟩ := Int.eq_ofNat_of_zero_le (show 0 ≤ c by omega)
    simp only [Int.toNat_natCast] at hz
    have HOK := Lib.hid hok
    have HZ := Lib.hid hz
    have HGC := Lib.hid hgc
    have hn6 : n ≤ 6 := by omega
    have hm6 : m ≤ 6 := by omega
    have hn1 : 1 ≤ n := by omega
    have hl0 : (0 : Int) ≤ Q.length := by omega
    by_cases hlw : Q.length % 2 = 0 ∧ 2 ≤ Q.length ∧ Q.length ≤ 12
    · obtain ⟨hev, hl2, hl12⟩ := hlw
      obtain ⟨T, hT⟩ : ∃ T, Q.length = 2 * T := ⟨Q.length / 2, by omega⟩
      have hT2 : Q.length / 2 = T := by omega
      have hwr : wayR n m xs P Q = if wOk n Q T && (placeP n m xs (wOut Q P T) && decide (rcnt P < rcnt (wOut Q P T))) then ⟨wOut Q P T, true⟩ else ⟨[], false⟩ := by
        unfold wayR
        rw [hT2]
        have hin : inB 2 (Q.length : Int) 12 = true := inB_yes (by omega) (by omega)
        simp [hg, hz, lenW, hin, hev]
      obtain ⟨R, hR⟩ : ∃ R, R = wayR n m xs P Q := ⟨_, rfl⟩
      rw [← hR]
      rw [hwr] at hR
      have HN1 : Hid (∀ t, inB 0 (Q.getD (2 * t) 0) ((n : Int) - 1) = false → t < T → R = ⟨[], false⟩) := Lib.hid (fun t h ht => by rw [hR, wOk_no n Q t T h ht]; rfl)
      have HN2 : Hid (wOk n Q T = true → placeP n m xs (wOut Q P T) = false → R = ⟨[], false⟩) := Lib.hid (fun h1 h2 => by rw [hR, h1, h2]; rfl)
      have HN3 : Hid (wOk n Q T = true → placeP n m xs (wOut Q P T) = true → ¬ rcnt P < rcnt (wOut Q P T) → R = ⟨[], false⟩) := Lib.hid (fun h1 h2 h3 => by rw [hR, h1, h2, decide_eq_false h3]; rfl)
      have HY : Hid (wOk n Q T = true → placeP n m xs (wOut Q P T) = true → rcnt P < rcnt (wOut Q P T) → R = ⟨wOut Q P T, true⟩) := Lib.hid (fun h1 h2 h3 => by rw [hR, h1, h2, decide_eq_true h3]; rfl)
      have hpn : P.length = n := (placeP_facts hz).1
      have HPN := Lib.hid hpn
      have HT := Lib.hid hT
      have HLB := Lib.hid (lst_back P n hpn)
      have hq1 : ¬ (Q.length : Int) < 2 := by omega
      have hq2 : ¬ (12 : Int) < Q.length := by omega
      have hq3 : ((Q.length : Int) % 2 != 0) = false := by rw [show (Q.length : Int) % 2 = 0 by omega]; rfl
      have hq4 : ((Q.length : Int).tmod 2 != 0) = false := by rw [Int.tmod_eq_emod_of_nonneg hl0, show (Q.length : Int) % 2 = 0 by omega]; rfl
      have HLI := Lib.hid (fun W => list_any (plF P n) n W hn6)
      rw [HLB.out] at HLI
      clear hok hg hz hgc g1 g2 g3 hT hT2 hwr hR hpn hev
      go_enter Try.func53, Try.ntmps53
      go_wp2_with fail
      refine HP.out.mono ?_
      rintro e w1 ⟨r', c', M, F, rfl, hfr, hb⟩
      obtain ⟨rfl, rfl, hMM, hF⟩ := hfr HOK.out
      simp only [Int.toNat_natCast] at hF
      subst hF
      rw [HOK.out]
      have HPO := Lib.hid (fun (O : List Int) (W : World) (b : Option Addr) (p : Nat) (h1 : O.length ≤ 1048576) (h : Reads W b O.length O) => placesOf_any n m xs O M hMM b p W h1 hn6 hm6 HGC.out h)
      have L1 := ((L0.kept hb).has (gl n m M) 68).has (pl6 (plF P n)) 71
      rw [show (w1.alloc (.cells (gl n m M).toArray 68)).alloc (.cells (pl6 (plF P n)).toArray 71) = (w1.alloc (.cells #[.int .i64 n, .int .i64 m, .int .i64 (M 0), .int .i64 (M 1), .int .i64 (M 2), .int .i64 (M 3), .int .i64 (M 4), .int .i64 (M 5)] 68)).alloc (.cells #[.int .i64 (plF P n 0), .int .i64 (plF P n 1), .int .i64 (plF P n 2), .int .i64 (plF P n 3), .int .i64 (plF P n 4), .int .i64 (plF P n 5)] 71) from rfl] at L1
      simp only [World.size_alloc] at L1
      have HL := Lib.hid L1
      clear L0 hb L1 HP hfr hMM
      go_upto_region 2 with fail
      generalize (w1.alloc (.cells #[.int .i64 n, .int .i64 m, .int .i64 (M 0), .int .i64 (M 1), .int .i64 (M 2), .int .i64 (M 3), .int .i64 (M 4), .int .i64 (M 5)] 68)).alloc (.cells #[.int .i64 (plF P n 0), .int .i64 (plF P n 1), .int .i64 (plF P n 2), .int .i64 (plF P n 3), .int .i64 (plF P n 4), .int .i64 (plF P n 5)] 71) = w5 at *
      obtain ⟨bo, hbo⟩ : ∃ bo, bo = w1.heap.size + 1 := ⟨_, rfl⟩
      rw [← hbo] at HL ⊢
      obtain ⟨bg, hbg⟩ : ∃ bg, bg = w1.heap.size := ⟨_, rfl⟩
      rw [← hbg] at HL ⊢
      clear hbo hbg
      obtain ⟨f0, f1, f2, f3, f4, f5, _⟩ := HL.out.ownHas.six
      obtain ⟨e0, e1, e2, e3, e4, e5, e6, e7, _⟩ := HL.out.tl.ownHas.eight
      go_wp2_with fail
      refine (HLI.out _).mono ?_
      rintro e w6 ⟨g, rfl, hO, hb⟩
      have HLS := Lib.hid (show Law w [tOwn (.slice (some ⟨g, 0, none⟩) n n) (wOut Q P 0), tHas bo (pl6 (plF P n)) 71, tHas bg (gl n m M) 68, tBox w.heap.size (.int .i64 n) (.int .i64 m) (.slice a xs.length cap)] w6 from HL.out.own hb hO)
      clear HL hO hb HLI f0 f1 f2 f3 f4 f5 e0 e1 e2 e3 e4 e5 e6 e7
      go_wp2_with fail
      go_loopw [12] (fun i wr => ∃ (d t : Nat), Hid (d = 2 * t) ∧ t ≤ T ∧ i = .int .i64 d ∧ Hid (wOk n Q t = true) ∧ Law w [tOwn (.slice (some ⟨g, 0, none⟩) n n) (wOut Q P t), tHas bo (pl6 (plF P n)) 71, tHas bg (gl n m M) 68, tBox w.heap.size (.int .i64 n) (.int .i64 m) (.slice a xs.length cap)] wr) (fun i _ => Q.length - (intOf i).toNat)
      case atStart => exact ⟨0, 0, Lib.hid rfl, Nat.zero_le _, rfl, Lib.hid rfl, HLS.out⟩
      case round =>
        clear HLS
        obtain ⟨d, t, HD, ht, rfl, HOK2, L⟩ := hrel
        by_cases hlt : t < T
        · obtain ⟨e0, _⟩ := L.tl.tl.ownHas.eight
          have hdl : d < Q.length := by have := HD.out; have := HT.out; omega
          have hdl1 : d + 1 < Q.length := by have := HD.out; have := HT.out; omega
          have hdI : (d : Int) < Q.length := by omega
          have hdI1 : (d : Int) + 1 < Q.length := by omega
          have hd0 : (0 : Int) ≤ d := by omega
          have hd12 : (d : Int) < 12 := by omega
          have hr4 := L.reads hr3
          obtain ⟨b, off, rfl, hb, hc⟩ := reads_row hr4 (by omega)
          have hc0 := hc d hdl
          have hc1 := hc (d + 1) hdl1
          have hst : wOut Q P (t + 1) = (wOut Q P t).set (Q.getD d 0).toNat (Q.getD (d + 1) 0) := by rw [wOut, HD.out]
          have hok : wOk n Q (t + 1) = inB 0 (Q.getD d 0) ((n : Int) - 1) := by rw [wOk, HOK2.out, Bool.true_and, HD.out]
          have hno := HN1.out t
          rw [← HD.out] at hno
          clear hc hb hr4
          generalize Q.getD d 0 = y at *
          generalize Q.getD (d + 1) 0 = z at *
          obtain ⟨O2, ho2⟩ : ∃ O2, O2 = wOut Q P (t + 1) := ⟨_, rfl⟩
          rw [← ho2] at hst
          have HO2E := Lib.hid ho2
          clear ho2
          have hOl := wOut_len Q P t
          rw [HPN.out] at hOl
          generalize wOut Q P t = O1 at *
          have HLr := Lib.hid L
          by_cases hyl : y < 0
          · have HRN := Lib.hid (hno (inB_no (by omega)) hlt)
            have hd := decide_eq_true hyl
            clear hst hok hno L hOl
            go_wp2_with fail
            go_quiet (fail)
            all_goals
              go_wp2_with fail
              go_ret2
              rw [HRN.out]
              exact ⟨_, rfl, Own.nil _ _, (HLr.out.kept (below_drewN (Below.refl _ _) _)).below⟩
          · by_cases hyn : (n : Int) ≤ y
            · have HRN := Lib.hid (hno (inB_no (by omega)) hlt)
              have hd := decide_eq_false hyl
              clear hst hok hno L hOl
              go_wp2_with fail
              go_quiet (fail)
              all_goals
                go_wp2_with fail
                go_ret2
                rw [HRN.out]
                exact ⟨_, rfl, Own.nil _ _, (HLr.out.kept (below_drewN (Below.refl _ _) _)).below⟩
            · obtain ⟨q, rfl⟩ := Int.eq_ofNat_of_zero_le (show 0 ≤ y by omega)
              rw [inB_yes (by omega) (by omega)] at hok
              rw [Int.toNat_natCast] at hst
              have hqI : (q : Int) < n := by omega
              have hq0 : (0 : Int) ≤ q := by omega
              have HOK3 := Lib.hid hok
              have HST := Lib.hid hst
              have HOL := Lib.hid hOl
              have hd := decide_eq_false hyl
              have HC0 := Lib.hid hc0
              have HC1 := Lib.hid hc1
              clear hno L hok hst hOl hc1
              go_wp2_with fail
              go_quiet (fail)
              have L := HLr.out.kept (below_drewN (Below.refl _ _) nq)
              have hc0 := cell_later (below_drewN (Below.refl _ _) nq) HC0.out
              have hc1 := cell_later (below_drewN (Below.refl _ _) nq) HC1.out
              generalize wr.drewN nq = wq at *
              have oK := L.ownInts
              have y1 := Own.cell (by rw [HOL.out]; exact oK) q (by rw [HOL.out]; omega)
              have y2 := Own.free (by rw [HOL.out]; exact oK) q
              have hS := Law.store (ts := []) L HOL.out q z
              rw [← HST.out] at hS
              have HS := Lib.hid hS.drew
              generalize O1.getD q 0 = x0 at *
              have c0 : wq.drew.cell? ⟨b, off + d, none⟩ = some (.int .i64 (q : Int)) := hc0
              have c1 : wq.drew.cell? ⟨b, off + (d + 1), none⟩ = some (.int .i64 z) := hc1
              have c2 : wq.drew.cell? ⟨g, q, none⟩ = some (.int .i64 x0) := y1
              have c3 : wq.drew.frozen? ⟨g, q, none⟩ = false := y2
              clear L oK y1 y2 hS hc0 hc1 e0
              go_wp2_with fail
              go_region
              all_goals
                go_wp2_with fail
                go_roundw
                case rel => exact ⟨d + 2, t + 1, Lib.hid (by have := HD.out; omega), hlt, by go_num, HOK3, by rw [← HO2E.out]; exact HS.out⟩
                case measure => simp only [intOf]; omega
        · obtain rfl : t = T := by omega
          have hdd : d = Q.length := by have := HD.out; have := HT.out; omega
          have hdI : ¬ (d : Int) < Q.length := by omega
          have hOl := wOut_len Q P t
          rw [HPN.out] at hOl
          have hrd := L.ownInts
          have HN2' := Lib.hid (HN2.out HOK2.out)
          have HN3' := Lib.hid (HN3.out HOK2.out)
          have HY' := Lib.hid (HY.out HOK2.out)
          generalize wOut Q P t = O1 at *
          obtain ⟨ga, gp, hge, hrd⟩ := hrd.reads
          rw [hOl] at hge
          injection hge with h1 h2 h3
          subst h1 h3
          have hpo := HPO.out O1 wr (some ⟨g, 0, none⟩) n (by rw [hOl]; omega) hrd
          rw [hOl] at hpo
          have HPR := Lib.hid hpo
          have HLr := Lib.hid L
          obtain ⟨e0, e1, e2, e3, e4, e5, e6, e7, _⟩ := L.tl.tl.ownHas.eight
          clear hdd hrd hpo L
          cases hpl : placeP n m xs O1
          · have HRN := Lib.hid (HN2'.out hpl)
            have HPL := Lib.hid hpl
            clear hpl
            go_wp2_with fail
            refine HPR.out.mono ?_
            rintro e w7 ⟨F2, rfl, _, hb⟩
            rw [HPL.out]
            have L8 := (HLr.out.kept hb).has (pl6 F2) 71
            rw [show w7.alloc (.cells (pl6 F2).toArray 71) = w7.alloc (.cells #[.int .i64 (F2 0), .int .i64 (F2 1), .int .i64 (F2 2), .int .i64 (F2 3), .int .i64 (F2 4), .int .i64 (F2 5)] 71) from rfl] at L8
            have HL8 := Lib.hid L8
            clear hb e0 e1 e2 e3 e4 e5 e6 e7 L8
            go_upto_region 12 with fail
            generalize w7.alloc (.cells #[.int .i64 (F2 0), .int .i64 (F2 1), .int .i64 (F2 2), .int .i64 (F2 3), .int .i64 (F2 4), .int .i64 (F2 5)] 71) = w8 at *
            go_quiet (fail)
            all_goals
              go_wp2_with fail
              go_ret2
              rw [HRN.out]
              exact ⟨_, rfl, Own.nil _ _, (HL8.out.kept (below_drewN (Below.refl _ _) _)).below⟩
          · have HN3'' := Lib.hid (HN3'.out hpl)
            have HY'' := Lib.hid (HY'.out hpl)
            have HC1 := Lib.hid (fun b W h => count_place hpl hn6 b W h)
            have HC2 := Lib.hid (fun b W h => count_place HZ.out hn6 b W h)
            have HPL := Lib.hid hpl
            clear hpl
            go_wp2_with fail
            refine HPR.out.mono ?_
            rintro e w7 ⟨F2, rfl, hF2, hb⟩
            rw [hF2 HPL.out] at *
            rw [HPL.out]
            have L8 := (HLr.out.kept hb).has (pl6 (plF O1 n)) 71
            rw [show w7.alloc (.cells (pl6 (plF O1 n)).toArray 71) = w7.alloc (.cells #[.int .i64 (plF O1 n 0), .int .i64 (plF O1 n 1), .int .i64 (plF O1 n 2), .int .i64 (plF O1 n 3), .int .i64 (plF O1 n 4), .int .i64 (plF O1 n 5)] 71) from rfl] at L8
            have HL8 := Lib.hid L8
            clear hb e0 e1 e2 e3 e4 e5 e6 e7 L8 hF2
            go_upto_region 12 with fail
            generalize w7.alloc (.cells #[.int .i64 (plF O1 n 0), .int .i64 (plF O1 n 1), .int .i64 (plF O1 n 2), .int .i64 (plF O1 n 3), .int .i64 (plF O1 n 4), .int .i64 (plF O1 n 5)] 71) = w8 at *
            generalize w7.heap.size = bq at *
            replace HL8 := Lib.hid HL8.out.drew
            generalize rcnt O1 = z1 at *
            generalize rcnt P = z2 at *
            by_cases hzz : z2 < z1
            · have HRN := Lib.hid (HY''.out hzz)
              have hzI : ¬ ((z1 : Int) ≤ z2) := by omega
              clear hzz
              go_region_with (first
                | (go_at_call 96; (with_reducible change Calls _ _ #[.slice (some ⟨bo, 0, none⟩) 6 6] _ _); (refine (HC2.out _ _ HL8.out.tl.tl.ownHas).mono ?_); rintro e w9 ⟨rfl, hb⟩; replace HL8 := Lib.hid (HL8.out.kept hb); clear hb)
                | (go_at_call 96; (with_reducible change Calls _ _ #[.slice (some ⟨bq, 0, none⟩) 6 6] _ _); (refine (HC1.out _ _ HL8.out.ownHas).mono ?_); rintro e w9 ⟨rfl, hb⟩; replace HL8 := Lib.hid (HL8.out.kept hb); clear hb))
              all_goals
                go_wp2_with fail
                go_ret2
                rw [HRN.out]
                exact ⟨_, rfl, HL8.out.tl.ownLo, HL8.out.below⟩
            · have HRN := Lib.hid (HN3''.out hzz)
              have hzI : (z1 : Int) ≤ z2 := by omega
              clear hzz
              go_region_with (first
                | (go_at_call 96; (with_reducible change Calls _ _ #[.slice (some ⟨bo, 0, none⟩) 6 6] _ _); (refine (HC2.out _ _ HL8.out.tl.tl.ownHas).mono ?_); rintro e w9 ⟨rfl, hb⟩; replace HL8 := Lib.hid (HL8.out.kept hb); clear hb)
                | (go_at_call 96; (with_reducible change Calls _ _ #[.slice (some ⟨bq, 0, none⟩) 6 6] _ _); (refine (HC1.out _ _ HL8.out.ownHas).mono ?_); rintro e w9 ⟨rfl, hb⟩; replace HL8 := Lib.hid (HL8.out.kept hb); clear hb))
              all_goals
                go_wp2_with fail
                go_ret2
                rw [HRN.out]
                exact ⟨_, rfl, Own.nil _ _, HL8.out.below⟩
    · rw [show wayR n m xs P Q = ⟨[], false⟩ by
        have : lenW Q = false := by
          unfold lenW
          by_cases h : Q.length % 2 = 0
          · rw [inB_no (by omega), Bool.and_false]
          · rw [decide_eq_false h, Bool.false_and]
        simp [wayR, this]]
      clear hok hg hz hgc g1 g2 g3
      have harm : (Q.length : Int) < 2 ∨ (¬ (Q.length : Int) < 2 ∧ (12 : Int) < Q.length) ∨ (¬ (Q.length : Int) < 2 ∧ ¬ (12 : Int) < Q.length ∧ ((Q.length : Int) % 2 != 0) = true ∧ ((Q.length : Int).tmod 2 != 0) = true) := by
        by_cases h1 : Q.length < 2
        · exact .inl (by omega)
        · by_cases h2 : 12 < Q.length
          · exact .inr (.inl ⟨by omega, by omega⟩)
          · have h3 : Q.length % 2 = 1 := by omega
            have h4 : (Q.length : Int) % 2 = 1 := by omega
            exact .inr (.inr ⟨by omega, by omega, by rw [h4]; rfl, by rw [Int.tmod_eq_emod_of_nonneg hl0, h4]; rfl⟩)
      clear hlw
      rcases harm with h1 | ⟨h1, h2⟩ | ⟨h1, h2, h3, h4⟩
      all_goals
        go_enter Try.func53, Try.ntmps53
        go_wp2_with fail
        refine HP.out.mono ?_
        rintro e w1 ⟨r', c', M, F, rfl, _, hb⟩
        rw [HOK.out]
        have L1 := ((L0.kept hb).has (gl r' c' M) 68).has (pl6 F) 71
        have HB := Lib.hid L1.below
        clear L0 hb L1 HP
        go_wp2_with fail
        go_ret2
        exact ⟨_, rfl, Own.nil _ _, HB.out⟩

end Go.Proofs.Ytdimbnkgomfojab
