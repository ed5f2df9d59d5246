import Derived.Test.YtdimbnkgomfojabFold24
import Derived.Test.YtdimbnkgomfojabFold25
import Derived.Test.YtdimbnkgomfojabFold26
namespace Go.Proofs.Ytdimbnkgomfojab
open Go.RowKit Go.WideShapes

set_option maxRecDepth 100000 in
set_option maxHeartbeats 3200000 in
theorem all1_any (z g bl bgr cnt n m : Nat) (M : Nat → Int) (LL : List (List Int)) (bp j : Nat) (P : List Int) (w : World) (hn6 : n ≤ 6) (hz : z ≤ bp) (h1 : g < z) (h2 : bl < z) (_h3 : bgr < z) (d1 : bl ≠ g) (d2 : bgr ≠ g) (d3 : bl ≠ bgr)
    (hj : LL[j]? = some P) (hP : lstI n (plF P n) = P) (hcnt : LL.length ≤ cnt) (H : Plk z g bl bgr cnt n m M LL bp j w) :
    Calls Try.prog 67 (#[pv6 (plF P n)] ++ #[.pointer (some ⟨bl, 0, none⟩), .pointer (some ⟨bgr, 0, none⟩)]) w fun e w' => e = .returned (.bool true) ∧ Plk z g bl bgr cnt n m M LL bp (j + 1) w' ∧ Chg (fun b => b = g ∨ b = bl) w w' := by
  have hjl : j < LL.length := (List.getElem?_eq_some_iff.1 hj).1
  have htk : LL.take j ++ [P] = LL.take (j + 1) := by
    rw [List.take_succ_eq_append_getElem hjl]
    rw [(List.getElem?_eq_some_iff.1 hj).2]
  have hroom : j + 1 ≤ cnt := by omega
  obtain ⟨vs, hM, hvl, hvk⟩ := H.rows
  obtain ⟨F, hF⟩ : ∃ F, F = plF P n := ⟨_, rfl⟩
  rw [← hF] at hP ⊢
  have hb := below_new (w := w) (.cells #[.int .i64 (F 0), .int .i64 (F 1), .int .i64 (F 2), .int .i64 (F 3), .int .i64 (F 4), .int .i64 (F 5)] 71)
  have hnP : Has (w.alloc (.cells #[.int .i64 (F 0), .int .i64 (F 1), .int .i64 (F 2), .int .i64 (F 3), .int .i64 (F 4), .int .i64 (F 5)] 71)) w.heap.size (pl6 F) 71 := Has.new w (pl6 F) 71
  have B0 := H.box.kept hb H.box.lt
  have G0 := H.grid.kept hb H.grid.lt
  have M0 := hM.stayB hb
  have HB := Lib.hid hb
  have hbw := H.lt
  clear H hM hj hjl
  have HV := Lib.hid hvk
  have HVL := Lib.hid hvl
  have HT := Lib.hid htk
  have HPP := Lib.hid hP
  clear hvk hvl htk hP hb hF
  go_enter Try.func67, Try.ntmps67
  go_upto_region 1 with fail
  generalize w.alloc (.cells #[.int .i64 (F 0), .int .i64 (F 1), .int .i64 (F 2), .int .i64 (F 3), .int .i64 (F 4), .int .i64 (F 5)] 71) = w5 at *
  have HM0 := Lib.hid (M0.stayB (below_drewN (Below.refl w5.heap.size w5) 1))
  have HBX := Lib.hid (show Has w5.drew bl [.slice (some ⟨g, 0, none⟩) j cnt] 35 from B0)
  have HGR := Lib.hid (show Has w5.drew bgr (gl n m M) 68 from G0)
  have HPB := Lib.hid (show Has w5.drew w.heap.size (pl6 F) 71 from hnP)
  have x0 := HBX.out.one.1
  have ⟨x1, _⟩ := HGR.out.eight
  obtain ⟨p0, p1, p2, p3, p4, p5, _⟩ := HPB.out.six
  clear M0 B0 G0 hnP
  have hltw : w.heap.size < w5.heap.size := HPB.out.lt
  go_region_law (first
    | (go_simp; go_at_call 64; ((with_reducible refine (list_any F n _ hn6).mono ?_); rintro e wA ⟨ga, rfl, OA, hbA⟩; have z0 := cell_later hbA x0; have y0 := cell_later (below_new (w := wA) (.cells #[.slice (some ⟨ga, 0, none⟩) n n] 22)) z0; have HOA := Lib.hid OA; have HBA := Lib.hid hbA; clear OA hbA))
    | (refine step_spareM rfl (.tmp 5) (.tmp 10) rfl g j cnt vs (.slice (some ⟨ga, 0, none⟩) n n) wA.heap.size (by simp [Act.eval]) (by have h9 := ((HM0.out.stayB HBA.out).stayB (below_new (w := wA) (.cells #[.slice (some ⟨ga, 0, none⟩) n n] 22))).outer; rw [HVL.out] at h9; exact h9) (by simp [Act.eval]) (by rw [World.cell?_alloc_at _ _ _ _ rfl]; rfl) rfl hroom ?_; intro w3 hown3 hg3; have hB3 := ((HBX.out.kept HBA.out HBX.out.lt).kept (below_new (w := wA) (.cells #[.slice (some ⟨ga, 0, none⟩) n n] 22)) (HBX.out.kept HBA.out HBX.out.lt).lt).grown hg3 d1; have hG3 := ((HGR.out.kept HBA.out HGR.out.lt).kept (below_new (w := wA) (.cells #[.slice (some ⟨ga, 0, none⟩) n n] 22)) (HGR.out.kept HBA.out HGR.out.lt).lt).grown hg3 d2; obtain ⟨r8, r9⟩ := hB3.one; have HB3 := Lib.hid hB3; have HG4 := Lib.hid hG3; clear hB3 hG3; have HO3 := Lib.hid hown3; have HG3 := Lib.hid hg3; clear hown3 hg3)
    | fail)
  all_goals
    have HE := Lib.hid (plk_next z g bl bgr cnt n m M LL bp j vs ga w w5 wA w3 F P hz h1 h2 d1 d3 hbw HB.out hltw HM0.out HVL.out HV.out HT.out HPP.out HBA.out HOA.out HO3.out HG3.out HB3.out HG4.out)
    clear HM0 HBX HGR HPB HOA HBA HO3 HG3 HB3 HG4 HB
    go_wp2_with fail
    go_ret
    exact ⟨rfl, HE.out.1, HE.out.2⟩

def allR (r c : Int) (xs : List Int) : MR := if goodB r c xs && decide ((LG r.toNat c.toNat (bt xs)).length ≤ 300) then ⟨LG r.toNat c.toNat (bt xs), true⟩ else ⟨[], false⟩
theorem total_bd2 (rss : List (List Int)) (c : Nat) (h : ∀ r ∈ rss, r.length ≤ c) : total rss ≤ c * rss.length := by
  induction rss with
  | nil => simp [total]
  | cons a l ih =>
    have h1 := h a (by simp)
    have h2 := ih (fun r hr => h r (by simp [hr]))
    rw [total_cons, List.length_cons, Nat.mul_succ]
    omega
theorem allR_len (r c : Int) (xs : List Int) : (allR r c xs).zz.length ≤ 1048576 ∧ total (allR r c xs).zz ≤ 1048576 := by
  unfold allR
  split
  · rename_i h
    rw [Bool.and_eq_true, decide_eq_true_eq] at h
    obtain ⟨hg, h5⟩ := h
    obtain ⟨g1, _⟩ := good_facts hg
    have ht := total_bd2 (LG r.toNat c.toNat (bt xs)) 6 (fun P hP => by rw [LG_rows _ _ _ P hP]; omega)
    show (LG r.toNat c.toNat (bt xs)).length ≤ _ ∧ total (LG r.toNat c.toNat (bt xs)) ≤ _
    omega
  · simp [total]

set_option maxRecDepth 100000 in
set_option maxHeartbeats 1600000 in
theorem allWalk_any (g bl bgr n m : Nat) (M : Nat → Int) (w : World) (hn : n ≤ 6) (hm : m ≤ 6) (hg : ∀ k, k < 6 → 0 ≤ M k ∧ M k < 64) (d1 : bl ≠ g) (d2 : bgr ≠ g) (d3 : bl ≠ bgr) (hgl : g < w.heap.size)
    (hM : OwnM w 0 (.slice (some ⟨g, 0, none⟩) 0 (LG n m (bM M)).length) [] []) (HB : Has w bl [.slice (some ⟨g, 0, none⟩) 0 (LG n m (bM M)).length] 35) (HG : Has w bgr (gl n m M) 68) :
    Calls Try.prog 62 #[gv n m M, .func (.func 67) #[] #[.pointer (some ⟨bl, 0, none⟩), .pointer (some ⟨bgr, 0, none⟩)]] w fun e w' => e = .returned (.tuple #[]) ∧
      (∃ vs, OwnM w' 0 (.slice (some ⟨g, 0, none⟩) (LG n m (bM M)).length (LG n m (bM M)).length) vs (LG n m (bM M)) ∧ ∀ u ∈ vs, ∀ k, u.ownBlock = some k → w.heap.size ≤ k) ∧
      Has w' bl [.slice (some ⟨g, 0, none⟩) (LG n m (bM M)).length (LG n m (bM M)).length] 35 ∧ Chg (fun b => b = g ∨ b = bl) w w' := by
  have hb : bl < w.heap.size := HB.lt
  have hr : bgr < w.heap.size := HG.lt
  have h := walkLargest_any n m M 67 #[] #[.pointer (some ⟨bl, 0, none⟩), .pointer (some ⟨bgr, 0, none⟩)] (fun _ b => b = g ∨ b = bl)
    (fun bp j wr => Plk w.heap.size g bl bgr (LG n m (bM M)).length n m M (LG n m (bM M)) bp j wr) (fun _ => true) w hn hm hg
    (fun bp b hbp hbb => .inl (hbb.elim (fun e => by rw [e]; exact hgl) (fun e => by rw [e]; exact hb)))
    (fun bp j w1 w2 hz hc hi => hi.stay hz hgl hb hr hc)
    (fun _ _ => by kernel_rfl)
    (fun bp hz j P hj wr hi => by
      have hP := LG_rows n m (bM M) P (by
        obtain ⟨h1, h2⟩ := List.getElem?_eq_some_iff.1 hj
        rw [← h2]
        exact List.getElem_mem h1)
      exact all1_any w.heap.size g bl bgr _ n m M _ bp j P wr hn hz hgl hb hr d1 d2 d3 hj (lst_pl P n hP) (Nat.le_refl _) hi)
    (fun bp w' hz hlt hbw => ⟨by omega, ⟨[], by
      have := hM.stayB hbw
      simpa using this, rfl, by simp⟩, HB.kept hbw hb, HG.kept hbw hr⟩)
  refine h.mono ?_
  rintro e w' ⟨rfl, bp, hz, hi, hc⟩
  rw [runV_all _ (fun _ => rfl)] at hi
  obtain ⟨vs, hMM, hl, hk⟩ := hi.rows
  rw [show plG (bM M) (lastC m) n 0 0 (mR m (bM M) n 0 0) = LG n m (bM M) from rfl] at hMM hi
  rw [List.take_of_length_le (Nat.le_refl _)] at hMM
  exact ⟨rfl, ⟨vs, hMM, fun u hu k hk' => (hk u hu k hk').1⟩, hi.box, hc.mono (fun b hb => hb.2)⟩

theorem rook_most (n m : Nat) (hm : m ≤ 6) (B : Nat → Nat → Bool) : (numL n m B).getD (mR m B n 0 0) 0 = ((LG n m B).length : Int) := by
  have h1 := mR_le m B n 0 0
  have h2 := mR_cols n m hm B
  rw [numL_get n m B _ (by omega)]
  unfold LG
  rw [plG_last]

set_option maxRecDepth 100000 in
set_option maxHeartbeats 3200000 in
theorem implAllL_any (r c : Int) (xs : List Int) (w : World) (hx : xs.length ≤ 1048576) (lo : Nat) (s : Value) (hO : Own w lo s xs) :
    Calls Try.prog 25 #[.agg #[.int .i64 r, .int .i64 c, s]] w fun e w' => AnsM (allR r c xs) w e w' := by
  have L0 := (Law.start w).box (.int .i64 r) (.int .i64 c) s 28
  obtain ⟨a, cap, rfl, hr⟩ := hO.reads
  have hr0 := L0.reads hr
  clear hO
  cases hg : goodB r c xs
  · rw [show allR r c xs = ⟨[], false⟩ by unfold allR; rw [hg]; rfl]
    have HC := Lib.hid (gridOf_no r c a cap xs _ hx hr0 hg)
    have HL := Lib.hid L0
    clear L0 hg hr0
    go_enter Try.func25, Try.ntmps25
    go_wp2_with fail
    refine HC.out.mono ?_
    rintro e w1 ⟨rfl, hb⟩
    have HB := Lib.hid (((HL.out.kept hb).kept (below_new (.cells #[.int .i64 0, .int .i64 0, .int .i64 0, .int .i64 0, .int .i64 0, .int .i64 0, .int .i64 0, .int .i64 0] 68))).below)
    clear HL hb
    go_wp2_with fail
    go_ret2
    exact ⟨_, [], rfl, OwnM.nil _ _, HB.out⟩
  · obtain ⟨g1, g2, g3, _⟩ := good_facts hg
    obtain ⟨n, rfl⟩ := Int.eq_ofNat_of_zero_le (show 0 ≤ r by omega)
    obtain ⟨m, rfl⟩ := Int.eq_ofNat_of_zero_le (show 0 ≤ c by omega)
    have hn6 : n ≤ 6 := by omega
    have hm6 : m ≤ 6 := by omega
    obtain ⟨M, hM, hc⟩ := gridOf_good n m a cap xs _ hx hr0 hg
    have hgc := good_cell hg
    have hMb : ∀ k, k < 6 → 0 ≤ M k ∧ M k < 64 := fun k _ => by rw [hM]; exact hgc k
    have hBM : bM M = bt xs := by funext a b; simp only [bM, bt, hM]
    have hmo := fun W => mostRooks_any n m M W hn6 hm6 hMb
    simp only [most_eq n m hm6] at hmo
    have hrn := fun W => rookNumber_any n m (mR m (bM M) n 0 0) M W hn6 hm6 hMb
    rw [rook_most n m hm6] at hrn
    have hll := LG_len n m hn6 hm6 (bM M)
    have hwalk := fun g bl bgr W (d1 : bl ≠ g) (d2 : bgr ≠ g) (d3 : bl ≠ bgr) => allWalk_any g bl bgr n m M W hn6 hm6 hMb d1 d2 d3
    have hpc : allR n m xs = if (LG n m (bM M)).length ≤ 300 then ⟨LG n m (bM M), true⟩ else ⟨[], false⟩ := by
      unfold allR
      rw [hg, Bool.true_and, hBM]
      simp only [Int.toNat_natCast, decide_eq_true_eq]
    rw [hpc]
    obtain ⟨cnt, hcnt⟩ : ∃ cnt, cnt = (LG n m (bM M)).length := ⟨_, rfl⟩
    rw [← hcnt] at hwalk hrn hll ⊢
    clear hcnt
    generalize LG n m (bM M) = LL at *
    generalize mR m (bM M) n 0 0 = q at *
    obtain ⟨R, hR⟩ : ∃ R : MR, R = if cnt ≤ 300 then ⟨LL, true⟩ else ⟨[], false⟩ := ⟨_, rfl⟩
    rw [← hR]
    have HR1 : Hid (cnt ≤ 300 → R = ⟨LL, true⟩) := Lib.hid (fun h => by rw [hR, if_pos h])
    have HR2 : Hid (¬ cnt ≤ 300 → R = ⟨[], false⟩) := Lib.hid (fun h => by rw [hR, if_neg h])
    clear hR
    have HC := Lib.hid hc
    have HL := Lib.hid L0
    have HMO := Lib.hid hmo
    have HRN := Lib.hid hrn
    have HW := Lib.hid hwalk
    clear L0 hg hr0 hM hc hgc hBM g1 g2 g3 hrn hwalk hpc hmo hMb hr
    go_enter Try.func25, Try.ntmps25
    go_wp2_with fail
    refine HC.out.mono ?_
    rintro e w1 ⟨rfl, hb⟩
    have L1 := (HL.out.kept hb).has (gl n m M) 68
    rw [show w1.alloc (.cells (gl n m M).toArray 68) = w1.alloc (.cells #[.int .i64 n, .int .i64 m, .int .i64 (M 0), .int .i64 (M 1), .int .i64 (M 2), .int .i64 (M 3), .int .i64 (M 4), .int .i64 (M 5)] 68) from rfl] at L1
    have HL1 := Lib.hid L1
    clear HL hb HC L1
    go_upto_region 4 with fail
    generalize w1.alloc (.cells #[.int .i64 n, .int .i64 m, .int .i64 (M 0), .int .i64 (M 1), .int .i64 (M 2), .int .i64 (M 3), .int .i64 (M 4), .int .i64 (M 5)] 68) = w5 at *
    replace HL1 := Lib.hid HL1.out.drew
    obtain ⟨e0, e1, e2, e3, e4, e5, e6, e7, _⟩ := HL1.out.ownHas.eight
    go_region_held3 (fun w' => w'.cell? ⟨w1.heap.size, 0, none⟩ = some (.int .i64 n) ∧ w'.cell? ⟨w1.heap.size, 1, none⟩ = some (.int .i64 m) ∧ w'.cell? ⟨w1.heap.size, 2, none⟩ = some (.int .i64 (M 0)) ∧ w'.cell? ⟨w1.heap.size, 3, none⟩ = some (.int .i64 (M 1)) ∧ w'.cell? ⟨w1.heap.size, 4, none⟩ = some (.int .i64 (M 2)) ∧ w'.cell? ⟨w1.heap.size, 5, none⟩ = some (.int .i64 (M 3)) ∧ w'.cell? ⟨w1.heap.size, 6, none⟩ = some (.int .i64 (M 4)) ∧ w'.cell? ⟨w1.heap.size, 7, none⟩ = some (.int .i64 (M 5))) (first | (repeat' apply And.intro) <;> first | with_reducible assumption | assumption | exact cell_later (below_new _) (by assumption)) ((first
      | (go_at_call 66; ((with_reducible refine (HMO.out _).mono ?_); rintro e wA ⟨rfl, hb⟩; replace HL1 := Lib.hid (HL1.out.kept hb); replace e0 := cell_later hb e0; replace e1 := cell_later hb e1; replace e2 := cell_later hb e2; replace e3 := cell_later hb e3; replace e4 := cell_later hb e4; replace e5 := cell_later hb e5; replace e6 := cell_later hb e6; replace e7 := cell_later hb e7; clear hb))
      | (go_at_call 65; ((with_reducible refine (HRN.out _).mono ?_); rintro e w6 ⟨rfl, hb⟩; replace HL1 := Lib.hid (HL1.out.kept hb); replace e0 := cell_later hb e0; replace e1 := cell_later hb e1; replace e2 := cell_later hb e2; replace e3 := cell_later hb e3; replace e4 := cell_later hb e4; replace e5 := cell_later hb e5; replace e6 := cell_later hb e6; replace e7 := cell_later hb e7; clear hb))
      | fail))
    all_goals
      clear e0 e1 e2 e3 e4 e5 e6 e7
      by_cases h5 : cnt ≤ 300
      · have HY := Lib.hid (HR1.out h5)
        have h5I : ¬ (300 : Int) < cnt := by omega
        obtain ⟨i0, hi, hz0, hz1, hz2⟩ := info_parts Try.infoL
        go_wp2_with (at_make; refine wpList_make_own _ rfl _ _ 35 rfl _ 22 i0 (.slice none 0 0) 1 Try.underlying35 hi hz0 hz1 .i64 .i64 (cnt : Int) cnt rfl rfl rfl (by rw [hz2]; omega) (by unfold maxLen; omega) (Nat.le_refl _) ?_)
        intro w7 hown hgw
        have hgl : w6.heap.size < w7.heap.size := ((own_freshM hown).lt.1 w6.heap.size rfl).2
        have hb7 : Below w6.heap.size w6 w7 := (Below.refl _ _).grown hgw (Nat.le_refl _) (by simp)
        have L3 := HL1.out.kept hb7
        have L4 := L3.kept (below_new (.cells #[.slice (some ⟨w6.heap.size, 0, none⟩) 0 cnt] 35))
        have HM := Lib.hid (((own_freshM hown).stayB (below_new (.cells #[.slice (some ⟨w6.heap.size, 0, none⟩) 0 cnt] 35))).lower (Nat.zero_le _))
        have HB := Lib.hid (Has.new w7 [.slice (some ⟨w6.heap.size, 0, none⟩) 0 cnt] 35)
        rw [show w7.alloc (.cells ([.slice (some ⟨w6.heap.size, 0, none⟩) 0 cnt] : List Value).toArray 35) = w7.alloc (.cells #[.slice (some ⟨w6.heap.size, 0, none⟩) 0 cnt] 35) from rfl] at HB
        have hlo : w.heap.size ≤ w6.heap.size := HL1.out.below.size
        have hgr := HL1.out.ownHas.lt
        have HL4 := Lib.hid L4
        clear HL1 L3 L4 hown hgw hb7 hi hz0 hz1 hz2
        go_upto_region 8 with fail
        obtain ⟨bl, hbl⟩ : ∃ bl, bl = w7.heap.size := ⟨_, rfl⟩
        have hs8 : (w7.alloc (.cells #[.slice (some ⟨w6.heap.size, 0, none⟩) 0 cnt] 35)).heap.size = bl + 1 := by rw [World.size_alloc, hbl]
        generalize w7.alloc (.cells #[.slice (some ⟨w6.heap.size, 0, none⟩) 0 cnt] 35) = w8 at *
        rw [← hbl] at HB hgl ⊢
        clear hbl
        generalize w6.heap.size = g at *
        generalize w1.heap.size = bg at *
        obtain ⟨e0, e1, e2, e3, e4, e5, e6, e7, _⟩ := HL4.out.ownHas.eight
        have HWK := Lib.hid (HW.out g bl bg w8 (by omega) (by omega) (by omega) (by omega) HM.out HB.out HL4.out.ownHas)
        clear HW
        go_wp2_with fail
        refine HWK.out.mono ?_
        rintro e w9 ⟨rfl, ⟨vs, hM9, hk9⟩, hb9, hC⟩
        obtain ⟨f0, _⟩ := hb9.one
        have HB9 := Lib.hid (show Below w.heap.size w w9 from HL4.out.below.trans ⟨hC.os, hC.tape, hC.output, hC.size, fun k hk => hC.block k (by have := HL4.out.below.size; omega) (fun e => by omega)⟩)
        have HM9 := Lib.hid (show OwnM w9 w.heap.size (.slice (some ⟨g, 0, none⟩) cnt cnt) vs LL from hM9.raise (fun k hk => by
          have e : g = k := by simpa [Value.ownBlock] using hk
          omega) (fun u hu k hk => by have := hk9 u hu k hk; have := HL4.out.below.size; omega))
        clear hM9 hk9 hb9 hC HWK HL4 HM HB e0 e1 e2 e3 e4 e5 e6 e7
        go_wp2_with fail
        go_ret2
        rw [HY.out]
        exact ⟨_, vs, rfl, HM9.out, HB9.out⟩
      · have HY := Lib.hid (HR2.out h5)
        have h5I : (300 : Int) < cnt := by omega
        have HB := Lib.hid HL1.out.below
        clear HL1 HW HRN HMO
        go_wp2_with fail
        go_ret2
        rw [HY.out]
        exact ⟨_, [], rfl, OwnM.nil _ _, HB.out⟩

set_option maxRecDepth 100000 in
set_option maxHeartbeats 1600000 in
theorem specAllL_any (r c : Int) (xs : List Int) (w : World) (hx : xs.length ≤ 1048576) (lo : Nat) (s : Value) (hO : Own w lo s xs) :
    Calls Try.prog 24 #[.agg #[.int .i64 r, .int .i64 c, s]] w fun e w' => AnsM (allR r c xs) w e w' := by
  have L0 := (Law.start w).box (.int .i64 r) (.int .i64 c) s 28
  have hO0 := hO.kept L0.below
  obtain ⟨a, cap, rfl, hr⟩ := hO.reads
  have hr0 := L0.reads hr
  clear hO
  cases hg : goodB r c xs
  · rw [show allR r c xs = ⟨[], false⟩ by unfold allR; rw [hg]; rfl]
    go_enter Try.func24, Try.ntmps24
    go_wp2_with fail
    refine (at_boolB (boGood_any r c a cap xs _ hx hr0) hg).mono ?_
    rintro e w1 ⟨rfl, hb⟩
    have HB := Lib.hid (L0.kept hb).below
    clear L0 hb hg hr0 hO0
    go_wp2_with fail
    go_ret2
    exact ⟨_, [], rfl, OwnM.nil _ _, HB.out⟩
  · obtain ⟨g1, g2, g3, _⟩ := good_facts hg
    obtain ⟨n, rfl⟩ := Int.eq_ofNat_of_zero_le (show 0 ≤ r by omega)
    obtain ⟨m, rfl⟩ := Int.eq_ofNat_of_zero_le (show 0 ≤ c by omega)
    have hpc : allR n m xs = if (LG n m (bt xs)).length ≤ 300 then ⟨LG n m (bt xs), true⟩ else ⟨[], false⟩ := by
      unfold allR
      rw [hg, Bool.true_and]
      simp only [Int.toNat_natCast, decide_eq_true_eq]
    rw [hpc]
    have HC := Lib.hid (at_boolB (boGood_any n m a cap xs _ hx hr0) hg)
    have HLL := Lib.hid (fun W h => lcLargest_any n m xs W hx (by omega) (by omega) (by omega) (good_cell hg) lo (.slice a xs.length cap) h)
    clear hg hr0 hpc
    generalize LG n m (bt xs) = D at *
    have hcase : (300 : Int) < D.length ∨ ¬ (300 : Int) < D.length := by omega
    obtain ⟨R, hR⟩ : ∃ R : MR, R = if D.length ≤ 300 then ⟨D, true⟩ else ⟨[], false⟩ := ⟨_, rfl⟩
    rw [← hR]
    have HR1 : Hid (D.length ≤ 300 → R = ⟨D, true⟩) := Lib.hid (fun h => by rw [hR, if_pos h])
    have HR2 : Hid (¬ D.length ≤ 300 → R = ⟨[], false⟩) := Lib.hid (fun h => by rw [hR, if_neg h])
    clear hR
    go_enter Try.func24, Try.ntmps24
    go_wp2_with fail
    refine HC.out.mono ?_
    rintro e w1 ⟨rfl, hb⟩
    have L1 := L0.kept hb
    have hO1 := hO0.kept hb
    have ⟨_, k0, k1, k2, _⟩ := L1.ownBox
    have HL := Lib.hid L1
    clear L0 L1 hb HC hO0
    go_wp2_with fail
    refine (HLL.out _ hO1).mono ?_
    rintro e w2 ⟨g, cp, vs, rfl, hM, hb⟩
    have HL2 := Lib.hid (HL.out.addM hb hM)
    clear HL hO1 hM hb k0 k1 k2
    rcases hcase with h5 | h5
    · have HY := Lib.hid (HR2.out (by omega))
      have HB := Lib.hid HL2.out.below
      clear HL2
      go_wp2_with fail
      go_ret2
      rw [HY.out]
      exact ⟨_, [], rfl, OwnM.nil _ _, HB.out⟩
    · have HY := Lib.hid (HR1.out (by omega))
      go_wp2_with fail
      go_ret2
      rw [HY.out]
      exact ⟨_, vs, rfl, HL2.out.ownMLo, HL2.out.below⟩

end Go.Proofs.Ytdimbnkgomfojab
