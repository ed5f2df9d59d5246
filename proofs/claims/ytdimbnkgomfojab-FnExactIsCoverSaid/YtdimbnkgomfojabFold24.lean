import Derived.Test.YtdimbnkgomfojabFold23
import Derived.Test.YtdimbnkgomfojabFold22
import Derived.Test.YtdimbnkgomfojabFold13
import Derived.Test.YtdimbnkgomfojabFold15
namespace Go.Proofs.Ytdimbnkgomfojab
open Go.RowKit Go.WideShapes

/-- All largest placements, in order. -/
def LG (n m : Nat) (B : Nat → Nat → Bool) : List (List Int) := plG B (lastC m) n 0 0 (mR m B n 0 0)
theorem LG_pos (n m : Nat) (B : Nat → Nat → Bool) : 0 < (LG n m B).length := by
  unfold LG
  rw [plG_last]
  exact (wR_pos m B n 0 0 _).2 (Nat.le_refl _)
theorem LG_rows (n m : Nat) (B : Nat → Nat → Bool) : ∀ P ∈ LG n m B, P.length = n := plG_rows B (lastC m) n 0 0 _
theorem LG_gA (n m : Nat) (B : Nat → Nat → Bool) : gA m B n 0 0 (mR m B n 0 0) [] = LG n m B := by
  unfold gA LG
  simp
theorem LG_len (n m : Nat) (hn : n ≤ 6) (hm : m ≤ 6) (B : Nat → Nat → Bool) : (LG n m B).length ≤ 117649 := by
  rw [← LG_gA]
  exact gA_len m hm B n 0 0 _ [] hn
def largR (r c : Int) (xs : List Int) : LR := if goodB r c xs then ⟨(LG r.toNat c.toNat (bt xs)).getD 0 [], true⟩ else ⟨[], false⟩
theorem LG_first (n m : Nat) (B : Nat → Nat → Bool) : ((LG n m B).getD 0 []).length = n := by
  have h := LG_pos n m B
  have : (LG n m B).getD 0 [] ∈ LG n m B := by simp [List.getD, h]
  exact LG_rows n m B _ this
theorem largR_len (r c : Int) (xs : List Int) : (largR r c xs).ys.length ≤ 1048576 := by
  unfold largR
  split
  · rename_i h
    have h1 := good_facts h
    show ((LG r.toNat c.toNat (bt xs)).getD 0 []).length ≤ _
    rw [LG_first]
    omega
  · simp

set_option maxRecDepth 100000 in
set_option maxHeartbeats 3200000 in
theorem lcLargest_any (n m : Nat) (xs : List Int) (w : World) (hx : xs.length ≤ 1048576) (hn : n ≤ 6) (hm : m ≤ 6) (hlen : xs.length = n) (hgc : ∀ k, 0 ≤ xs.getD k 0 ∧ xs.getD k 0 < 64) (lo : Nat) (s : Value) (hO : Own w lo s xs) :
    Calls Try.prog 60 #[.agg #[.int .i64 n, .int .i64 m, s]] w fun e w' => ∃ g cp vs, e = .returned (.slice (some ⟨g, 0, none⟩) (LG n m (bt xs)).length cp) ∧ OwnM w' w.heap.size (.slice (some ⟨g, 0, none⟩) (LG n m (bt xs)).length cp) vs (LG n m (bt xs)) ∧ Below w.heap.size w w' := by
  have L0 := (Law.start w).box (.int .i64 n) (.int .i64 m) s 28
  have HO := Lib.hid hO
  obtain ⟨a, cap, rfl, _⟩ := hO.reads
  have hmr := mR_le m (bt xs) n 0 0
  have hmo := fun W (h : Own W lo (.slice a xs.length cap) xs) => lcMost_any n m xs hx hn hm hlen hgc n 0 0 (by omega) (by omega) W lo _ h
  have hal := fun W (h : Own W lo (.slice a xs.length cap) xs) => lcAll_any n m xs hx hn hm hlen hgc n 0 0 (mR m (bt xs) n 0 0) [] (by omega) rfl (by omega) (by omega) W lo _ 0 _ h (Own.nil _ _)
  rw [LG_gA] at hal
  rw [show ((0 : Nat) : Int) = 0 from rfl] at hmo hal
  have HMO := Lib.hid hmo
  have HAL := Lib.hid hal
  have HP := Lib.hid (LG_pos n m (bt xs))
  clear hmo hal hmr hlen hgc hO
  generalize LG n m (bt xs) = D at *
  generalize mR m (bt xs) n 0 0 = q at *
  have HL := Lib.hid L0
  clear L0
  go_enter Try.func60, Try.ntmps60
  go_upto_region 1 with fail
  generalize w.alloc (.cells #[.int .i64 n, .int .i64 m, .slice a xs.length cap] 28) = w5 at *
  replace HL := Lib.hid HL.out.drew
  obtain ⟨_, e0, e1, e2, _⟩ := HL.out.ownBox
  go_region_held3 (fun w' => w'.cell? ⟨w.heap.size, 0, none⟩ = some (.int .i64 n) ∧ w'.cell? ⟨w.heap.size, 1, none⟩ = some (.int .i64 m) ∧ w'.cell? ⟨w.heap.size, 2, none⟩ = some (.slice a xs.length cap)) (first | (repeat' apply And.intro) <;> first | with_reducible assumption | assumption | exact cell_later (below_new _) (by assumption)) ((first
    | (go_at_call 103; ((with_reducible refine (HMO.out _ (HO.out.kept HL.out.below)).mono ?_); rintro e wA ⟨rfl, hb⟩; replace HL := Lib.hid (HL.out.kept hb); replace e0 := cell_later hb e0; replace e1 := cell_later hb e1; replace e2 := cell_later hb e2; clear hb))
    | (go_at_call 102; ((with_reducible refine (HAL.out _ (HO.out.kept HL.out.below)).mono ?_); rintro e wB ⟨v, vs, rfl, hM, _, hb⟩; replace HL := Lib.hid (HL.out.addM hb hM); replace e0 := cell_later hb e0; replace e1 := cell_later hb e1; replace e2 := cell_later hb e2; clear hb hM))
    | fail))
  all_goals
    clear e0 e1 e2
    have HF := Lib.hid (show ∃ g cp, v = .slice (some ⟨g, 0, none⟩) D.length cp from by
      have hM := HL.out.ownM
      have hl := hM.len
      rcases hM.cases with ⟨_, h⟩ | ⟨g, cp, hv, _⟩
      · have : D.length = 0 := by rw [hl, h]; rfl
        have := HP.out
        omega
      · rw [← hl] at hv
        exact ⟨g, cp, hv⟩)
    go_wp2_with fail
    go_ret
    obtain ⟨g, cp, rfl⟩ := HF.out
    exact ⟨g, cp, vs, rfl, HL.out.ownMLo, HL.out.below⟩

set_option maxRecDepth 100000 in
set_option maxHeartbeats 1600000 in
theorem specLarg_any (r c : Int) (xs : List Int) (w : World) (hx : xs.length ≤ 1048576) (lo : Nat) (s : Value) (hO : Own w lo s xs) :
    Calls Try.prog 16 #[.agg #[.int .i64 r, .int .i64 c, s]] w fun e w' => AnsL (largR r c xs) w e w' := by
  have L0 := (Law.start w).box (.int .i64 r) (.int .i64 c) s 28
  have hO0 := hO.kept L0.below
  obtain ⟨a, cap, rfl, hr⟩ := hO.reads
  have hr0 := L0.reads hr
  clear hO
  cases hg : goodB r c xs
  · rw [show largR r c xs = ⟨[], false⟩ by simp [largR, hg]]
    go_enter Try.func16, Try.ntmps16
    go_wp2_with fail
    refine (at_boolB (boGood_any r c a cap xs _ hx hr0) hg).mono ?_
    rintro e w1 ⟨rfl, hb⟩
    have HB := Lib.hid (L0.kept hb).below
    clear L0 hb hg hr0 hO0
    go_wp2_with fail
    go_ret2
    exact ⟨_, rfl, Own.nil _ _, HB.out⟩
  · obtain ⟨g1, g2, g3, _⟩ := good_facts hg
    obtain ⟨n, rfl⟩ := Int.eq_ofNat_of_zero_le (show 0 ≤ r by omega)
    obtain ⟨m, rfl⟩ := Int.eq_ofNat_of_zero_le (show 0 ≤ c by omega)
    have HY : Hid (largR n m xs = ⟨(LG n m (bt xs)).getD 0 [], true⟩) := Lib.hid (by simp [largR, hg])
    have HC := Lib.hid (at_boolB (boGood_any n m a cap xs _ hx hr0) hg)
    have HLL := Lib.hid (fun W h => lcLargest_any n m xs W hx (by omega) (by omega) (by omega) (good_cell hg) lo (.slice a xs.length cap) h)
    have HP := Lib.hid (LG_pos n m (bt xs))
    clear hg hr0
    generalize LG n m (bt xs) = D at *
    go_enter Try.func16, Try.ntmps16
    go_wp2_with fail
    refine HC.out.mono ?_
    rintro e w1 ⟨rfl, hb⟩
    have L1 := L0.kept hb
    have hO1 := hO0.kept hb
    have ⟨_, k0, k1, k2, _⟩ := L1.ownBox
    have HL := Lib.hid L1
    clear L0 L1 hb HC hO0
    go_wp2_with fail
    refine (HLL.out _ hO1).mono ?_
    rintro e w2 ⟨g, cp, vs, rfl, hM, hb⟩
    have L2 := HL.out.addM hb hM
    obtain ⟨a2, p2, hck, _, hRO⟩ := rowM_own L2 rfl 0 HP.out (D.getD 0 []) (fun h => by simp [List.getD, h])
    have HF := Lib.hid (And.intro hRO L2.below)
    have hl1 : (0 : Int) < D.length := by have := HP.out; omega
    clear HL hO1 hM hb L2 hRO k0 k1 k2
    go_wp2_with fail
    go_ret2
    rw [HY.out]
    exact ⟨_, rfl, HF.out.1, HF.out.2⟩

set_option maxRecDepth 100000 in
set_option maxHeartbeats 1600000 in
theorem larg1_any (F G : Nat → Int) (bf : Nat) (w : World) (H : Has w bf (pl6 G) 71) :
    Calls Try.prog 63 (#[pv6 F] ++ #[.pointer (some ⟨bf, 0, none⟩)]) w fun e w' => e = .returned (.bool false) ∧ Chg (fun k => k = bf) w w' ∧ Has w' bf (pl6 F) 71 := by
  have hb := below_new (w := w) (.cells #[.int .i64 (F 0), .int .i64 (F 1), .int .i64 (F 2), .int .i64 (F 3), .int .i64 (F 4), .int .i64 (F 5)] 71)
  have hn : Has (w.alloc (.cells #[.int .i64 (F 0), .int .i64 (F 1), .int .i64 (F 2), .int .i64 (F 3), .int .i64 (F 4), .int .i64 (F 5)] 71)) w.heap.size (pl6 F) 71 := Has.new w (pl6 F) 71
  have K := H.kept hb H.lt
  have HB := Lib.hid hb
  clear H
  go_enter Try.func63, Try.ntmps63
  go_upto_region 1 with fail
  generalize w.alloc (.cells #[.int .i64 (F 0), .int .i64 (F 1), .int .i64 (F 2), .int .i64 (F 3), .int .i64 (F 4), .int .i64 (F 5)] 71) = w5 at *
  have hrow := hn.row6
  have hrow2 := K.row6
  have HK := Lib.hid K
  clear hn K
  go_upto_region 2 with (first | refine wpList_load_row rfl 71 _ rfl _ rfl _ _ _ _ hrow Try.underlying71 rfl (by kernel_rfl) ?_ | refine wpList_store_row rfl 71 _ _ rfl _ _ rfl rfl _ _ hrow2 (by kernel_rfl) rfl (by kernel_rfl) ?_)
  have HN := Lib.hid (HK.out.setRow6 F)
  have HC := Lib.hid (show Chg (fun k => k = bf) w (w5.setRow bf #[.int .i64 (F 0), .int .i64 (F 1), .int .i64 (F 2), .int .i64 (F 3), .int .i64 (F 4), .int .i64 (F 5)]) from (Chg.of_below HB.out).trans (Chg.setRow _ _ _ rfl))
  generalize w5.setRow bf #[.int .i64 (F 0), .int .i64 (F 1), .int .i64 (F 2), .int .i64 (F 3), .int .i64 (F 4), .int .i64 (F 5)] = w6 at *
  clear hrow hrow2 HK HB
  go_wp2_with fail
  go_ret
  exact ⟨rfl, HC.out, HN.out⟩

set_option maxRecDepth 100000 in
set_option maxHeartbeats 3200000 in
theorem implLarg_any (r c : Int) (xs : List Int) (w : World) (hx : xs.length ≤ 1048576) (lo : Nat) (s : Value) (hO : Own w lo s xs) :
    Calls Try.prog 18 #[.agg #[.int .i64 r, .int .i64 c, s]] w fun e w' => AnsL (largR r c xs) w e w' := by
  have L0 := (Law.start w).box (.int .i64 r) (.int .i64 c) s 28
  obtain ⟨a, cap, rfl, hr⟩ := hO.reads
  have hr0 := L0.reads hr
  clear hO
  cases hg : goodB r c xs
  · rw [show largR r c xs = ⟨[], false⟩ by simp [largR, hg]]
    go_enter Try.func18, Try.ntmps18
    go_wp2_with fail
    refine (gridOf_no r c a cap xs _ hx hr0 hg).mono ?_
    rintro e w1 ⟨rfl, hb⟩
    have HB := Lib.hid (((L0.kept hb).kept (below_new (.cells #[.int .i64 0, .int .i64 0, .int .i64 0, .int .i64 0, .int .i64 0, .int .i64 0, .int .i64 0, .int .i64 0] 68))).below)
    clear L0 hb hg hr0
    go_wp2_with fail
    go_ret2
    exact ⟨_, rfl, Own.nil _ _, HB.out⟩
  · obtain ⟨g1, g2, g3, _⟩ := good_facts hg
    obtain ⟨n, rfl⟩ := Int.eq_ofNat_of_zero_le (show 0 ≤ r by omega)
    obtain ⟨m, rfl⟩ := Int.eq_ofNat_of_zero_le (show 0 ≤ c by omega)
    have hn6 : n ≤ 6 := by omega
    obtain ⟨M, hM, hc⟩ := gridOf_good n m a cap xs _ hx hr0 hg
    have hgc := good_cell hg
    have hMb : ∀ k, k < 6 → 0 ≤ M k ∧ M k < 64 := fun k _ => by rw [hM]; exact hgc k
    have hBM : bM M = bt xs := by funext a b; simp only [bM, bt, hM]
    have HY : Hid (largR n m xs = ⟨(LG n m (bt xs)).getD 0 [], true⟩) := Lib.hid (by simp [largR, hg])
    have hwalk : ∀ (W : World) (bf : Nat), Has W bf (pl6 (fun _ => 0)) 71 → Calls Try.prog 62 #[gv n m M, .func (.func 63) #[] #[.pointer (some ⟨bf, 0, none⟩)]] W fun e w' => e = .returned (.tuple #[]) ∧ Has w' bf (pl6 (plF ((LG n m (bt xs)).getD 0 []) n)) 71 ∧ Chg (fun b => b = bf) W w' := by
      intro W bf hB
      have hlt := hB.lt
      have h := walkLargest_any n m M 63 #[] #[.pointer (some ⟨bf, 0, none⟩)] (fun _ b => b = bf)
        (fun bp j w' => ∃ G, Has w' bf (pl6 G) 71 ∧ (0 < j → G = plF ((LG n m (bt xs)).getD 0 []) n ∨ 1 < j)) (fun _ => false) W hn6 (by omega) hMb
        (fun bp b hbp hb => .inl (by omega))
        (fun bp j w1 w2 hbp hch hi => by obtain ⟨G, h1, h2⟩ := hi; exact ⟨G, hch.has (by omega) h1, h2⟩)
        (fun _ _ => by kernel_rfl)
        (fun bp hbp j P hj w1 hi => by
          obtain ⟨G, h1, h2⟩ := hi
          refine (larg1_any (plF P n) G bf w1 h1).mono ?_
          rintro e w' ⟨rfl, hch, hh⟩
          refine ⟨rfl, ⟨_, hh, fun _ => ?_⟩, hch⟩
          by_cases hj0 : j = 0
          · left
            subst hj0
            rw [hBM] at hj
            unfold LG
            rw [List.getD_eq_getElem?_getD, hj]
            rfl
          · right
            omega)
        (fun bp w' hbp _ hb => ⟨_, hB.kept hb hlt, fun h => by omega⟩)
      rw [hBM] at h
      have hp := LG_pos n m (bt xs)
      have hrun : (runV (fun _ => false) 0 (plG (bt xs) (lastC m) n 0 0 (mR m (bt xs) n 0 0)).length).1 = 1 := by
        obtain ⟨z, hz⟩ : ∃ z, (plG (bt xs) (lastC m) n 0 0 (mR m (bt xs) n 0 0)).length = z + 1 := ⟨(LG n m (bt xs)).length - 1, by show (LG n m (bt xs)).length = _; omega⟩
        rw [hz, runV]
        rfl
      rw [hrun] at h
      refine h.mono (fun e w' h => ⟨h.1, ?_⟩)
      obtain ⟨bp, hbp, ⟨G, h1, h2⟩, h3⟩ := h.2
      rcases h2 (by omega) with rfl | h2
      · exact ⟨h1, h3.mono (fun b hb => hb.2)⟩
      · omega
    have HC := Lib.hid hc
    have HW := Lib.hid hwalk
    have HLS := Lib.hid (show lstI n (plF ((LG n m (bt xs)).getD 0 []) n) = (LG n m (bt xs)).getD 0 [] from by
      have hl := LG_first n m (bt xs)
      generalize (LG n m (bt xs)).getD 0 [] = P at *
      refine List.ext_getElem (by simp [lstI, hl]) (fun k h1 h2 => ?_)
      simp only [lstI, List.getElem_map, List.getElem_range]
      unfold plF
      rw [if_pos (by omega)]
      simp [List.getD, h2])
    clear hg hr0 hc hM hMb hgc hBM hwalk
    generalize (LG n m (bt xs)).getD 0 [] = P at *
    go_enter Try.func18, Try.ntmps18
    go_wp2_with fail
    refine HC.out.mono ?_
    rintro e w1 ⟨rfl, hb⟩
    have L1 := ((L0.kept hb).has (gl n m M) 68).has (pl6 (fun _ => 0)) 71
    simp only [World.size_alloc] at L1
    rw [show (gl n m M).toArray = #[.int .i64 n, .int .i64 m, .int .i64 (M 0), .int .i64 (M 1), .int .i64 (M 2), .int .i64 (M 3), .int .i64 (M 4), .int .i64 (M 5)] from rfl, show (pl6 (fun _ => 0)).toArray = #[.int .i64 0, .int .i64 0, .int .i64 0, .int .i64 0, .int .i64 0, .int .i64 0] from rfl] at L1
    have HL := Lib.hid L1
    clear L0 hb HC L1
    go_upto_region 5 with fail
    generalize (w1.alloc (.cells #[.int .i64 n, .int .i64 m, .int .i64 (M 0), .int .i64 (M 1), .int .i64 (M 2), .int .i64 (M 3), .int .i64 (M 4), .int .i64 (M 5)] 68)).alloc (.cells #[.int .i64 0, .int .i64 0, .int .i64 0, .int .i64 0, .int .i64 0, .int .i64 0] 71) = w5 at *
    obtain ⟨e0, e1, e2, e3, e4, e5, e6, e7, _⟩ := HL.out.tl.ownHas.eight
    have hw := HW.out w5 (w1.heap.size + 1) HL.out.ownHas
    have HWW := Lib.hid hw
    clear hw HW
    go_wp2_with fail
    refine HWW.out.mono ?_
    rintro e w6 ⟨rfl, hh, hch⟩
    have hG6 := hch.has (by omega) HL.out.tl.ownHas
    have HF := Lib.hid (show Below w.heap.size w w6 from by
      have hb := HL.out.below
      have hr := (HL.out.range _ (List.mem_cons_self ..) _ rfl).1
      exact ⟨hch.os.trans hb.os, hch.tape.trans hb.tape, hch.output.trans hb.output, Nat.le_trans hb.size hch.size, fun b hb2 => (hch.block b (Nat.lt_of_lt_of_le hb2 hb.size) (by omega)).trans (hb.block b hb2)⟩)
    clear HL hch HWW e0 e1 e2 e3 e4 e5 e6 e7
    obtain ⟨e0, _⟩ := hG6.eight
    have hrow := hh.row6
    clear hG6 hh
    go_wp2_with (refine wpList_load_row rfl 71 _ rfl _ rfl _ _ _ _ hrow Try.underlying71 rfl (by kernel_rfl) ?_)
    refine (list_any (plF P n) n _ hn6).mono ?_
    rintro e w7 ⟨g, rfl, hO, hb⟩
    rw [HLS.out] at hO
    have HO := Lib.hid (And.intro (hO.lower HF.out.size) (below_on HF.out hb))
    clear hO hb hrow e0
    go_wp2_with fail
    go_ret2
    rw [HY.out]
    exact ⟨_, rfl, HO.out.1, HO.out.2⟩

end Go.Proofs.Ytdimbnkgomfojab
