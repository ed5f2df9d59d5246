import Derived.Test.YtdimbnkgomfojaaFold37

section
namespace Go.Proofs.Ytdimbnkgomfojaa
open Go.RowKit Go.WideShapes

/-- What the visitor of FirstHitting keeps behind c calls: the list of the last one. -/
structure Fgh (bl bgr n m : Nat) (M : Nat → Int) (HL : List (List Int)) (bp c : Nat) (w : World) : Prop where
  lt : bp + 1 < w.heap.size
  row : ∃ v, Has w bl [v] 22 ∧ ((c = 0 ∧ v = .slice none 0 0) ∨ ∃ P g, HL[c - 1]? = some P ∧ v = .slice (some ⟨g, 0, none⟩) n n ∧ Own w 0 v P ∧ bp + 1 < g ∧ 0 < c)
  grid : Has w bgr (gl n m M) 59
theorem Fgh.chg {bl bgr n m : Nat} {M : Nat → Int} {HL : List (List Int)} {bp c : Nat} {foot : Nat → Prop} {w w' : World} (h : Fgh bl bgr n m M HL bp c w) (hc : Chg foot w w') (d1 : ¬ foot bl) (d2 : ¬ foot bgr) (d3 : ∀ g, bp + 1 < g → ¬ foot g) : Fgh bl bgr n m M HL bp c w' := by
  obtain ⟨v, hb, hv⟩ := h.row
  refine ⟨Nat.lt_of_lt_of_le h.lt hc.size, ⟨v, Chg.has hc d1 hb, ?_⟩, Chg.has hc d2 h.grid⟩
  rcases hv with h1 | ⟨P, g, h1, rfl, h3, h4, h5⟩
  · exact .inl h1
  · exact .inr ⟨P, g, h1, rfl, own_keep h3 hc (d3 g h4), h4, h5⟩

set_option maxRecDepth 100000 in
set_option maxHeartbeats 3200000 in
theorem fh1_any (bl bgr n m : Nat) (M : Nat → Int) (HL : List (List Int)) (bp c : Nat) (P : List Int) (w : World) (hn6 : n ≤ 6) (h1 : bl ≤ bp) (_h2 : bgr ≤ bp) (d3 : bl ≠ bgr)
    (hj : HL[c]? = some P) (hP : lstI n (plF P n) = P) (H : Fgh bl bgr n m M HL bp c w) :
    Calls Try.prog 92 (#[pv6 (plF P n)] ++ #[.pointer (some ⟨bgr, 0, none⟩), .pointer (some ⟨bl, 0, none⟩)]) w fun e w' => e = .returned (.bool false) ∧ Fgh bl bgr n m M HL bp (c + 1) w' ∧ Chg (fun b => b = bl ∨ bp + 1 < b) w w' := by
  obtain ⟨v, hbx, _⟩ := H.row
  obtain ⟨F, hF⟩ : ∃ F, F = plF P n := ⟨_, rfl⟩
  rw [← hF] at hP ⊢
  have hb := below_new (w := w) (.cells #[.int .i64 (F 0), .int .i64 (F 1), .int .i64 (F 2), .int .i64 (F 3), .int .i64 (F 4), .int .i64 (F 5)] 70)
  have hnP : Has (w.alloc (.cells #[.int .i64 (F 0), .int .i64 (F 1), .int .i64 (F 2), .int .i64 (F 3), .int .i64 (F 4), .int .i64 (F 5)] 70)) w.heap.size (pl6 F) 70 := Has.new w (pl6 F) 70
  have B0 := hbx.kept hb hbx.lt
  have G0 := H.grid.kept hb H.grid.lt
  have HB := Lib.hid hb
  have HW := Lib.hid H.lt
  have HJ := Lib.hid hj
  have HP := Lib.hid hP
  clear H hbx hb hF hj hP
  go_enter Try.func92, Try.ntmps92
  go_upto_region 1 with fail
  generalize w.alloc (.cells #[.int .i64 (F 0), .int .i64 (F 1), .int .i64 (F 2), .int .i64 (F 3), .int .i64 (F 4), .int .i64 (F 5)] 70) = w5 at *
  have HBX := Lib.hid B0
  have HGR := Lib.hid G0
  have ⟨x0, x9⟩ := HBX.out.one
  have ⟨x1, _⟩ := HGR.out.eight
  obtain ⟨p0, p1, p2, p3, p4, p5, _⟩ := hnP.six
  have HLT := Lib.hid hnP.lt
  clear B0 G0 hnP
  go_wp2_with fail
  refine (list_any F n _ hn6).mono ?_
  rintro e wA ⟨ga, rfl, OA, hbA⟩
  have hB2 := HBX.out.kept hbA HBX.out.lt
  have hG2 := HGR.out.kept hbA HGR.out.lt
  have ⟨y0, y9⟩ := hB2.one
  have hga := own_lt OA ga rfl
  have c1 : Chg (fun b => b = bl ∨ bp + 1 < b) w wA := (Chg.of_below HB.out).trans (Chg.of_below hbA)
  have hc2 := Chg.of_set (foot := fun b => b = bl ∨ bp + 1 < b) wA bl 0 (.slice (some ⟨ga, 0, none⟩) n n) (.inl rfl)
  have hlt := HLT.out
  have hbw := HW.out
  have HE := Lib.hid (show Fgh bl bgr n m M HL bp (c + 1) (wA.setCell ⟨bl, 0, none⟩ (.slice (some ⟨ga, 0, none⟩) n n)) ∧ Chg (fun b => b = bl ∨ bp + 1 < b) w (wA.setCell ⟨bl, 0, none⟩ (.slice (some ⟨ga, 0, none⟩) n n)) from by
    refine ⟨⟨Nat.lt_of_lt_of_le hbw (c1.trans hc2).size, ⟨.slice (some ⟨ga, 0, none⟩) n n, ?_, .inr ⟨P, ga, by simpa using HJ.out, rfl, ?_, by omega, by omega⟩⟩, hG2.setOff bl 0 _ (fun e => d3 e.symm)⟩, c1.trans hc2⟩
    · have := hB2.set 0 (.slice (some ⟨ga, 0, none⟩) n n)
      simpa using this
    · have := (OA.off (a := ⟨bl, 0, none⟩) (by simp [Value.ownBlock]; omega) (.slice (some ⟨ga, 0, none⟩) n n)).lower (Nat.zero_le _)
      rw [HP.out] at this
      exact this)
  clear x0 x1 x9 p0 p1 p2 p3 p4 p5 OA hB2 hG2 hga c1 hc2 hbA HBX HGR HB
  go_wp2_with fail
  go_ret
  exact ⟨rfl, HE.out.1, HE.out.2⟩

set_option maxRecDepth 100000 in
set_option maxHeartbeats 1600000 in
theorem fhWalk_any (n : Nat) (M : Nat → Int) (k : Int) (bl bgr : Nat) (w : World) (hn : n ≤ 6) (hgc : ∀ k, k < 6 → 0 ≤ M k ∧ M k < 64) (d3 : bl ≠ bgr) (B : Has w bl [.slice none 0 0] 22) (G : Has w bgr (gl n n M) 59) :
    Calls Try.prog 90 #[gv n n M, .int .i64 k, .func (.func 92) #[] #[.pointer (some ⟨bgr, 0, none⟩), .pointer (some ⟨bl, 0, none⟩)]] w fun e w' => e = .returned (.tuple #[]) ∧
      (∃ v, Has w' bl [v] 22 ∧ (((prm n n []).filter (hitP (bN M) n k) = [] ∧ v = .slice none 0 0) ∨ ∃ P g, ((prm n n []).filter (hitP (bN M) n k)).head? = some P ∧ v = .slice (some ⟨g, 0, none⟩) n n ∧ Own w' w.heap.size v P)) ∧ Chg (fun b => b = bl) w w' := by
  have hbl := B.lt
  have hbg := G.lt
  have h := walkHit_any n M k 92 #[.pointer (some ⟨bgr, 0, none⟩), .pointer (some ⟨bl, 0, none⟩)] (fun b => b = bl) (fun bp c W => Fgh bl bgr n n M ((prm n n []).filter (hitP (bN M) n k)) bp c W) false (prm n n []) w hn hgc rfl
    (fun _ _ => by kernel_rfl)
    (fun bp c w1 w2 hb hc hi => hi.chg hc (by omega) (by omega) (fun g hg => by omega))
    (fun bp c w1 w2 hi hb => hi.chg (foot := fun _ => False) (Chg.of_below hb) id id (fun _ _ => id))
    (fun bp hb c P hP w1 hi => by
      have hmem := List.mem_of_getElem? hP
      have hl := (prm_cell n P (List.mem_filter.1 hmem).1).1
      refine (fh1_any bl bgr n n M _ bp c P w1 hn (by omega) (by omega) d3 hP (lst_pl P n hl) hi).mono ?_
      rintro e w2 ⟨rfl, hp, hc⟩
      exact ⟨rfl, hp, hc.os, hc.tape, hc.output, hc.size, fun b hb2 hn2 => hc.block b hb2 (fun h2 => hn2 (h2.elim (fun e => .inl ⟨by omega, e⟩) .inr))⟩)
    (fun bp w1 hb hlt hbw => ⟨hlt, ⟨.slice none 0 0, B.kept hbw hbl, .inl ⟨rfl, rfl⟩⟩, G.kept hbw hbg⟩)
  refine h.mono ?_
  rintro e w' ⟨rfl, bp, hz, hi, hc⟩
  refine ⟨rfl, ?_, hc.os, hc.tape, hc.output, hc.size, fun b hb2 hn2 => hc.block b hb2 (fun h2 => hn2 h2.2)⟩
  obtain ⟨v, hb, hv⟩ := hi.row
  refine ⟨v, hb, ?_⟩
  generalize (prm n n []).filter (hitP (bN M) n k) = LL at *
  rcases hv with ⟨h0, h1⟩ | ⟨P, g, h1, rfl, h3, h4, h5⟩
  · refine .inl ⟨List.eq_nil_of_length_eq_zero ?_, h1⟩
    rw [if_neg (by decide)] at h0
    omega
  · refine .inr ⟨P, g, ?_, rfl, ?_⟩
    · rw [List.head?_eq_getElem?]
      have : (if false = true then LL.length else min 1 LL.length) - 1 = 0 := by simp; omega
      rw [this] at h1
      exact h1
    · refine ⟨h3.1, ?_⟩
      rcases h3.2 with ⟨h6, _⟩ | ⟨g', cap', cur, hv, hg, hh⟩
      · cases h6
      · have e : g = g' := by injection hv with h1; injection h1 with h1; injection h1
        subst e
        exact .inr ⟨g, cap', cur, hv, by omega, hh⟩
end Go.Proofs.Ytdimbnkgomfojaa
end

section
namespace Go.Proofs.Ytdimbnkgomfojaa
open Go.RowKit Go.WideShapes

/-- What FirstHitting answers. -/
def firstL (LL : List (List Int)) : LR := match LL with | [] => ⟨[], false⟩ | P :: _ => ⟨P, true⟩
def firstR (r c : Int) (xs : List Int) (k : Int) : LR := if sqB r c xs then firstL ((prm r.toNat r.toNat []).filter (hitP (bt xs) r.toNat k)) else ⟨[], false⟩
theorem firstR_len (r c : Int) (xs : List Int) (k : Int) : (firstR r c xs k).ys.length ≤ 1048576 := by
  unfold firstR
  split
  · rename_i h
    obtain ⟨hg, _⟩ := sq_facts h
    obtain ⟨g1, _⟩ := good_facts hg
    cases hl : (prm r.toNat r.toNat []).filter (hitP (bt xs) r.toNat k) with
    | nil => simp [firstL]
    | cons P t =>
      have := (prm_cell r.toNat P (List.mem_filter.1 (show P ∈ (prm r.toNat r.toNat []).filter (hitP (bt xs) r.toNat k) by rw [hl]; simp)).1).1
      show P.length ≤ _
      omega
  · simp

set_option maxRecDepth 100000 in
set_option maxHeartbeats 3200000 in
theorem implFirst_any (r c : Int) (xs : List Int) (k : Int) (w : World) (hx : xs.length ≤ 1048576) (lo : Nat) (s : Value) (hO : Own w lo s xs) :
    Calls Try.prog 44 #[.agg #[.int .i64 r, .int .i64 c, s], .int .i64 k] w fun e w' => AnsL (firstR r c xs k) w e w' := by
  have L0 := (Law.start w).box (.int .i64 r) (.int .i64 c) s 29
  obtain ⟨a, cap, rfl, hr⟩ := hO.reads
  have hr0 := L0.reads hr
  clear hO
  obtain ⟨R1, C1, M, hM, hc⟩ := squareOf_any r c a cap xs _ hx hr0
  cases hs : sqB r c xs
  · rw [show firstR r c xs k = ⟨[], false⟩ by simp [firstR, hs]]
    rw [hs] at hc
    have HC := Lib.hid hc
    clear hs hr0 hM hc
    go_enter Try.func44, Try.ntmps44
    go_wp2_with fail
    refine HC.out.mono ?_
    rintro e w1 ⟨rfl, hb⟩
    have HB := Lib.hid ((L0.kept hb).kept (below_new (.cells #[.int .i64 R1, .int .i64 C1, .int .i64 (M 0), .int .i64 (M 1), .int .i64 (M 2), .int .i64 (M 3), .int .i64 (M 4), .int .i64 (M 5)] 59))).below
    clear L0 hb
    go_wp2_with fail
    go_ret2
    exact ⟨_, rfl, Own.nil _ _, HB.out⟩
  · rw [hs] at hc
    obtain ⟨rfl, rfl, hMM⟩ := hM hs
    clear hM
    obtain ⟨hg, he⟩ := sq_facts hs
    obtain ⟨g1, g2, g3, _⟩ := good_facts hg
    subst he
    obtain ⟨n, rfl⟩ := Int.eq_ofNat_of_zero_le (show 0 ≤ R1 by omega)
    have hgc : ∀ k, 0 ≤ M k ∧ M k < 64 := fun k => by rw [hMM k]; exact good_cell hg k
    have hBM : bN M = bt xs := by funext a b; simp only [bN, bt, hMM]
    have hn6 : n ≤ 6 := by omega
    have HC := Lib.hid hc
    have HL := Lib.hid L0
    rw [show firstR n n xs k = firstL ((prm n n []).filter (hitP (bt xs) n k)) by simp [firstR, hs]]
    have hw := fun bl bgr W d3 B G => fhWalk_any n M k bl bgr W hn6 (fun k _ => hgc k) d3 B G
    rw [hBM] at hw
    generalize (prm n n []).filter (hitP (bt xs) n k) = LL at *
    have HW := Lib.hid hw
    clear hs hr0 hMM hc hg g1 g2 g3 hgc hBM L0 hw
    go_enter Try.func44, Try.ntmps44
    go_wp2_with fail
    refine HC.out.mono ?_
    rintro e w1 ⟨rfl, hb⟩
    have L1 := (HL.out.kept hb).has (gl n n M) 59
    rw [show w1.alloc (.cells (gl n n M).toArray 59) = w1.alloc (.cells #[.int .i64 n, .int .i64 n, .int .i64 (M 0), .int .i64 (M 1), .int .i64 (M 2), .int .i64 (M 3), .int .i64 (M 4), .int .i64 (M 5)] 59) from rfl] at L1
    have HL1 := Lib.hid L1
    clear HL hb HC L1
    go_upto_region 4 with fail
    generalize w1.alloc (.cells #[.int .i64 n, .int .i64 n, .int .i64 (M 0), .int .i64 (M 1), .int .i64 (M 2), .int .i64 (M 3), .int .i64 (M 4), .int .i64 (M 5)] 59) = w5 at *
    have L2 := HL1.out.has [.slice none 0 0] 22
    rw [show w5.alloc (.cells ([.slice none 0 0] : List Value).toArray 22) = w5.alloc (.cells #[.slice none 0 0] 22) from rfl] at L2
    have HL2 := Lib.hid L2
    have hne : w5.heap.size ≠ w1.heap.size := by have := HL1.out.ownHas.lt; omega
    have HLO := Lib.hid HL1.out.below.size
    clear L2 HL1
    go_upto_region 5 with fail
    obtain ⟨bl, hbl⟩ : ∃ bl, bl = w5.heap.size := ⟨_, rfl⟩
    rw [← hbl] at HL2 hne HLO ⊢
    generalize w5.alloc (.cells #[.slice none 0 0] 22) = w6 at *
    have ⟨e0, e1, e2, e3, e4, e5, e6, e7, _⟩ := HL2.out.tl.ownHas.eight
    have HWR := Lib.hid (HW.out bl w1.heap.size w6 hne HL2.out.ownHas HL2.out.tl.ownHas)
    have HSZ := Lib.hid HL2.out.below.size
    clear hbl
    go_wp2_with fail
    refine HWR.out.mono ?_
    rintro e w7 ⟨rfl, ⟨v, hB, hv⟩, hC⟩
    have x0 := hB.one.1
    have HB := Lib.hid (show Below w.heap.size w w7 from
      ⟨hC.os.trans HL2.out.below.os, hC.tape.trans HL2.out.below.tape, hC.output.trans HL2.out.below.output, Nat.le_trans HSZ.out hC.size, fun b hb => (hC.block b (Nat.lt_of_lt_of_le hb HSZ.out) (fun e => by have := HLO.out; omega)).trans (HL2.out.below.block b hb)⟩)
    rcases hv with ⟨hl, rfl⟩ | ⟨P, g, hl, rfl, hO⟩
    · subst hl
      clear hB hC HWR HL2 e0 e1 e2 e3 e4 e5 e6 e7
      go_upto_region 6 with fail
      go_region
      go_wp2_with fail
      go_ret2
      exact ⟨_, rfl, Own.nil _ _, HB.out.drew⟩
    · obtain ⟨t, rfl⟩ : ∃ t, LL = P :: t := by
        cases LL with
        | nil => simp at hl
        | cons Q t => simp at hl; exact ⟨t, by rw [hl]⟩
      have HE := Lib.hid (hO.lower HSZ.out)
      clear hB hC HWR HL2 e0 e1 e2 e3 e4 e5 e6 e7 hO hl
      go_upto_region 6 with fail
      go_region
      go_wp2_with fail
      go_ret2
      exact ⟨_, rfl, HE.out, HB.out.drew⟩
end Go.Proofs.Ytdimbnkgomfojaa
end

section
namespace Go.Proofs.Ytdimbnkgomfojaa
open Go.RowKit Go.WideShapes

theorem firstR_of (r c : Int) (xs : List Int) (k : Int) : firstR r c xs k = if (permR r c xs k).ok then firstL (permR r c xs k).zz else ⟨[], false⟩ := by
  unfold firstR permR
  cases hs : sqB r c xs
  · simp
  · obtain ⟨hg, _⟩ := sq_facts hs
    obtain ⟨g1, _⟩ := good_facts hg
    cases hk : inB 0 k 6
    · have hn : ¬ (0 ≤ k ∧ k ≤ 6) := fun h => by rw [inB_yes h.1 h.2] at hk; cases hk
      have he : (prm r.toNat r.toNat []).filter (hitP (bt xs) r.toNat k) = [] := by
        rw [List.filter_eq_nil_iff]
        intro Q _
        have := hitN_le (bt xs) Q r.toNat
        simp only [hitP, beq_iff_eq]
        omega
      simp [he, firstL]
    · simp

set_option maxRecDepth 100000 in
set_option maxHeartbeats 3200000 in
theorem specFirst_any (r c : Int) (xs : List Int) (k : Int) (w : World) (hx : xs.length ≤ 1048576) (lo : Nat) (s : Value) (hO : Own w lo s xs) :
    Calls Try.prog 43 #[.agg #[.int .i64 r, .int .i64 c, s], .int .i64 k] w fun e w' => AnsL (firstR r c xs k) w e w' := by
  have L0 := (Law.start w).box (.int .i64 r) (.int .i64 c) s 29
  have HC := Lib.hid (fun W (ho : Own W lo s xs) => specPerms_any r c xs k W hx lo s ho)
  have HO1 := Lib.hid (hO.kept (below_new (.cells #[.int .i64 r, .int .i64 c, s] 29)))
  rw [firstR_of]
  generalize permR r c xs k = R at *
  have HL := Lib.hid L0
  have ⟨_, k0, k1, k2, _⟩ := L0.ownBox
  clear L0 hO
  obtain ⟨zz, ok⟩ := R
  cases ok
  · rw [if_neg (by simp)]
    go_enter Try.func43, Try.ntmps43
    go_wp2_with fail
    refine (HC.out _ HO1.out).mono ?_
    rintro e w1 ⟨s1, vs, rfl, hM, hb⟩
    have HB := Lib.hid (HL.out.kept hb).below
    have HSZ := Lib.hid HL.out.below.size
    obtain ⟨oa, ocap, hs1⟩ := hM.formR
    dsimp only [List.length_nil] at hs1 hM ⊢
    subst hs1
    clear HL hb HC HO1 k0 k1 k2
    clear hM
    go_wp2_with fail
    go_ret2
    exact ⟨_, rfl, Own.nil _ _, HB.out⟩
  · rw [if_pos rfl]
    cases zz with
    | nil =>
      rw [show firstL [] = ⟨[], false⟩ from rfl]
      go_enter Try.func43, Try.ntmps43
      go_wp2_with fail
      refine (HC.out _ HO1.out).mono ?_
      rintro e w1 ⟨s1, vs, rfl, hM, hb⟩
      have HB := Lib.hid (HL.out.kept hb).below
      have HSZ := Lib.hid HL.out.below.size
      obtain ⟨oa, ocap, hs1⟩ := hM.formR
      dsimp only [List.length_nil] at hs1 hM ⊢
      subst hs1
      clear HL hb HC HO1 k0 k1 k2
      clear hM
      go_wp2_with fail
      go_ret2
      exact ⟨_, rfl, Own.nil _ _, HB.out⟩
    | cons P t =>
      rw [show firstL (P :: t) = ⟨P, true⟩ from rfl]
      go_enter Try.func43, Try.ntmps43
      go_wp2_with fail
      refine (HC.out _ HO1.out).mono ?_
      rintro e w1 ⟨s1, vs, rfl, hM, hb⟩
      have HB := Lib.hid (HL.out.kept hb).below
      have HSZ := Lib.hid HL.out.below.size
      obtain ⟨oa, ocap, hs1⟩ := hM.formR
      dsimp only [List.length_nil] at hs1 hM ⊢
      subst hs1
      clear HL hb HC HO1 k0 k1 k2
      have hl := hM.len
      cases vs with
      | nil => simp at hl
      | cons u us =>
        have hro := hM.outer
        have hu : Own w1 w.heap.size u P := (hM.row 0 (by simp)).lower HSZ.out
        obtain ⟨g, rfl⟩ : ∃ g, oa = some ⟨g, 0, none⟩ := by
          rcases hro.2 with ⟨h1, _⟩ | ⟨g, cp, cur, h1, _⟩
          · injection h1 with _ h2 _
            simp at h2
          · injection h1 with h2 _ _
            exact ⟨g, h2⟩
        have hcell : w1.cell? ⟨g, 0, none⟩ = some u := by
          rw [hl] at hro
          rw [World.ownsRow.cellAt hro 0 (by simp)]
          simp
        have HU := Lib.hid hu
        have hzn : 0 < (P :: t).length := by simp
        clear hM hl hro hu
        generalize (P :: t).length = m at *
        have hm0 : (m : Int) ≠ 0 := by omega
        have hm1 : (0 : Int) < m := by omega
        go_wp2_with fail
        go_ret2
        exact ⟨_, rfl, HU.out, HB.out⟩
end Go.Proofs.Ytdimbnkgomfojaa
end
