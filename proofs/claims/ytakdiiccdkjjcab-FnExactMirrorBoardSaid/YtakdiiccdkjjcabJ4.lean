/- Boards mirrored: the two calls. No condition but the sizes. -/
import Derived.Test.YtakdiiccdkjjcabJ2
namespace Go.Proofs.Ytakdiiccdkjjcab
open Go.RowKit Go.WideShapes

def mirB (r c : Int) (xs : List Int) : BR := if goodB r c xs then ⟨r, c, mirL xs r.toNat c.toNat, true⟩ else BR.zero
theorem mirL_len (xs : List Int) (n m : Nat) (h : n ≤ 6) : (mirL xs n m).length = n := by simp [mirL]; omega
theorem mirB_len (r c : Int) (xs : List Int) : (mirB r c xs).xs.length ≤ 1048576 := by
  unfold mirB
  split
  · rename_i h
    have := good_facts h
    show (mirL xs r.toNat c.toNat).length ≤ _
    rw [mirL_len _ _ _ (by omega)]
    omega
  · simp [BR.zero]

set_option maxRecDepth 100000 in
set_option maxHeartbeats 6400000 in
theorem specMirror_any (r c : Int) (xs : List Int) (w : World) (hx : xs.length ≤ 1048576) (lo : Nat) (s : Value) (hO : Own w lo s xs) :
    Calls Try.prog 39 #[.agg #[.int .i64 r, .int .i64 c, s]] w fun e w' => AnsB (mirB r c xs) w e w' := by
  have L0 := ((Law.start w).box (.int .i64 r) (.int .i64 c) s 28).box (.int .i64 0) (.int .i64 0) (.slice none 0 0) 28
  have hO0 := hO.kept L0.below
  simp only [World.size_alloc] at L0
  obtain ⟨a, cap, rfl, hr⟩ := hO.reads
  have hr0 := L0.reads hr
  clear hO
  cases hg : goodB r c xs
  · rw [show mirB r c xs = BR.zero by simp [mirB, hg]]
    go_enter Try.func39, Try.ntmps39
    go_wp2_with fail
    refine (at_boolB (boGood_any r c a cap xs _ hx hr0) hg).mono ?_
    rintro e w1 ⟨rfl, hb⟩
    have L1 := L0.kept hb
    have ⟨_, n0, n1, n2, nf⟩ := L1.ownBox
    have HB := Lib.hid L1.below
    clear L0 L1 hb hg hr0 hO0
    go_wp2_with fail
    refine bodyPost_ret (v := .tuple #[.agg #[.int .i64 0, .int .i64 0, .slice none 0 0], .bool false]) (by simp [results, Try.results39, go_sem, n0, n1, n2]) rfl (ansB_zero _ _ ?_)
    exact ((HB.out.setCell (by simp <;> omega) _).setCell (by simp <;> omega) _).setCell (by simp <;> omega) _
  · have hgc := good_cell hg
    obtain ⟨⟨g1l, g1h⟩, ⟨g2l, g2h⟩, _, _⟩ := good_facts hg
    obtain ⟨n, rfl⟩ := Int.eq_ofNat_of_zero_le (show 0 ≤ r by omega)
    obtain ⟨m, rfl⟩ := Int.eq_ofNat_of_zero_le (show 0 ≤ c by omega)
    rw [show mirB n m xs = ⟨n, m, mirL xs n m, true⟩ by simp [mirB, hg]]
    have HC := Lib.hid (at_boolB (boGood_any n m a cap xs _ hx hr0) hg)
    have HG := Lib.hid hg
    have HT := Lib.hid (mir_tally xs n m (by omega) (by omega) hgc)
    clear hg hr0 hgc
    go_enter Try.func39, Try.ntmps39
    go_wp2_with fail
    refine HC.out.mono ?_
    rintro e w1 ⟨rfl, hb⟩
    have L1 := L0.kept hb
    have hO1 := hO0.kept hb
    have ⟨_, k0, k1, k2, _⟩ := L1.tl.ownBox
    clear L0 hb HC hO0
    go_wp2_with fail
    refine (boEmpty_any n m _ (by omega)).mono ?_
    rintro e w2 ⟨s1, rfl, hE, hb⟩
    rcases hE.cases with ⟨_, h0⟩ | ⟨g, p1, hv, _⟩
    · have : n = 0 := by simpa using congrArg List.length h0
      omega
    · subst hv
      rw [List.length_replicate] at *
      have L2 := (L1.own hb hE).box (.int .i64 n) (.int .i64 m) (.slice (some ⟨g, 0, none⟩) n p1) 28
      have hO2 := (hO1.kept hb).kept (below_new (.cells #[.int .i64 n, .int .i64 m, .slice (some ⟨g, 0, none⟩) n p1] 28))
      have ⟨_, m0, m1, m2, _⟩ := L2.tl.tl.tl.ownBox
      have HL := Lib.hid L2
      clear L1 L2 hO1 hE hb k0 k1 k2
      go_upto_region 4 with fail
      generalize w2.alloc (.cells #[.int .i64 n, .int .i64 m, .slice (some ⟨g, 0, none⟩) n p1] 28) = w5 at *
      go_wp2_with fail
      refine (boCells_any n m xs _ hx HG.out lo _ hO2).mono ?_
      rintro e w3 ⟨v, vs, rfl, hM, hb⟩
      have L2 := HL.out.addM hb hM
      obtain ⟨aa, cp, rfl, _⟩ := hM.form
      have HVL := Lib.hid (show vs.length = (cellsP xs n m).length by rw [← hM.len, cellsL_eq, List.length_map])
      have hvl : vs.length ≤ 42 := by have := HVL.out; have := cellsP_len xs n m (by omega) (by omega); omega
      have HL2 := Lib.hid L2
      clear L2 HL hO2 hM hb m0 m1 m2
      go_wp2_with fail
      go_loopw [19] (fun i wr => ∃ k : Nat, k ≤ vs.length ∧ i = .int .i64 k ∧ Law w [tM (.slice aa vs.length cp) vs (cellsL xs n m), tBox w2.heap.size (.int .i64 n) (.int .i64 m) (.slice (some ⟨g, 0, none⟩) n p1), tOwn (.slice (some ⟨g, 0, none⟩) n p1) (tally (fun c => c.1) (fun c => 2 ^ (m - 1 - c.2)) (List.replicate n 0) ((cellsP xs n m).take k)), tBox (w.heap.size + 1) (.int .i64 0) (.int .i64 0) (.slice none 0 0), tBox w.heap.size (.int .i64 n) (.int .i64 m) (.slice a xs.length cap)] wr) (fun i _ => vs.length - (intOf i).toNat)
      case atStart => exact ⟨0, Nat.zero_le _, rfl, HL2.out⟩
      case round =>
        clear HL2
        obtain ⟨k, hk, rfl, L⟩ := hrel
        have ⟨_, m0, m1, m2, _⟩ := L.tl.ownBox
        by_cases hlt : k < vs.length
        · have ⟨_, b0, b1, b2, _⟩ := L.tl.tl.tl.tl.ownBox
          have hkc : k < (cellsP xs n m).length := by have := HVL.out; omega
          obtain ⟨hc1, hc2⟩ := cellsP_mem xs n m _ (List.getElem_mem hkc)
          have hnx := tally_next (fun c => c.1) (fun c => 2 ^ (m - 1 - c.2)) (cellsP xs n m) (List.replicate n 0) k hkc
          have hel : (cellsL xs n m)[k]? = some [((cellsP xs n m)[k].1 : Int), ((cellsP xs n m)[k].2 : Int)] := by rw [cellsL_eq, List.getElem?_map, List.getElem?_eq_getElem hkc]; rfl
          have hbd : 0 ≤ (tally (fun c => c.1) (fun c => 2 ^ (m - 1 - c.2)) (List.replicate n 0) ((cellsP xs n m).take k)).getD (cellsP xs n m)[k].1 0 ∧ (tally (fun c => c.1) (fun c => 2 ^ (m - 1 - c.2)) (List.replicate n 0) ((cellsP xs n m).take k)).getD (cellsP xs n m)[k].1 0 ≤ 2000 := by
            rw [tally_get _ _ _ _ _ (by simpa using hc1)]
            have e : (List.replicate n (0 : Int)).getD (cellsP xs n m)[k].1 0 = 0 := by simp [List.getD, hc1]
            have := contrib_bd (fun c : Nat × Nat => c.1) (fun c => (2 : Int) ^ (m - 1 - c.2)) (cellsP xs n m)[k].1 32 ((cellsP xs n m).take k) (fun c hc => by
              obtain ⟨P, hP, _, _, h3, h4⟩ := pow_facts (m - 1 - c.2) (by omega)
              rw [← hP]; exact ⟨h3, h4⟩)
            have hl : ((cellsP xs n m).take k).length ≤ 42 := by simp; omega
            omega
          generalize (cellsP xs n m)[k].1 = ca at *
          generalize (cellsP xs n m)[k].2 = cb at *
          obtain ⟨aa', cp', hv', hcl⟩ := L.ownM.form
          obtain ⟨gv, hgv, hcv⟩ := hcl k hlt
          obtain ⟨gr, cr, hvr, hr0, hr1⟩ := L.ownM.pair k hlt _ _ hel
          rw [hvr] at hcv
          injection hv' with ha hb hc
          subst ha
          subst hgv
          have hol : (tally (fun c => c.1) (fun c => 2 ^ (m - 1 - c.2)) (List.replicate n 0) ((cellsP xs n m).take k)).length = n := by rw [tally_len]; simp
          have hOk := L.tl.tl.ownInts
          have hcz := Own.cell (by rw [hol]; exact hOk) ca (by omega)
          have hfz := Own.free (by rw [hol]; exact hOk) ca
          obtain ⟨P, hP, hp1, hp2, hp3, hp4⟩ := pow_facts (m - 1 - cb) (by omega)
          obtain ⟨x, hx'⟩ : ∃ x : Int, (tally (fun c => c.1) (fun c => 2 ^ (m - 1 - c.2)) (List.replicate n 0) ((cellsP xs n m).take k)).getD ca 0 = x := ⟨_, rfl⟩
          rw [hx'] at hcz hbd
          have hS := (Law.store (ts := [_, _]) L hol ca (x + P)).drew
          have hnx := hnx x hx'
          rw [← hP] at hnx
          rw [hnx] at hS
          have HS := Lib.hid hS
          have hs1 := sum_in x P hbd hp3 hp4
          obtain ⟨d, hd⟩ : ∃ d : Nat, d = m - 1 - cb := ⟨_, rfl⟩
          rw [← hd] at hp1 hp2
          have hs2 : IntKind.i64.wrap ((m : Int) - 1) = (m : Int) - 1 := IntWalk.i64_in _ (by clear hbd hp1 hp2 hs1; omega)
          have hs3 : IntKind.i64.wrap ((m : Int) - 1 - cb) = (d : Int) := by
            rw [show (m : Int) - 1 - cb = (d : Int) by clear hbd hp1 hp2 hs1; omega]
            exact IntWalk.i64_in _ (by clear hbd hp1 hp2 hs1; omega)
          have hs4 : (m : Int) - 1 - cb = (d : Int) := by clear hbd hp1 hp2 hs1; omega
          have hbm : (ca : Int) < n := by omega
          have ham : (d : Int) < 64 := by clear hbd hp1 hp2 hs1; omega
          clear L hS hnx hOk hol hel hvr hcl hb hc hx' hP hd
          go_wp2_with fail
          go_region
          go_wp2_with fail
          go_roundw
          case rel => exact ⟨k + 1, by omega, by go_num, HS.out⟩
          case measure => simp [intOf]; omega
        · obtain rfl : k = vs.length := by omega
          have ⟨_, n0, n1, n2, nf⟩ := L.tl.tl.tl.ownBox
          have hfin := L.tl.tl.fin3 (n := w.heap.size + 1) (x := .int .i64 0) (y := .int .i64 0) (z := .slice none 0 0) (by simp) (.int .i64 n) (.int .i64 m) (.slice (some ⟨g, 0, none⟩) n p1)
          rw [HVL.out, List.take_length, HT.out] at hfin
          have HF := Lib.hid hfin
          clear L hfin
          go_wp2_with fail
          exact bodyPost_ret (v := .tuple #[.agg #[.int .i64 n, .int .i64 m, .slice (some ⟨g, 0, none⟩) n p1], .bool true]) (by simp [results, Try.results39, go_sem, n0, n1, n2]) rfl ⟨_, rfl, HF.out.1, HF.out.2⟩

set_option maxHeartbeats 1600000 in
theorem mirrored_any (n m : Nat) (M : Nat → Int) (k j : Nat) (w : World) (hk : k < 6) (hj : j < m) (hm6 : m ≤ 6) (hm : 0 ≤ M k ∧ M k < 64) :
    Calls Try.prog 75 #[gv n m M, .int .i64 k, .int .i64 j] w fun e w' => e = .returned (.bool ((M k).toNat.testBit (m - 1 - j))) ∧ Below w.heap.size w w' := by
  have HB := Lib.hid (below_new (w := w) (.cells (gl n m M).toArray 64))
  obtain ⟨d, hd⟩ : ∃ d : Nat, d = m - 1 - j := ⟨_, rfl⟩
  rw [← hd]
  have h1 : (m : Int) - 1 - j = d := by omega
  have H1 := Lib.hid h1
  have hdl : d < 6 := by omega
  clear hd h1
  go_enter Try.func75, Try.ntmps75
  go_wp2_with fail
  rw [H1.out]
  refine (at_any n m M k d _ hk hdl hm).mono ?_
  rintro e w1 ⟨rfl, hb⟩
  have HB2 := Lib.hid (below_on HB.out hb)
  clear hb
  go_wp2_with fail
  go_ret
  exact ⟨rfl, HB2.out⟩

set_option maxRecDepth 100000 in
set_option maxHeartbeats 3200000 in
theorem implMirror_any (r c : Int) (xs : List Int) (w : World) (hx : xs.length ≤ 1048576) (lo : Nat) (s : Value) (hO : Own w lo s xs) :
    Calls Try.prog 40 #[.agg #[.int .i64 r, .int .i64 c, s]] w fun e w' => AnsB (mirB r c xs) w e w' := by
  have L0 := ((Law.start w).box (.int .i64 r) (.int .i64 c) s 28).box (.int .i64 0) (.int .i64 0) (.slice none 0 0) 28
  simp only [World.size_alloc] at L0
  obtain ⟨a, cap, rfl, hr⟩ := hO.reads
  have hr0 := L0.reads hr
  clear hO
  cases hg : goodB r c xs
  · rw [show mirB r c xs = BR.zero by simp [mirB, hg]]
    go_enter Try.func40, Try.ntmps40
    go_wp2_with fail
    refine (gridOf_no r c a cap xs _ hx hr0 hg).mono ?_
    rintro e w1 ⟨rfl, hb⟩
    have L1 := (L0.kept hb).kept (below_new (.cells #[.int .i64 0, .int .i64 0, .int .i64 0, .int .i64 0, .int .i64 0, .int .i64 0, .int .i64 0, .int .i64 0] 64))
    have ⟨_, n0, n1, n2, nf⟩ := L1.ownBox
    have HB := Lib.hid L1.below
    clear L0 L1 hb hg hr0
    go_wp2_with fail
    refine bodyPost_ret (v := .tuple #[.agg #[.int .i64 0, .int .i64 0, .slice none 0 0], .bool false]) (by simp [results, Try.results40, go_sem, n0, n1, n2]) rfl (ansB_zero _ _ ?_)
    exact ((HB.out.setCell (by simp <;> omega) _).setCell (by simp <;> omega) _).setCell (by simp <;> omega) _
  · have hgc := good_cell hg
    obtain ⟨g1, g2, g3, g4⟩ := good_facts hg
    obtain ⟨n, rfl⟩ := Int.eq_ofNat_of_zero_le (show 0 ≤ r by omega)
    obtain ⟨m, rfl⟩ := Int.eq_ofNat_of_zero_le (show 0 ≤ c by omega)
    rw [show mirB n m xs = ⟨n, m, mirL xs n m, true⟩ by simp [mirB, hg]]
    obtain ⟨M, hM, hc⟩ := gridOf_good n m a cap xs _ hx hr0 hg
    have HC := Lib.hid hc; clear hc
    simp only [← hM] at hgc
    have hj : (([0, 1, 2, 3, 4, 5].take n).map fun k => (rowM ((fun i j => (M i).toNat.testBit (m - 1 - j) : Nat → Nat → Bool) k) m : Int)) = mirL xs n m := by simp only [mirL, bit, hM]
    have HJ := Lib.hid hj
    have HZ := Lib.hid (mirL_len xs n m (by omega))
    clear hj g4 hM hg hr0 g3
    go_enter Try.func40, Try.ntmps40
    go_wp2_with fail
    refine HC.out.mono ?_
    rintro e w1 ⟨rfl, hb⟩
    have L1 := (L0.kept hb).kept (below_new (.cells #[.int .i64 n, .int .i64 m, .int .i64 (M 0), .int .i64 (M 1), .int .i64 (M 2), .int .i64 (M 3), .int .i64 (M 4), .int .i64 (M 5)] 64))
    clear L0 hb HC
    go_wp2_with fail
    refine (drawBoard_any n m 75 #[gv n m M] #[] (fun i j => (M i).toNat.testBit (m - 1 - j)) _ (by omega) (by omega) (fun _ _ => by kernel_rfl) (fun i j w' hi hj _ => mirrored_any n m M i j w' (by omega) hj (by omega) (hgc i))).mono ?_
    rintro e w2 ⟨v, rfl, hO, hb⟩
    rw [HJ.out] at hO
    have L2 := L1.own hb hO
    obtain ⟨a1, p1, hv, _⟩ := hO.reads
    subst hv
    have ⟨_, n0, n1, n2, nf⟩ := L2.tl.ownBox
    have hfin := L2.fin3 (n := w.heap.size + 1) (x := .int .i64 0) (y := .int .i64 0) (z := .slice none 0 0) (by simp) (.int .i64 n) (.int .i64 m) (.slice a1 (mirL xs n m).length p1)
    have HF := Lib.hid hfin
    rw [HZ.out] at HF ⊢
    clear L1 L2 hO hb hfin
    go_wp2_with fail
    exact bodyPost_ret (v := .tuple #[.agg #[.int .i64 n, .int .i64 m, .slice a1 n p1], .bool true]) (by simp [results, Try.results40, go_sem, n0, n1, n2]) rfl ⟨_, rfl, HF.out.1, HF.out.2⟩

end Go.Proofs.Ytakdiiccdkjjcab
