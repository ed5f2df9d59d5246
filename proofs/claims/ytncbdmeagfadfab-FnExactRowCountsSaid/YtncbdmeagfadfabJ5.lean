/- Cells counted by rows, in both texts. No condition but the sizes. -/
import Derived.Test.YtncbdmeagfadfabJ2
namespace Go.Proofs.Ytncbdmeagfadfab
open Go.RowKit Go.WideShapes

/-- What a call answers that tells a list. -/
structure LR where
  ys : List Int
  ok : Bool
def AnsL (R : LR) (w : World) (e : Ending) (w' : World) : Prop := ∃ s, e = .returned (.tuple #[s, .bool R.ok]) ∧ Own w' w.heap.size s R.ys ∧ Below w.heap.size w w'
def cntB (r c : Int) (xs : List Int) : LR := if goodB r c xs then ⟨cntL xs r.toNat, true⟩ else ⟨[], false⟩
theorem cntL_len (xs : List Int) (n : Nat) (h : n ≤ 6) : (cntL xs n).length = n := by simp [cntL]; omega
theorem cntB_len (r c : Int) (xs : List Int) : (cntB r c xs).ys.length ≤ 1048576 := by
  unfold cntB
  split
  · rename_i h
    have := good_facts h
    show (cntL xs r.toNat).length ≤ _
    rw [cntL_len _ _ (by omega)]
    omega
  · simp

set_option maxRecDepth 100000 in
set_option maxHeartbeats 6400000 in
theorem specRowCounts_any (r c : Int) (xs : List Int) (w : World) (hx : xs.length ≤ 1048576) (lo : Nat) (s : Value) (hO : Own w lo s xs) :
    Calls Try.prog 23 #[.agg #[.int .i64 r, .int .i64 c, s]] w fun e w' => AnsL (cntB r c xs) w e w' := by
  have L0 := (Law.start w).box (.int .i64 r) (.int .i64 c) s 26
  have hO0 := hO.kept L0.below
  obtain ⟨a, cap, rfl, hr⟩ := hO.reads
  have hr0 := L0.reads hr
  clear hO
  cases hg : goodB r c xs
  · rw [show cntB r c xs = ⟨[], false⟩ by simp [cntB, hg]]
    go_enter Try.func23, Try.ntmps23
    go_wp2_with fail
    refine (at_boolB (boGood_any r c a cap xs _ hx hr0) hg).mono ?_
    rintro e w1 ⟨rfl, hb⟩
    have HB := Lib.hid (L0.kept hb).below
    clear L0 hb hg hr0 hO0
    go_wp2_with fail
    go_ret2
    exact ⟨_, rfl, Own.nil _ _, HB.out⟩
  · obtain ⟨⟨g1l, g1h⟩, ⟨g2l, g2h⟩, _, g4⟩ := good_facts hg
    have hg3 := (good_facts hg).2.2.1
    obtain ⟨n, rfl⟩ := Int.eq_ofNat_of_zero_le (show 0 ≤ r by omega)
    obtain ⟨m, rfl⟩ := Int.eq_ofNat_of_zero_le (show 0 ≤ c by omega)
    rw [show cntB n m xs = ⟨cntL xs n, true⟩ by simp [cntB, hg]]
    have hmk := run_make_row' (P := Try.prog) 22 3 (.int .i64 0) 8 Try.underlying22 Try.infoI rfl .i64 .i64 n (by omega) (by omega)
    have HC := Lib.hid (at_boolB (boGood_any n m a cap xs _ hx hr0) hg)
    have HG := Lib.hid hg
    have HT := Lib.hid (cnt_tally xs n m (by omega) (by omega) (fun k hk => g4 k (by omega)))
    clear hg hr0 g4 hg3
    go_enter Try.func23, Try.ntmps23
    go_wp2_with fail
    refine HC.out.mono ?_
    rintro e w1 ⟨rfl, hb⟩
    have L1 := L0.kept hb
    have hO1 := hO0.kept hb
    have ⟨_, k0, k1, k2, _⟩ := L1.ownBox
    have L2 := L1.own (below_new _) (own_made w1 n _ w1.heap.size rfl (Nat.le_refl _) (by omega))
    have hO2 := hO1.kept (below_new (.cells (madeCells #[.int .i64 0] n) 3))
    have ⟨_, m0, m1, m2, _⟩ := L2.tl.ownBox
    have HL := Lib.hid L2
    clear L0 L1 L2 hb HC hO0 hO1
    go_upto_region 4 with fail
    generalize w1.alloc (.cells (madeCells #[.int .i64 0] n) 3) = w5 at *
    clear k0 k1 k2
    go_wp2_with fail
    refine (boCells_any n m xs _ hx HG.out lo _ hO2).mono ?_
    rintro e w3 ⟨v, vs, rfl, hM, hb⟩
    have L2 := HL.out.addM hb hM
    obtain ⟨aa, cp, rfl, _⟩ := hM.form
    have HVL := Lib.hid (show vs.length = (cellsP xs n m).length by rw [← hM.len, cellsL_eq, List.length_map])
    have hvl : vs.length ≤ 42 := by have := HVL.out; have := cellsP_len xs n m (by omega) (by omega); omega
    have HL2 := Lib.hid L2
    clear L2 HL hO2 hM hb m0 m1 m2
    go_wp2_with fail
    go_loopw [16] (fun i wr => ∃ k : Nat, k ≤ vs.length ∧ i = .int .i64 k ∧ Law w [tM (.slice aa vs.length cp) vs (cellsL xs n m), tOwn (.slice (some ⟨w1.heap.size, 0, none⟩) n n) (tally (fun c => c.1) (fun _ => 1) (List.replicate n 0) ((cellsP xs n m).take k)), tBox w.heap.size (.int .i64 n) (.int .i64 m) (.slice a xs.length cap)] wr) (fun i _ => vs.length - (intOf i).toNat)
    case atStart => exact ⟨0, Nat.zero_le _, rfl, HL2.out⟩
    case round =>
      clear HL2
      obtain ⟨k, hk, rfl, L⟩ := hrel
      by_cases hlt : k < vs.length
      · have hkc : k < (cellsP xs n m).length := by have := HVL.out; omega
        obtain ⟨hc1, hc2⟩ := cellsP_mem xs n m _ (List.getElem_mem hkc)
        have hnx := tally_next (fun c => c.1) (fun _ => 1) (cellsP xs n m) (List.replicate n 0) k hkc
        have hel : (cellsL xs n m)[k]? = some [((cellsP xs n m)[k].1 : Int), ((cellsP xs n m)[k].2 : Int)] := by rw [cellsL_eq, List.getElem?_map, List.getElem?_eq_getElem hkc]; rfl
        have hbd : 0 ≤ (tally (fun c => c.1) (fun _ => 1) (List.replicate n 0) ((cellsP xs n m).take k)).getD (cellsP xs n m)[k].1 0 ∧ (tally (fun c => c.1) (fun _ => 1) (List.replicate n 0) ((cellsP xs n m).take k)).getD (cellsP xs n m)[k].1 0 ≤ 2000 := by
          rw [tally_get _ _ _ _ _ (by simpa using hc1)]
          have e : (List.replicate n (0 : Int)).getD (cellsP xs n m)[k].1 0 = 0 := by simp [List.getD, hc1]
          have := contrib_bd (fun c : Nat × Nat => c.1) (fun _ => (1 : Int)) (cellsP xs n m)[k].1 32 ((cellsP xs n m).take k) (fun c hc => ⟨by decide, by decide⟩)
          have hl : ((cellsP xs n m).take k).length ≤ 42 := by simp; omega
          omega
        generalize (cellsP xs n m)[k].1 = ca at *
        generalize (cellsP xs n m)[k].2 = cb at *
        obtain ⟨aa', cp', hv', hcl⟩ := L.ownM.form
        obtain ⟨gv, hgv, hcv⟩ := hcl k hlt
        obtain ⟨gr, cr, hvr, hr0, hr1⟩ := L.ownM.pair k hlt _ _ hel
        rw [hvr] at hcv
        injection hv' with ha hb hc
        subst ha
        subst hgv
        have hol : (tally (fun c => c.1) (fun _ => 1) (List.replicate n 0) ((cellsP xs n m).take k)).length = n := by rw [tally_len]; simp
        have hOk := L.tl.ownInts
        have hcz := Own.cell (by rw [hol]; exact hOk) ca (by omega)
        have hfz := Own.free (by rw [hol]; exact hOk) ca
        obtain ⟨x, hx'⟩ : ∃ x : Int, (tally (fun c => c.1) (fun _ => 1) (List.replicate n 0) ((cellsP xs n m).take k)).getD ca 0 = x := ⟨_, rfl⟩
        rw [hx'] at hcz hbd
        have hS := (Law.store (ts := [_]) L hol ca (x + 1))
        rw [hnx x hx'] at hS
        have HS := Lib.hid hS
        obtain ⟨hb1, hb2⟩ := hbd
        have hbm : (ca : Int) < n := by omega
        clear L hS hnx hOk hol hel hvr hcl hb hc hx'
        go_wp2_with fail
        go_roundw
        case rel => exact ⟨k + 1, by omega, by go_num, HS.out⟩
        case measure => simp [intOf]; omega
      · obtain rfl : k = vs.length := by omega
        have HF := Lib.hid (show Own wr w.heap.size (.slice (some ⟨w1.heap.size, 0, none⟩) n n) (cntL xs n) by
          have := L.tl.ownLo
          rw [HVL.out, List.take_length, HT.out] at this
          exact this)
        have HB := Lib.hid L.below
        clear L
        go_wp2_with fail
        go_ret2
        exact ⟨_, rfl, HF.out, HB.out⟩

theorem pop_list (M : Nat → Int) (xs : List Int) (n k : Nat) (hn : n ≤ 6) (hM : ∀ k, M k = xs.getD k 0) (hk : k < n) : (over (cntL xs n) (List.replicate n 0) k).set k (pop (M k)) = over (cntL xs n) (List.replicate n 0) (k + 1) := by
  refine over_set _ _ k n (cntL_len xs n hn) (by simp) hk _ ?_
  rw [hM]
  have := cells_n n (fun k => pop (xs.getD k 0)) (cntL xs n) (cntL_len xs n hn) hn
  unfold cntL
  have h6 : ([0, 1, 2, 3, 4, 5] : List Nat)[k]? = some k := by
    have : k = 0 ∨ k = 1 ∨ k = 2 ∨ k = 3 ∨ k = 4 ∨ k = 5 := by omega
    rcases this with rfl | rfl | rfl | rfl | rfl | rfl <;> rfl
  rw [List.getD_eq_getElem?_getD, List.getElem?_map, List.getElem?_take, if_pos hk, h6]
  rfl

set_option maxRecDepth 100000 in
set_option maxHeartbeats 6400000 in
theorem implRowCounts_any (r c : Int) (xs : List Int) (w : World) (hx : xs.length ≤ 1048576) (lo : Nat) (s : Value) (hO : Own w lo s xs) :
    Calls Try.prog 24 #[.agg #[.int .i64 r, .int .i64 c, s]] w fun e w' => AnsL (cntB r c xs) w e w' := by
  have L0 := (Law.start w).box (.int .i64 r) (.int .i64 c) s 26
  obtain ⟨a, cap, rfl, hr⟩ := hO.reads
  have hr0 := L0.reads hr
  clear hO
  cases hg : goodB r c xs
  · rw [show cntB r c xs = ⟨[], false⟩ by simp [cntB, hg]]
    go_enter Try.func24, Try.ntmps24
    go_wp2_with fail
    refine (gridOf_no r c a cap xs _ hx hr0 hg).mono ?_
    rintro e w1 ⟨rfl, hb⟩
    have HB := Lib.hid ((L0.kept hb).kept (below_new (.cells #[.int .i64 0, .int .i64 0, .int .i64 0, .int .i64 0, .int .i64 0, .int .i64 0, .int .i64 0, .int .i64 0] 56))).below
    clear L0 hb hg hr0
    go_wp2_with fail
    go_ret2
    exact ⟨_, rfl, Own.nil _ _, HB.out⟩
  · have hgc := good_cell hg
    obtain ⟨⟨g1l, g1h⟩, ⟨g2l, g2h⟩, _, _⟩ := good_facts hg
    obtain ⟨n, rfl⟩ := Int.eq_ofNat_of_zero_le (show 0 ≤ r by omega)
    obtain ⟨m, rfl⟩ := Int.eq_ofNat_of_zero_le (show 0 ≤ c by omega)
    rw [show cntB n m xs = ⟨cntL xs n, true⟩ by simp [cntB, hg]]
    have hmk := run_make_row' (P := Try.prog) 22 3 (.int .i64 0) 8 Try.underlying22 Try.infoI rfl .i64 .i64 n (by omega) (by omega)
    obtain ⟨M, hM, hc⟩ := gridOf_good n m a cap xs _ hx hr0 hg
    have HC := Lib.hid hc; clear hc
    simp only [← hM] at hgc
    have HP := Lib.hid (fun k (hk : k < n) => pop_list M xs n k (by omega) hM hk)
    have HZ := Lib.hid (cntL_len xs n (by omega))
    have HGC := Lib.hid hgc
    clear hM hg hr0 hgc
    go_enter Try.func24, Try.ntmps24
    go_wp2_with fail
    refine HC.out.mono ?_
    rintro e w1 ⟨rfl, hb⟩
    have L1 := (L0.kept hb).has (gl n m M) 56
    rw [show w1.alloc (.cells (gl n m M).toArray 56) = w1.alloc (.cells #[.int .i64 n, .int .i64 m, .int .i64 (M 0), .int .i64 (M 1), .int .i64 (M 2), .int .i64 (M 3), .int .i64 (M 4), .int .i64 (M 5)] 56) from rfl] at L1
    have HL := Lib.hid L1
    clear L0 hb HC L1
    go_upto_region 4 with fail
    generalize w1.alloc (.cells #[.int .i64 n, .int .i64 m, .int .i64 (M 0), .int .i64 (M 1), .int .i64 (M 2), .int .i64 (M 3), .int .i64 (M 4), .int .i64 (M 5)] 56) = w5 at *
    have ⟨e0, _⟩ := HL.out.ownHas.eight
    have L2 := HL.out.own' (below_new _) (own_made w5 n _ w5.heap.size rfl (Nat.le_refl _) (by omega)) (over_zero (cntL xs n) (List.replicate n 0))
    have HL2 := Lib.hid L2
    clear L2 HL
    go_wp2_with fail
    clear e0
    go_loopw [20] (fun i wr => ∃ k : Nat, k ≤ n ∧ i = .int .i64 k ∧ Law w [tOwn (.slice (some ⟨w5.heap.size, 0, none⟩) n n) (over (cntL xs n) (List.replicate n 0) k), tHas w1.heap.size (gl n m M) 56, tBox w.heap.size (.int .i64 n) (.int .i64 m) (.slice a xs.length cap)] wr) (fun i _ => n - (intOf i).toNat)
    case atStart => exact ⟨0, Nat.zero_le _, rfl, HL2.out⟩
    case round =>
      clear HL2
      obtain ⟨k, hk, rfl, L⟩ := hrel
      by_cases hlt : k < n
      · have hcx := L.tl.ownHas.cell (2 + k)
        rw [gl_get _ _ _ k (by omega)] at hcx
        obtain ⟨h0, h1⟩ := HGC.out k
        obtain ⟨y, hy⟩ := Int.eq_ofNat_of_zero_le h0
        have hol := over_len (cntL xs n) (List.replicate n 0) k n HZ.out (by simp) hk
        have hOk := L.ownInts
        have hcz := Own.cell (by rw [hol]; exact hOk) k (by omega)
        have hfz := Own.free (by rw [hol]; exact hOk) k
        have hS := Law.store (ts := []) L hol k (pop (M k))
        rw [HP.out k hlt, hy] at hS
        have HS := Lib.hid hS
        rw [hy] at hcx h1
        have hyl : y < 64 := by omega
        have hkn : (k : Int) < n := by omega
        generalize (over (cntL xs n) (List.replicate n 0) k).getD k 0 = z at *
        clear L hS hOk hol hy h0
        go_wp2_with fail
        refine (ones_any y _ hyl).mono ?_
        rintro e w' ⟨rfl, rfl⟩
        generalize pop y = q at *
        go_wp2_with fail
        go_roundw
        case rel => exact ⟨k + 1, by omega, by go_num, HS.out⟩
        case measure => simp [intOf]; omega
      · obtain rfl : k = n := by omega
        have HF := Lib.hid (show Own wr w.heap.size (.slice (some ⟨w5.heap.size, 0, none⟩) k k) (cntL xs k) by
          have := L.ownLo
          rw [over_full _ _ k HZ.out (by simp)] at this
          exact this)
        have HB := Lib.hid L.below
        clear L
        go_wp2_with fail
        go_ret2
        exact ⟨_, rfl, HF.out, HB.out⟩

end Go.Proofs.Ytncbdmeagfadfab
