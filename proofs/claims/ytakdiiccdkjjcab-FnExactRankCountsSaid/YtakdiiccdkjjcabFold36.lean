import Derived.Test.YtakdiiccdkjjcabFold34
import Derived.Test.YtakdiiccdkjjcabFold35
namespace Go.Proofs.Ytakdiiccdkjjcab
open Go.RowKit Go.WideShapes

/-- The first k are told, the others are 0. -/
def upR (g : Nat → Int) (k i : Nat) : Int := if i < k then g i else 0
theorem upR_set (L : Nat) (g : Nat → Int) (k : Nat) : (lstI L (upR g k)).set k (g k) = lstI L (upR g (k + 1)) :=
  lstI_set L _ _ k _ (by simp [upR]) (fun i _ hi => by
    unfold upR
    by_cases h : i < k
    · rw [if_pos h, if_pos (by omega)]
    · rw [if_neg h, if_neg (by omega)])
theorem upR_zero (L : Nat) (g : Nat → Int) : List.replicate L (0 : Int) = lstI L (upR g 0) := by
  rw [lstI_zero]
  exact lstI_congr L _ _ (fun k _ => by simp [upR])
theorem upR_full (L : Nat) (g : Nat → Int) : lstI L (upR g L) = lstI L g := lstI_congr L _ _ (fun k hk => by simp [upR, hk])

set_option maxRecDepth 100000 in
set_option maxHeartbeats 12800000 in
theorem implRkc_2 (xs : List Int) (w : World) (hx : xs.length ≤ 1048576) (a : Option Addr) (p : Nat) (hr : Reads w a xs.length xs) (hg : lenB xs = true) (hc : celN xs xs.length ≤ 20) :
    Calls Try.prog 52 #[.slice a xs.length p, .int .i64 2] w (AnsL ⟨lstI (xs.length + 1) (rkN xs 2), true⟩ w) := by
  have L0 := Law.start w
  obtain ⟨l1, l2, l3, _⟩ := len_facts hg
  have HC := Lib.hid (over_yes a p xs 2 w hx hr hg (by decide))
  have hIN := fun k hk => rk_in xs hg 2 (by decide) hc k hk
  have hwl := fun k => wts_len xs (fun k => (l3 k).2) xs.length k
  obtain ⟨n, hn⟩ : ∃ n, n = xs.length := ⟨_, rfl⟩
  obtain ⟨M, hM⟩ : ∃ M : Nat → Int, M = fun k => xs.getD k 0 := ⟨_, rfl⟩
  rw [← hM, ← hn] at HC
  have hCE := fun W => cells_any n xs M W hn.symm (by omega) (fun j => by rw [hM]) l3
  have HA := Lib.hid (fun W => allWeights_any n xs M W hn hM hg)
  have hT := fun k e => show rkT xs 2 k e = (wts xs n k).getD e 0 * (2 : Int) ^ ((celN xs n : Int) - k - e).toNat by rw [hn]; rfl
  have hN := fun k => show rkN xs 2 k = (1 : Int) ^ k * sumT (rkT xs 2 k) (wts xs n k).length by rw [hn]; rfl
  have hzg := fun k h => lstR_get (n + 1) (wts xs n) k h
  have hzl := lstR_len (n + 1) (wts xs n)
  rw [← hn] at hc l2 ⊢
  simp only [← hn] at hwl
  rw [fV_two] at HC
  simp only [show ((2 : Nat) : Int) = 2 from rfl] at HC
  have hmk : ∀ w, (Instr.makeSlice 22 (.int .i64 ((n + 1 : Nat) : Int)) (.int .i64 ((n + 1 : Nat) : Int))).run Try.prog w = .ok (.slice (some ⟨w.heap.size, 0, none⟩) (n + 1) (n + 1)) (w.alloc (.cells (madeCells #[.int .i64 0] (n + 1)) 3)) := by
    intro w
    exact run_make_row' (P := Try.prog) 22 3 (.int .i64 0) 8 Try.underlying22 Try.infoI rfl .i64 .i64 (n + 1) (by omega) (by omega) w
  rw [show ((n + 1 : Nat) : Int) = (n : Int) + 1 by omega] at hmk
  have HMK := Lib.hid hmk
  have HCE := Lib.hid hCE
  have HIN := Lib.hid hIN
  have HWL := Lib.hid hwl
  have HT := Lib.hid hT
  have HN := Lib.hid hN
  have HZG := Lib.hid hzg
  have HZL := Lib.hid hzl
  have HZ := Lib.hid size_2
  have hmt := fun w => meth_size2 w
  have HPW := Lib.hid (fun k (hk : k ≤ 6) W => powerq_any 1 (by decide) k W (by omega))
  simp only [show ((1 : Nat) : Int) = 1 from rfl] at HPW
  have hC20 : ((celN xs n : Nat) : Int) ≤ 20 := by omega
  clear hIN hwl hCE hT hN hzg hzl hmk hg hn hr l1 l3 hx hM
  have hcx := hc
  generalize celN xs n = C at *
  generalize wts xs n = WW at *
  generalize lstR (n + 1) WW = zz at *
  generalize rkT xs 2 = T at *
  generalize rkN xs 2 = RN at *
  go_enter Try.func52, Try.ntmps52
  go_wp2_with fail
  refine HC.out.mono ?_
  rintro e w2 ⟨rfl, hb⟩
  have L2 := ((L0.kept hb).has (sl n M) 90).has [fV2] 95
  simp only [World.size_alloc] at L2
  rw [show (w2.alloc (.cells (sl n M).toArray 90)).alloc (.cells ([fV2] : List Value).toArray 95) = (w2.alloc (.cells #[.int .i64 n, .int .i64 (M 0), .int .i64 (M 1), .int .i64 (M 2), .int .i64 (M 3), .int .i64 (M 4), .int .i64 (M 5)] 90)).alloc (.cells #[fV2] 95) from rfl] at L2
  have HL2 := Lib.hid L2
  clear hb L2 HC L0
  go_upto_region 2 with fail
  generalize (w2.alloc _).alloc _ = w5 at *
  obtain ⟨e0, e1, e2, e3, e4, e5, e6, _⟩ := HL2.out.tl.ownHas.seven
  go_wp2_with fail
  refine (HCE.out _).mono ?_
  rintro e w6 ⟨rfl, hb⟩
  replace HL2 := Lib.hid (HL2.out.kept hb)
  clear hb e0 e1 e2 e3 e4 e5 e6
  obtain ⟨e0, e1, e2, e3, e4, e5, e6, _⟩ := HL2.out.tl.ownHas.seven
  have hmk6 := HMK.out w6
  go_upto_region 5 with fail
  have L7 := HL2.out.own (below_new _) (own_made w6 (n + 1) _ w6.heap.size rfl (Nat.le_refl _) (by omega))
  rw [show List.replicate (n + 1) (0 : Int) = lstI (n + 1) (upR RN 0) from upR_zero (n + 1) RN] at L7
  have HL7 := Lib.hid L7
  clear L7 HL2 hmk6 e0 e1 e2 e3 e4 e5 e6
  generalize w6.alloc (.cells (madeCells #[.int .i64 0] (n + 1)) 3) = w7 at *
  obtain ⟨e0, e1, e2, e3, e4, e5, e6, _⟩ := HL7.out.tl.tl.ownHas.seven
  generalize w6.heap.size = gC at *
  go_wp2_with fail
  refine (HA.out _).mono ?_
  rintro e w8 ⟨g, vs, rfl, hO, hb⟩
  have HL8 := Lib.hid (HL7.out.addM hb hO)
  clear hO hb HL7 e0 e1 e2 e3 e4 e5 e6
  go_wp2_with fail
  go_loopw [33] (fun i wr => ∃ k : Nat, k ≤ n + 1 ∧ i = .int .i64 k ∧ Law w [tM (.slice (some ⟨g, 0, none⟩) (n + 1) (n + 1)) vs zz, tOwn (.slice (some ⟨gC, 0, none⟩) (n + 1) (n + 1)) (lstI (n + 1) (upR RN k)), tHas (w2.heap.size + 1) [fV2] 95, tHas w2.heap.size (sl n M) 90] wr) (fun i _ => n + 1 - (intOf i).toNat)
  case atStart => exact ⟨0, Nat.zero_le _, rfl, HL8.out⟩
  case round =>
    clear HL8
    obtain ⟨k, hk, rfl, L⟩ := hrel
    by_cases hlt : k < n + 1
    · obtain ⟨a2, p2, hc1, hr2⟩ := rowM_at L HZL.out k hlt _ (HZG.out k)
      have hkn1 : (k : Int) < (n : Int) + 1 := by omega
      have hin := HIN.out k (by omega)
      have HLEN := Lib.hid (show (WW k).length ≤ 37 by have := HWL.out k; omega)
      have hTk := HT.out k
      have hNk := HN.out k
      have HPWk := Lib.hid (HPW.out k (by omega))
      have LL := (L.has [.int .i64 k] 3).has [.slice a2 (WW k).length p2] 22
      simp only [World.size_alloc] at LL
      have hrR := L.below
      generalize WW k = ys at *
      generalize T k = TK at *
      have HS := Lib.hid (fun (bk : Nat) (W : World) (LW : Law w [tHas (bk + 1) [.slice a2 ys.length p2] 22, tHas bk [.int .i64 k] 3, tM (.slice (some ⟨g, 0, none⟩) (n + 1) (n + 1)) vs zz, tOwn (.slice (some ⟨gC, 0, none⟩) (n + 1) (n + 1)) (lstI (n + 1) (upR RN k)), tHas (w2.heap.size + 1) [fV2] 95, tHas w2.heap.size (sl n M) 90] W) (hrd : Reads W a2 ys.length ys) =>
        sumOfTerms_any ys.length 105 #[.pointer (some ⟨bk + 1, 0, none⟩), .pointer (some ⟨w2.heap.size + 1, 0, none⟩), .pointer (some ⟨w2.heap.size, 0, none⟩), .pointer (some ⟨bk, 0, none⟩)] TK W (by have := HLEN.out; omega) (fun _ _ => by kernel_rfl)
          (fun j hj w' hb' => by
            have L2 := LW.kept hb'
            obtain ⟨b, o, ha, _, hcc⟩ := reads_row (hrd.kept hb') (by omega)
            have c1 := L2.ownHas.cell 0
            have c2 := L2.tl.tl.tl.tl.ownHas.cell 0
            have c3 := L2.tl.ownHas.cell 0
            simp only [List.getElem?_cons_zero] at c1 c2 c3
            rw [ha] at c1
            have h9 := hin.1 j
            rw [hTk j] at h9 ⊢
            exact rk1_2 (bk + 1) (w2.heap.size + 1) w2.heap.size bk b o ys.length p2 n k j C M (ys.getD j 0) w' hj (by omega) HLEN.out hcx c1 c2 c3 (hcc j hj) L2.tl.tl.tl.tl.tl.ownHas HCE.out (IntWalk.i64_in _ (by omega)))
          (fun j hj => by
            have h9 := hin.2.1 (j + 1) (by have := HLEN.out; omega)
            rw [sumT] at h9
            exact IntWalk.i64_in _ (by omega)))
      have hRN := hin.2.2
      have hRNS := hNk
      rw [hNk] at hRN
      have HM := Lib.hid ((show IntKind.i64.wrap ((1 : Int) ^ k * sumT TK ys.length) = (1 : Int) ^ k * sumT TK ys.length from IntWalk.i64_in _ (by omega)).trans hNk.symm)
      have hgc := (L.range _ (by simp : tOwn (.slice (some ⟨gC, 0, none⟩) (n + 1) (n + 1)) (lstI (n + 1) (upR RN k)) ∈ _) gC rfl).2
      have hbf := (L.tl.tl.ownHas.lt)
      have hbfd : gC ≠ w2.heap.size + 1 := fun e => (List.pairwise_cons.1 (List.pairwise_cons.1 L.dis).2).1 (tHas (w2.heap.size + 1) [fV2] 95) (by simp) gC rfl e
      rw [show ((wr.alloc (.cells ([.int .i64 k] : List Value).toArray 3)).alloc (.cells ([.slice a2 ys.length p2] : List Value).toArray 22)) = ((wr.alloc (.cells #[.int .i64 k] 3)).alloc (.cells #[.slice a2 ys.length p2] 22)) from rfl] at LL
      have hrd := (hr2.kept (below_new (.cells #[.int .i64 k] 3))).kept (below_new (.cells #[.slice a2 ys.length p2] 22))
      have HCY := Lib.hid (fun (W : World) (h : Own W 0 (.slice (some ⟨gC, 0, none⟩) (n + 1) (n + 1)) (lstI (n + 1) (upR RN k))) => And.intro (Own.cell (by rw [lstI_len]; exact h) k (by rw [lstI_len]; exact hlt)) (Own.free (by rw [lstI_len]; exact h) k))
      have HLW := Lib.hid LL
      have HRD := Lib.hid hrd
      have HSET := Lib.hid (upR_set (n + 1) RN k)
      obtain ⟨bk, hbk⟩ : ∃ bk, bk = wr.heap.size := ⟨_, rfl⟩
      rw [← hbk] at HLW hgc hbf
      have hne1 : bk ≠ gC := by omega
      have hne2 : bk + 1 ≠ gC := by omega
      have hne3 : w2.heap.size + 1 ≠ gC := fun e => hbfd e.symm
      have hk0 : (0 : Int) ≤ k := by omega
      clear hr2 hrd LL hRN hRNS hTk hNk hin hgc hbf hbfd hrR L
      go_upto_region 8 with fail
      rw [← hbk]
      clear hbk
      generalize (wr.alloc _).alloc _ = w9 at *
      replace HLW := Lib.hid HLW.out.drew
      replace HRD := Lib.hid (HRD.out.kept (Below.refl _ _).drew)
      have j1 := HLW.out.tl.ownHas.cell 0
      have j2 := HLW.out.tl.tl.tl.tl.ownHas.cell 0
      have j3 := HLW.out.ownHas.cell 0
      simp only [List.getElem?_cons_zero] at j1 j2 j3
      obtain ⟨y1, y2⟩ := HCY.out _ HLW.out.tl.tl.tl.ownInts
      have HM2 := HM.out
      have hw12 : IntKind.i64.wrap 1 = 1 := by decide
      go_region_held3 (fun w' => w'.cell? ⟨bk, 0, none⟩ = some (.int .i64 k) ∧ w'.cell? ⟨w2.heap.size + 1, 0, none⟩ = some fV2 ∧ w'.cell? ⟨bk + 1, 0, none⟩ = some (.slice a2 ys.length p2)) (first | exact ⟨j1, j2, j3⟩ | exact ⟨(World.cell?_setCell_other _ _ _ _ (by simp)).trans j1, (World.cell?_setCell_other _ _ _ _ (by simp)).trans j2, (World.cell?_setCell_other _ _ _ _ (by simp)).trans j3⟩) ((first
        | (go_at_call 167; ((with_reducible refine (HZ.out _).mono ?_); rintro r wA ⟨rfl, hb⟩; replace HLW := Lib.hid (HLW.out.kept hb); replace HRD := Lib.hid (HRD.out.kept hb); replace j1 := cell_later hb j1; replace j2 := cell_later hb j2; replace j3 := cell_later hb j3; clear hb y1 y2; obtain ⟨y1, y2⟩ := HCY.out _ HLW.out.tl.tl.tl.ownInts))
        | (go_at_call 104; ((with_reducible refine (HPWk.out _).mono ?_); rintro r wB ⟨rfl, hww⟩; subst hww))
        | (go_at_call 98; ((with_reducible refine (HS.out bk _ HLW.out HRD.out).mono ?_); rintro r wC ⟨rfl, hb⟩; replace HLW := Lib.hid (HLW.out.kept hb); replace HRD := Lib.hid (HRD.out.kept hb); replace j1 := cell_later hb j1; replace j2 := cell_later hb j2; replace j3 := cell_later hb j3; clear hb y1 y2; obtain ⟨y1, y2⟩ := HCY.out _ HLW.out.tl.tl.tl.ownInts))
        | fail))
      all_goals
        have hST := (Law.store (ts := [_, _, _]) HLW.out (lstI_len _ _) k (RN k)).tl.tl
        rw [HSET.out] at hST
        have HST := Lib.hid hST
        clear hST HLW HRD j1 j2 j3 y1 y2 HM2
        go_wp2_with fail
        go_roundw
        case rel => exact ⟨k + 1, by omega, by go_num, HST.out⟩
        case measure => simp [intOf]; omega
    · obtain rfl : k = n + 1 := by omega
      rw [upR_full] at L
      have HL := Lib.hid L
      clear L
      go_wp2_with fail
      go_ret2
      exact ⟨_, rfl, HL.out.tl.ownLo, HL.out.below⟩
set_option maxRecDepth 100000 in
set_option maxHeartbeats 12800000 in
theorem implRkc_3 (xs : List Int) (w : World) (hx : xs.length ≤ 1048576) (a : Option Addr) (p : Nat) (hr : Reads w a xs.length xs) (hg : lenB xs = true) (hc : celN xs xs.length ≤ 20) :
    Calls Try.prog 52 #[.slice a xs.length p, .int .i64 3] w (AnsL ⟨lstI (xs.length + 1) (rkN xs 3), true⟩ w) := by
  have L0 := Law.start w
  obtain ⟨l1, l2, l3, _⟩ := len_facts hg
  have HC := Lib.hid (over_yes a p xs 3 w hx hr hg (by decide))
  have hIN := fun k hk => rk_in xs hg 3 (by decide) hc k hk
  have hwl := fun k => wts_len xs (fun k => (l3 k).2) xs.length k
  obtain ⟨n, hn⟩ : ∃ n, n = xs.length := ⟨_, rfl⟩
  obtain ⟨M, hM⟩ : ∃ M : Nat → Int, M = fun k => xs.getD k 0 := ⟨_, rfl⟩
  rw [← hM, ← hn] at HC
  have hCE := fun W => cells_any n xs M W hn.symm (by omega) (fun j => by rw [hM]) l3
  have HA := Lib.hid (fun W => allWeights_any n xs M W hn hM hg)
  have hT := fun k e => show rkT xs 3 k e = (wts xs n k).getD e 0 * (3 : Int) ^ ((celN xs n : Int) - k - e).toNat by rw [hn]; rfl
  have hN := fun k => show rkN xs 3 k = (2 : Int) ^ k * sumT (rkT xs 3 k) (wts xs n k).length by rw [hn]; rfl
  have hzg := fun k h => lstR_get (n + 1) (wts xs n) k h
  have hzl := lstR_len (n + 1) (wts xs n)
  rw [← hn] at hc l2 ⊢
  simp only [← hn] at hwl
  rw [fV_three] at HC
  simp only [show ((3 : Nat) : Int) = 3 from rfl] at HC
  have hmk : ∀ w, (Instr.makeSlice 22 (.int .i64 ((n + 1 : Nat) : Int)) (.int .i64 ((n + 1 : Nat) : Int))).run Try.prog w = .ok (.slice (some ⟨w.heap.size, 0, none⟩) (n + 1) (n + 1)) (w.alloc (.cells (madeCells #[.int .i64 0] (n + 1)) 3)) := by
    intro w
    exact run_make_row' (P := Try.prog) 22 3 (.int .i64 0) 8 Try.underlying22 Try.infoI rfl .i64 .i64 (n + 1) (by omega) (by omega) w
  rw [show ((n + 1 : Nat) : Int) = (n : Int) + 1 by omega] at hmk
  have HMK := Lib.hid hmk
  have HCE := Lib.hid hCE
  have HIN := Lib.hid hIN
  have HWL := Lib.hid hwl
  have HT := Lib.hid hT
  have HN := Lib.hid hN
  have HZG := Lib.hid hzg
  have HZL := Lib.hid hzl
  have HZ := Lib.hid size_3
  have hmt := fun w => meth_size3 w
  have HPW := Lib.hid (fun k (hk : k ≤ 6) W => powerq_any 2 (by decide) k W (by omega))
  simp only [show ((2 : Nat) : Int) = 2 from rfl] at HPW
  have hC20 : ((celN xs n : Nat) : Int) ≤ 20 := by omega
  clear hIN hwl hCE hT hN hzg hzl hmk hg hn hr l1 l3 hx hM
  have hcx := hc
  generalize celN xs n = C at *
  generalize wts xs n = WW at *
  generalize lstR (n + 1) WW = zz at *
  generalize rkT xs 3 = T at *
  generalize rkN xs 3 = RN at *
  go_enter Try.func52, Try.ntmps52
  go_wp2_with fail
  refine HC.out.mono ?_
  rintro e w2 ⟨rfl, hb⟩
  have L2 := ((L0.kept hb).has (sl n M) 90).has [fV3] 95
  simp only [World.size_alloc] at L2
  rw [show (w2.alloc (.cells (sl n M).toArray 90)).alloc (.cells ([fV3] : List Value).toArray 95) = (w2.alloc (.cells #[.int .i64 n, .int .i64 (M 0), .int .i64 (M 1), .int .i64 (M 2), .int .i64 (M 3), .int .i64 (M 4), .int .i64 (M 5)] 90)).alloc (.cells #[fV3] 95) from rfl] at L2
  have HL2 := Lib.hid L2
  clear hb L2 HC L0
  go_upto_region 2 with fail
  generalize (w2.alloc _).alloc _ = w5 at *
  obtain ⟨e0, e1, e2, e3, e4, e5, e6, _⟩ := HL2.out.tl.ownHas.seven
  go_wp2_with fail
  refine (HCE.out _).mono ?_
  rintro e w6 ⟨rfl, hb⟩
  replace HL2 := Lib.hid (HL2.out.kept hb)
  clear hb e0 e1 e2 e3 e4 e5 e6
  obtain ⟨e0, e1, e2, e3, e4, e5, e6, _⟩ := HL2.out.tl.ownHas.seven
  have hmk6 := HMK.out w6
  go_upto_region 5 with fail
  have L7 := HL2.out.own (below_new _) (own_made w6 (n + 1) _ w6.heap.size rfl (Nat.le_refl _) (by omega))
  rw [show List.replicate (n + 1) (0 : Int) = lstI (n + 1) (upR RN 0) from upR_zero (n + 1) RN] at L7
  have HL7 := Lib.hid L7
  clear L7 HL2 hmk6 e0 e1 e2 e3 e4 e5 e6
  generalize w6.alloc (.cells (madeCells #[.int .i64 0] (n + 1)) 3) = w7 at *
  obtain ⟨e0, e1, e2, e3, e4, e5, e6, _⟩ := HL7.out.tl.tl.ownHas.seven
  generalize w6.heap.size = gC at *
  go_wp2_with fail
  refine (HA.out _).mono ?_
  rintro e w8 ⟨g, vs, rfl, hO, hb⟩
  have HL8 := Lib.hid (HL7.out.addM hb hO)
  clear hO hb HL7 e0 e1 e2 e3 e4 e5 e6
  go_wp2_with fail
  go_loopw [33] (fun i wr => ∃ k : Nat, k ≤ n + 1 ∧ i = .int .i64 k ∧ Law w [tM (.slice (some ⟨g, 0, none⟩) (n + 1) (n + 1)) vs zz, tOwn (.slice (some ⟨gC, 0, none⟩) (n + 1) (n + 1)) (lstI (n + 1) (upR RN k)), tHas (w2.heap.size + 1) [fV3] 95, tHas w2.heap.size (sl n M) 90] wr) (fun i _ => n + 1 - (intOf i).toNat)
  case atStart => exact ⟨0, Nat.zero_le _, rfl, HL8.out⟩
  case round =>
    clear HL8
    obtain ⟨k, hk, rfl, L⟩ := hrel
    by_cases hlt : k < n + 1
    · obtain ⟨a2, p2, hc1, hr2⟩ := rowM_at L HZL.out k hlt _ (HZG.out k)
      have hkn1 : (k : Int) < (n : Int) + 1 := by omega
      have hin := HIN.out k (by omega)
      have HLEN := Lib.hid (show (WW k).length ≤ 37 by have := HWL.out k; omega)
      have hTk := HT.out k
      have hNk := HN.out k
      have HPWk := Lib.hid (HPW.out k (by omega))
      have LL := (L.has [.int .i64 k] 3).has [.slice a2 (WW k).length p2] 22
      simp only [World.size_alloc] at LL
      have hrR := L.below
      generalize WW k = ys at *
      generalize T k = TK at *
      have HS := Lib.hid (fun (bk : Nat) (W : World) (LW : Law w [tHas (bk + 1) [.slice a2 ys.length p2] 22, tHas bk [.int .i64 k] 3, tM (.slice (some ⟨g, 0, none⟩) (n + 1) (n + 1)) vs zz, tOwn (.slice (some ⟨gC, 0, none⟩) (n + 1) (n + 1)) (lstI (n + 1) (upR RN k)), tHas (w2.heap.size + 1) [fV3] 95, tHas w2.heap.size (sl n M) 90] W) (hrd : Reads W a2 ys.length ys) =>
        sumOfTerms_any ys.length 105 #[.pointer (some ⟨bk + 1, 0, none⟩), .pointer (some ⟨w2.heap.size + 1, 0, none⟩), .pointer (some ⟨w2.heap.size, 0, none⟩), .pointer (some ⟨bk, 0, none⟩)] TK W (by have := HLEN.out; omega) (fun _ _ => by kernel_rfl)
          (fun j hj w' hb' => by
            have L2 := LW.kept hb'
            obtain ⟨b, o, ha, _, hcc⟩ := reads_row (hrd.kept hb') (by omega)
            have c1 := L2.ownHas.cell 0
            have c2 := L2.tl.tl.tl.tl.ownHas.cell 0
            have c3 := L2.tl.ownHas.cell 0
            simp only [List.getElem?_cons_zero] at c1 c2 c3
            rw [ha] at c1
            have h9 := hin.1 j
            rw [hTk j] at h9 ⊢
            exact rk1_3 (bk + 1) (w2.heap.size + 1) w2.heap.size bk b o ys.length p2 n k j C M (ys.getD j 0) w' hj (by omega) HLEN.out hcx c1 c2 c3 (hcc j hj) L2.tl.tl.tl.tl.tl.ownHas HCE.out (IntWalk.i64_in _ (by omega)))
          (fun j hj => by
            have h9 := hin.2.1 (j + 1) (by have := HLEN.out; omega)
            rw [sumT] at h9
            exact IntWalk.i64_in _ (by omega)))
      have hRN := hin.2.2
      have hRNS := hNk
      rw [hNk] at hRN
      have HM := Lib.hid ((show IntKind.i64.wrap ((2 : Int) ^ k * sumT TK ys.length) = (2 : Int) ^ k * sumT TK ys.length from IntWalk.i64_in _ (by omega)).trans hNk.symm)
      have hgc := (L.range _ (by simp : tOwn (.slice (some ⟨gC, 0, none⟩) (n + 1) (n + 1)) (lstI (n + 1) (upR RN k)) ∈ _) gC rfl).2
      have hbf := (L.tl.tl.ownHas.lt)
      have hbfd : gC ≠ w2.heap.size + 1 := fun e => (List.pairwise_cons.1 (List.pairwise_cons.1 L.dis).2).1 (tHas (w2.heap.size + 1) [fV3] 95) (by simp) gC rfl e
      rw [show ((wr.alloc (.cells ([.int .i64 k] : List Value).toArray 3)).alloc (.cells ([.slice a2 ys.length p2] : List Value).toArray 22)) = ((wr.alloc (.cells #[.int .i64 k] 3)).alloc (.cells #[.slice a2 ys.length p2] 22)) from rfl] at LL
      have hrd := (hr2.kept (below_new (.cells #[.int .i64 k] 3))).kept (below_new (.cells #[.slice a2 ys.length p2] 22))
      have HCY := Lib.hid (fun (W : World) (h : Own W 0 (.slice (some ⟨gC, 0, none⟩) (n + 1) (n + 1)) (lstI (n + 1) (upR RN k))) => And.intro (Own.cell (by rw [lstI_len]; exact h) k (by rw [lstI_len]; exact hlt)) (Own.free (by rw [lstI_len]; exact h) k))
      have HLW := Lib.hid LL
      have HRD := Lib.hid hrd
      have HSET := Lib.hid (upR_set (n + 1) RN k)
      obtain ⟨bk, hbk⟩ : ∃ bk, bk = wr.heap.size := ⟨_, rfl⟩
      rw [← hbk] at HLW hgc hbf
      have hne1 : bk ≠ gC := by omega
      have hne2 : bk + 1 ≠ gC := by omega
      have hne3 : w2.heap.size + 1 ≠ gC := fun e => hbfd e.symm
      have hk0 : (0 : Int) ≤ k := by omega
      clear hr2 hrd LL hRN hRNS hTk hNk hin hgc hbf hbfd hrR L
      go_upto_region 8 with fail
      rw [← hbk]
      clear hbk
      generalize (wr.alloc _).alloc _ = w9 at *
      replace HLW := Lib.hid HLW.out.drew
      replace HRD := Lib.hid (HRD.out.kept (Below.refl _ _).drew)
      have j1 := HLW.out.tl.ownHas.cell 0
      have j2 := HLW.out.tl.tl.tl.tl.ownHas.cell 0
      have j3 := HLW.out.ownHas.cell 0
      simp only [List.getElem?_cons_zero] at j1 j2 j3
      obtain ⟨y1, y2⟩ := HCY.out _ HLW.out.tl.tl.tl.ownInts
      have HM2 := HM.out
      have hw12 : IntKind.i64.wrap 2 = 2 := by decide
      go_region_held3 (fun w' => w'.cell? ⟨bk, 0, none⟩ = some (.int .i64 k) ∧ w'.cell? ⟨w2.heap.size + 1, 0, none⟩ = some fV3 ∧ w'.cell? ⟨bk + 1, 0, none⟩ = some (.slice a2 ys.length p2)) (first | exact ⟨j1, j2, j3⟩ | exact ⟨(World.cell?_setCell_other _ _ _ _ (by simp)).trans j1, (World.cell?_setCell_other _ _ _ _ (by simp)).trans j2, (World.cell?_setCell_other _ _ _ _ (by simp)).trans j3⟩) ((first
        | (go_at_call 171; ((with_reducible refine (HZ.out _).mono ?_); rintro r wA ⟨rfl, hb⟩; replace HLW := Lib.hid (HLW.out.kept hb); replace HRD := Lib.hid (HRD.out.kept hb); replace j1 := cell_later hb j1; replace j2 := cell_later hb j2; replace j3 := cell_later hb j3; clear hb y1 y2; obtain ⟨y1, y2⟩ := HCY.out _ HLW.out.tl.tl.tl.ownInts))
        | (go_at_call 104; ((with_reducible refine (HPWk.out _).mono ?_); rintro r wB ⟨rfl, hww⟩; subst hww))
        | (go_at_call 98; ((with_reducible refine (HS.out bk _ HLW.out HRD.out).mono ?_); rintro r wC ⟨rfl, hb⟩; replace HLW := Lib.hid (HLW.out.kept hb); replace HRD := Lib.hid (HRD.out.kept hb); replace j1 := cell_later hb j1; replace j2 := cell_later hb j2; replace j3 := cell_later hb j3; clear hb y1 y2; obtain ⟨y1, y2⟩ := HCY.out _ HLW.out.tl.tl.tl.ownInts))
        | fail))
      all_goals
        have hST := (Law.store (ts := [_, _, _]) HLW.out (lstI_len _ _) k (RN k)).tl.tl
        rw [HSET.out] at hST
        have HST := Lib.hid hST
        clear hST HLW HRD j1 j2 j3 y1 y2 HM2
        go_wp2_with fail
        go_roundw
        case rel => exact ⟨k + 1, by omega, by go_num, HST.out⟩
        case measure => simp [intOf]; omega
    · obtain rfl : k = n + 1 := by omega
      rw [upR_full] at L
      have HL := Lib.hid L
      clear L
      go_wp2_with fail
      go_ret2
      exact ⟨_, rfl, HL.out.tl.ownLo, HL.out.below⟩
end Go.Proofs.Ytakdiiccdkjjcab
