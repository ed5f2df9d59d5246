/- The colour board, in the specification: the walk. No condition but the sizes. -/
import Derived.Test.YtakdiiccdkjjcaaEe
namespace Go.Proofs.Ytakdiiccdkjjcaa
open Go.RowKit Go.WideShapes

theorem sum_in6 (y p : Int) (h0 : 0 ≤ y) (h1 : y + p < 64) (h2 : 1 ≤ p) : wrap64 (y + p) = y + p ∧ IntKind.i64.wrap (y + p) = y + p :=
  ⟨IntWalk.wrap64_in _ (by omega), IntWalk.i64_in _ (by omega)⟩
theorem two_pow6 (t : Nat) (h : t < 6) : ((1 : Int) ≤ 2 ^ t ∧ (2 : Int) ^ t ≤ 32) ∧ wrap64 (2 ^ t) = 2 ^ t ∧ IntKind.i64.wrap (2 ^ t) = 2 ^ t := by
  have key : ∀ t : Fin 6, ((1 : Int) ≤ 2 ^ (t : Nat) ∧ (2 : Int) ^ (t : Nat) ≤ 32) ∧ wrap64 (2 ^ (t : Nat)) = 2 ^ (t : Nat) ∧ IntKind.i64.wrap (2 ^ (t : Nat)) = 2 ^ (t : Nat) := by decide +kernel
  exact key ⟨t, h⟩
set_option maxRecDepth 100000 in
set_option maxHeartbeats 12800000 in
theorem biBoard_any (n m : Nat) (xs : List Int) (k : Nat) (w : World) (hx : xs.length ≤ 1048576) (hg : goodB n m xs = true) (hk : k < 2) (lo : Nat) (s : Value) (hO : Own w lo s xs) :
    Calls Try.prog 60 #[.agg #[.int .i64 n, .int .i64 m, s], .int .i64 k] w fun e w' => ∃ v, e = .returned (.agg #[.int .i64 (lnI n m k : Nat), .int .i64 (lnI n m (fdI m k) : Nat), v]) ∧ Own w' w.heap.size v (colL n m k xs) ∧ Below w.heap.size w w' := by
  obtain ⟨⟨n1, n6⟩, ⟨m1, m6⟩, _, _⟩ := good_facts hg
  have hl1 := ln_le n m k (by omega) (by omega)
  have hl2 := ln_le n m (fdI m k) (by omega) (by omega)
  have hfd := fd_le m k
  have L0 := ((Law.start w).box (.int .i64 n) (.int .i64 m) s 28).box (.int .i64 0) (.int .i64 0) (.slice none 0 0) 28
  simp only [World.size_alloc] at L0
  obtain ⟨sa, sc, hs, _⟩ := hO.reads
  have HLI := Lib.hid (fun W => biLines_any n m s k W (by omega) (by omega) hk ⟨_, _, _, hs⟩)
  rw [lin_end n m k (by omega) (by omega) (by omega) (by omega) hk] at HLI
  have HBE := Lib.hid (fun W => boEmpty_any (lnI n m k) (lnI n m (fdI m k)) W hl1)
  have HBC := Lib.hid (fun (W : World) (h : Own W lo s xs) => boCells_any n m xs W hx hg lo s h)
  have HO := Lib.hid hO
  have HFIN := Lib.hid (colL_bb n m k xs (by omega) (by omega) hk)
  have HPW := Lib.hid (fun i (hi : i < 6) q => show bbI m k ((cellsL xs n m).take q) i < 64 by
    have h1 := bbI_take_le m k (cellsL xs n m) i q
    rw [col_end n m k i xs (by omega) (by omega) hk hi] at h1
    have h2 := rowM_64 (colB n m k (fun a b => (xs.getD a 0).toNat.testBit b) i) _ hl2
    omega)
  have HCM := Lib.hid (fun q (h : q < (cellsL xs n m).length) => cells_mem (List.getElem_mem h))
  have HCL := Lib.hid (show (cellsL xs n m).length ≤ 1000 by have := cellsU_len xs m n 0 (by omega) (by omega) (by omega); unfold cellsL; omega)
  have HLL := Lib.hid (colL_len n m k xs)
  have HIX := Lib.hid (fun a b ha hb hp => ix_facts n m k a b (by omega) hk ha hb hp)
  have HBB0 := Lib.hid (show List.replicate (lnI n m k) (0 : Int) = lstI (lnI n m k) (bbI m k ((cellsL xs n m).take 0)) by rw [lstI_zero]; rfl)
  rw [hs] at L0 HLI HBC HO ⊢
  have HL := Lib.hid L0
  clear L0 hO hs hg hx
  generalize hc1 : lnI n m k = c1 at *
  generalize hc2 : lnI n m (fdI m k) = c2 at *
  generalize colL n m k xs = out at *
  generalize hcs : cellsL xs n m = cs at *
  generalize hff : fdI m k = f at *
  clear hc1 hc2 hcs hff
  go_enter Try.func60, Try.ntmps60
  go_upto_region 1 with fail
  generalize (w.alloc _).alloc _ = w1 at *
  have ⟨_, b0, b1, b2, _⟩ := HL.out.tl.ownBox
  go_wp2_with fail
  refine (HLI.out _).mono ?_
  rintro e w2 ⟨v1, v2, rfl, hLN⟩
  have hO1 := hLN.tl.ownLo
  have hO2 := hLN.ownLo
  have hdis : ∀ k, v1.ownBlock = some k → v2.ownBlock ≠ some k := fun j e1 e2 => (List.pairwise_cons.1 hLN.dis).1 (tOwn v1 (arL k c1)) (by simp) j e2 e1
  replace HL := Lib.hid (HL.out.own2 hLN.below hO1 hO2 hdis)
  clear hLN hO1 hO2 hdis HLI b0 b1 b2
  obtain ⟨a1, p1, hv1, _⟩ := HL.out.ownInts.reads
  obtain ⟨a2, p2, hv2, _⟩ := HL.out.tl.ownInts.reads
  rw [arL_len] at hv1 hv2
  subst hv1 hv2
  go_wp2_with fail
  refine (HBE.out _).mono ?_
  rintro e w3 ⟨so, rfl, hOo, hb⟩
  rw [HBB0.out] at hOo
  have HL1 := Lib.hid ((HL.out.own hb hOo).box (.int .i64 (c1 : Nat)) (.int .i64 (c2 : Nat)) so 28)
  obtain ⟨ao, po, hvo, _⟩ := HL1.out.tl.ownInts.reads
  rw [lstI_len] at hvo
  subst hvo
  clear hOo hb HL HBE
  have hb7 : w3.heap.size = w3.heap.size := rfl
  go_upto_region 3 with fail
  obtain ⟨b7, hb8⟩ : ∃ b, b = w3.heap.size := ⟨_, rfl⟩
  rw [← hb8] at HL1 ⊢
  clear hb8 hb7
  generalize w3.alloc _ = w4 at *
  have ⟨_, b0, b1, b2, _⟩ := HL1.out.tl.tl.tl.tl.tl.ownBox
  have hO4 := HO.out.kept (below_on (Below.refl _ _) HL1.out.below)
  go_wp2_with fail
  refine (HBC.out _ hO4).mono ?_
  rintro e w5 ⟨v, vs, rfl, hM, hb⟩
  have HL2 := Lib.hid (HL1.out.addM hb hM)
  obtain ⟨av, pv, hv⟩ := ownM_shape hM
  subst hv
  clear hM hb hO4 HL1 HBC b0 b1 b2 HO
  go_wp2_with fail
  go_loopw [9, 10, 11, 26] (fun _ _ _ i wr => ∃ q : Nat, q ≤ cs.length ∧ i = .int .i64 q ∧ Law w [tM (.slice av cs.length pv) vs cs, tBox b7 (.int .i64 (c1 : Nat)) (.int .i64 (c2 : Nat)) (.slice ao c1 po), tOwn (.slice ao c1 po) (lstI c1 (bbI m k (cs.take q))), tOwn (.slice a1 c1 p1) (arL k c1), tOwn (.slice a2 c2 p2) (arL f c2), tBox (w.heap.size + 1) (.int .i64 0) (.int .i64 0) (.slice none 0 0), tBox w.heap.size (.int .i64 n) (.int .i64 m) (.slice sa xs.length sc)] wr) (fun _ _ _ i _ => cs.length - (intOf i).toNat)
  case atStart => exact ⟨0, Nat.zero_le _, rfl, HL2.out⟩
  case round =>
    clear HL2
    obtain ⟨q, hq, rfl, L⟩ := hrel
    obtain ⟨wo, rfl⟩ : ∃ wo : World, wo = wr := ⟨_, rfl⟩
    have hcl := HCL.out
    by_cases hlt : q < cs.length
    · obtain ⟨a, b, hxq, ha, hb, _⟩ := HCM.out q hlt
      obtain ⟨gv, cv, gx, cx, hv, hvx⟩ := two_form L.ownM q hlt a b hxq
      injection hv with hv1 hv2 hv3
      subst hv1
      subst hv3
      have HX := Lib.hid (fun (W : World) (h : OwnM W 0 (.slice (some ⟨gv, 0, none⟩) cs.length pv) vs cs) => two_at h hlt hxq hvx)
      have HL := Lib.hid L
      clear L
      obtain ⟨x0, x1, x2⟩ := HX.out _ HL.out.ownM
      by_cases hpar : (a + b) % 2 = k
      · have hd : (((a : Int) + b) % 2 == (k : Int)) = true := by rw [beq_iff_eq]; omega
        obtain ⟨i1, i2, i3, i4⟩ := HIX.out a b ha hb hpar
        have HNX := Lib.hid (bb_yes m k c1 q cs hlt a b hxq hpar)
        have HSTP := Lib.hid (fun i => bbI_step m k cs i q hlt a b hxq)
        go_wp2_with fail
        go_region
        replace HL := Lib.hid HL.out.drew
        go_upto_region 1 with fail
        generalize wo.drew = w6 at *
        replace HL := Lib.hid HL.out.drew
        clear x0 x1 x2
        obtain ⟨_, x1, x2⟩ := HX.out _ HL.out.ownM
        have ⟨_, b0, b1, b2, _⟩ := HL.out.tl.tl.tl.tl.tl.tl.ownBox
        have HDG := Lib.hid (fun W => biDiag_any n m (.slice sa xs.length sc) a b W (by omega) (by omega) (by omega))
        rw [i3, i4] at HDG
        generalize ht1 : ixR k a b = t1 at *
        generalize ht2 : ixC m k a b = t2 at *
        go_region_held3 (fun w' => w'.cell? ⟨w.heap.size, 0, none⟩ = some (.int .i64 n) ∧ w'.cell? ⟨w.heap.size, 1, none⟩ = some (.int .i64 m) ∧ w'.cell? ⟨w.heap.size, 2, none⟩ = some (.slice sa xs.length sc) ∧ w'.cell? ⟨gx, 0, none⟩ = some (.int .i64 a) ∧ w'.cell? ⟨gx, 1, none⟩ = some (.int .i64 b)) (exact ⟨b0, b1, b2, x1, x2⟩) ((go_at_call 55; ((with_reducible refine (HDG.out _).mono ?_); rintro r wA ⟨rfl, hb⟩; replace HL := Lib.hid (HL.out.kept hb); replace b0 := cell_later hb b0; replace b1 := cell_later hb b1; replace b2 := cell_later hb b2; replace x1 := cell_later hb x1; replace x2 := cell_later hb x2; clear hb)))
        replace HL := Lib.hid HL.out.drew
        clear b0 b1 b2 x1 x2 HDG hvx hxq hd
        go_upto_region 1 with fail
        have hO := HL.out.tl.tl.ownInts
        obtain ⟨g, rfl⟩ : ∃ g, ao = some ⟨g, 0, none⟩ := by
          rcases hO.cases with ⟨h, _⟩ | ⟨g, cap, h, _⟩
          · injection h with h1 h2 h3
            omega
          · injection h with h1 h2 h3
            exact ⟨g, h1⟩
        have y1 := Own.cell (by rw [lstI_len]; exact hO) t1 (by rw [lstI_len]; exact i1)
        have y2 := Own.free (by rw [lstI_len]; exact hO) t1
        rw [lstI_get _ _ _ i1] at y1
        have hS := Law.store (ts := [_, _]) HL.out (lstI_len _ _) t1 (bbI m k (cs.take q) t1 + 2 ^ t2)
        rw [HNX.out] at hS
        have HS := Lib.hid hS
        have hp0 := bbI_pos m k (cs.take q) t1
        have hp1 : bbI m k (cs.take q) t1 + 2 ^ t2 < 64 := by
          have h1 := HPW.out t1 (by omega) (q + 1)
          rw [HSTP.out t1, wgt, if_pos ⟨hpar, ht1⟩, ht2] at h1
          exact h1
        obtain ⟨_, _, _, j3, _⟩ := HL.out.tl.ownBox
        have HPA := Lib.hid (biPlace_any k c1 t1 ((k : Int) + 2 * t1) _ 0 _ (by omega) i1 (by omega) HL.out.tl.tl.tl.ownInts)
        have HPB := Lib.hid (biPlace_any f c2 t2 ((f : Int) + 2 * t2) _ 0 _ (by omega) i2 (by omega) HL.out.tl.tl.tl.tl.ownInts)
        have hneb : b7 ≠ g := fun e => (List.pairwise_cons.1 HL.out.tl.dis).1 (tOwn (.slice (some ⟨g, 0, none⟩) c1 po) (lstI c1 (bbI m k (cs.take q)))) (by simp) b7 rfl (by show some g = some b7; rw [e])
        have hpw := two_pow6 t2 (by omega)
        have hsum : wrap64 (bbI m k (cs.take q) t1 + 2 ^ t2) = bbI m k (cs.take q) t1 + 2 ^ t2 := (sum_in6 _ _ hp0 hp1 hpw.1.1).1
        have hsum2 : IntKind.i64.wrap (bbI m k (cs.take q) t1 + 2 ^ t2) = bbI m k (cs.take q) t1 + 2 ^ t2 := (sum_in6 _ _ hp0 hp1 hpw.1.1).2
        obtain ⟨_, hw1, hw2⟩ := hpw
        have ht0 : (0 : Int) ≤ t1 := by omega
        have htl : (t1 : Int) < c1 := by omega
        have ht2' : (t2 : Int) < 64 := by omega
        have ht20 : (0 : Int) ≤ t2 := by omega
        clear hO hS HNX HSTP HPW hp0 hp1 i3 i4 ht1 ht2
        generalize bbI m k (cs.take q) t1 = y at *
        go_region_with ((first
          | (go_at_call 99; with_reducible change Calls _ _ #[.slice a1 c1 p1, _] _ _; ((with_reducible refine HPA.out.mono ?_); rintro r wA ⟨rfl, rfl⟩))
          | (go_at_call 99; with_reducible change Calls _ _ #[.slice a2 c2 p2, _] _ _; ((with_reducible refine HPB.out.mono ?_); rintro r wA ⟨rfl, rfl⟩))
          | fail))
        all_goals
          clear y1 y2 j3
          go_wp2_with fail
          go_roundw
          case rel => exact ⟨q + 1, by omega, by go_num, HS.out⟩
          case measure => simp [intOf]; omega
      · have hd : (((a : Int) + b) % 2 == (k : Int)) = false := by rw [beq_eq_false_iff_ne]; omega
        have HNX := Lib.hid (bb_no m k c1 q cs hlt a b hxq hpar)
        clear hvx hxq hpar
        go_wp2_with fail
        go_region
        go_wp2_with fail
        go_roundw
        case rel => exact ⟨q + 1, by omega, by go_num, by rw [HNX.out]; exact HL.out.drew⟩
        case measure => simp [intOf]; omega
    · obtain rfl : q = cs.length := by omega
      rw [List.take_length, HFIN.out] at L
      have HL := Lib.hid (L.sub (ts' := [tBox b7 (.int .i64 (c1 : Nat)) (.int .i64 (c2 : Nat)) (.slice ao c1 po), tOwn (.slice ao c1 po) out, tBox (w.heap.size + 1) (.int .i64 0) (.int .i64 0) (.slice none 0 0)]) (by simp))
      clear L
      have ⟨_, b0, b1, b2, _⟩ := HL.out.ownBox
      have ⟨_, n0, n1, n2, nf⟩ := HL.out.tl.tl.ownBox
      have hfin := HL.out.tl.fin3 (n := w.heap.size + 1) (x := .int .i64 0) (y := .int .i64 0) (z := .slice none 0 0) (by simp) (.int .i64 (c1 : Nat)) (.int .i64 (c2 : Nat)) (.slice ao c1 po)
      have HF := Lib.hid hfin
      clear hfin HL
      go_wp2_with fail
      exact bodyPost_ret (v := .agg #[.int .i64 (c1 : Nat), .int .i64 (c2 : Nat), .slice ao c1 po]) (by simp [results, Try.results60, go_sem, n0, n1, n2]) rfl ⟨_, rfl, HF.out.1, HF.out.2⟩

end Go.Proofs.Ytakdiiccdkjjcaa
