/- Rook numbers of complements, in both texts. No condition but the sizes. -/
import Derived.Test.YtjmefcebldifaaaNc
import Derived.Deep.RegionHeld3
namespace Go.Proofs.Ytjmefcebldifaaa
open Go.RowKit Go.WideShapes

set_option maxRecDepth 100000 in
set_option maxHeartbeats 6400000 in
theorem specComp_any (r c : Int) (xs : List Int) (w : World) (hx : xs.length ≤ 1048576) (lo : Nat) (s : Value) (hO : Own w lo s xs) :
    Calls Try.prog 33 #[.agg #[.int .i64 r, .int .i64 c, s]] w fun e w' => AnsL (compB r c xs) w e w' := by
  have L0 := (Law.start w).box (.int .i64 r) (.int .i64 c) s 28
  have hO0 := hO.kept L0.below
  obtain ⟨a, cap, rfl, hr⟩ := hO.reads
  have hr0 := L0.reads hr
  clear hO
  cases hg : sqB r c xs
  · rw [show compB r c xs = ⟨[], false⟩ by simp [compB, hg]]
    go_enter Try.func33, Try.ntmps33
    go_wp2_with fail
    refine (at_boolB (roSquare_any r c xs _ hx a cap hr0) hg).mono ?_
    rintro e w1 ⟨rfl, hb⟩
    have HB := Lib.hid (L0.kept hb).below
    clear L0 hb hg hr0 hO0
    go_wp2_with fail
    go_ret2
    exact ⟨_, rfl, Own.nil _ _, HB.out⟩
  · have HC := Lib.hid (at_boolB (roSquare_any r c xs _ hx a cap hr0) hg)
    obtain ⟨hgg, rfl⟩ := sq_facts hg
    obtain ⟨g1, g2, g3, _⟩ := good_facts hgg
    obtain ⟨n, rfl⟩ := Int.eq_ofNat_of_zero_le (show 0 ≤ r by omega)
    rw [show compB n n xs = ⟨compL (numL n n (bt xs)) n, true⟩ by simp [compB, hg]]
    have hn := fun (W : World) (hO : Own W lo (.slice a xs.length cap) xs) => roNumbers_any n n xs W hx (by omega) (by omega) (by omega) (good_cell hgg) lo _ hO
    have hk := numL_len n n (bt xs)
    simp only [Nat.min_self] at hn hk
    have HN := Lib.hid hn
    have HK := Lib.hid hk
    have hbd := numL_bd n n (by omega) (by omega) (bt xs)
    have hn6 : n ≤ 6 := by omega
    clear hg hr0 hn hk hgg
    generalize numL n n (bt xs) = ys at *
    have HY := Lib.hid hbd
    clear hbd
    go_enter Try.func33, Try.ntmps33
    go_wp2_with fail
    refine HC.out.mono ?_
    rintro e w1 ⟨rfl, hb⟩
    have L1 := L0.kept hb
    have hO1 := hO0.kept hb
    have ⟨_, k0, k1, k2, _⟩ := L1.ownBox
    have HL := Lib.hid L1
    clear L0 L1 hb HC hO0
    go_wp2_with fail
    refine (HN.out _ hO1).mono ?_
    rintro e w2 ⟨g, p, rfl, hO, hb⟩
    have HL2 := Lib.hid ((HL.out.own hb hO).own (Below.refl _ _) (Own.nil _ _))
    clear HL hO hO1 hb k0 k1 k2 HN
    go_wp2_with fail
    go_loopw [4, 18] (fun v i wr => ∃ k : Nat, k ≤ n + 1 ∧ i = .int .i64 k ∧ Law w [tOwn v ((compL ys n).take k), tOwn (.slice (some ⟨g, 0, none⟩) (n + 1) p) ys, tBox w.heap.size (.int .i64 n) (.int .i64 n) (.slice a xs.length cap)] wr) (fun _ i _ => n + 1 - (intOf i).toNat)
    case atStart => exact ⟨0, Nat.zero_le _, rfl, HL2.out⟩
    case round =>
      clear HL2
      obtain ⟨k, hk, rfl, L⟩ := hrel
      obtain ⟨wo, rfl⟩ : ∃ wo : World, wo = wr := ⟨_, rfl⟩
      have HL := Lib.hid L
      clear L
      by_cases hkn : k < n + 1
      · have hkn' : (k : Int) < (n : Int) + 1 := by omega
        go_wp2_with fail
        go_loopw [7, 8, 9] (fun t u i wr => ∃ j : Nat, j ≤ k + 1 ∧ i = .int .i64 j ∧ u = .int .i64 (sgn j) ∧ t = .int .i64 (sumT (cmpJ ys n k) j) ∧ Law w [tOwn u4 ((compL ys n).take k), tOwn (.slice (some ⟨g, 0, none⟩) (n + 1) p) ys, tBox w.heap.size (.int .i64 n) (.int .i64 n) (.slice a xs.length cap)] wr) (fun _ _ i _ => k + 1 - (intOf i).toNat)
        case atStart => exact ⟨0, Nat.zero_le _, rfl, rfl, rfl, HL.out⟩
        case round =>
          clear HL
          obtain ⟨j, hj, rfl, rfl, rfl, L⟩ := hrel
          by_cases hjk : j ≤ k
          · have hjk' : (j : Int) ≤ k := by omega
            have ⟨_, k0, k1, k2, _⟩ := L.tl.tl.ownBox
            have o2 := L.tl.ownInts
            have hcj := Own.cell (by rw [HK.out]; exact o2) j (by rw [HK.out]; omega)
            have hc := roChoose_any (n - j) (k - j) wr (by omega) (by omega)
            rw [show ((n - j : Nat) : Int) = (n : Int) - j by omega, show ((k - j : Nat) : Int) = (k : Int) - j by omega] at hc
            have hf := fun W => roFalling_any ((k - j : Nat) : Int) (k - j) W (by unfold Abs; omega) (by omega)
            rw [show fal ((k - j : Nat) : Int) (k - j) = fct (k - j) from rfl, show ((k - j : Nat) : Int) = (k : Int) - j by omega] at hf
            have hdk : IntKind.i64.wrap ((k : Int) - j) = (k : Int) - j := IntWalk.i64_in _ (by omega)
            have e1 := chs_le (n - j) (k - j) (by omega) (by omega)
            have e2 := fct_bd (k - j) (by omega)
            have e3 := HY.out j
            have e4 := cmpS_abs' ys HY.out n k (j + 1) hn6 (by omega) (by omega)
            rw [sumT] at e4
            have e5 : -1 ≤ sgn j ∧ sgn j ≤ 1 := by unfold sgn; split <;> omega
            have e6 := sgn_succ j
            have e7 : cmpJ ys n k j = sgn j * ys.getD j 0 * (chs (n - j) (k - j) : Nat) * (chs (n - j) (k - j) : Nat) * fct (k - j) := by
              unfold cmpJ cmpI sgn
              split
              · rw [Int.neg_one_mul, Int.neg_mul, Int.neg_mul, Int.neg_mul]
              · rw [Int.one_mul]
            have HT := Lib.hid (show sumT (cmpJ ys n k) (j + 1) = sumT (cmpJ ys n k) j + cmpJ ys n k j from rfl)
            have HSG := Lib.hid e6
            rw [e7] at e4
            rw [e7] at HT
            obtain ⟨q1, q2, q3⟩ := four_abs (sgn j * ys.getD j 0) (chs (n - j) (k - j) : Nat) (fct (k - j)) (by
              have := (show Abs ((1 : Nat) : Int) (sgn j) from e5).mul (show Abs ((117649 : Nat) : Int) (ys.getD j 0) by unfold Abs; omega)
              exact this.mono (by decide)) (by unfold Abs; omega) (by unfold Abs; omega)
            have q0 : Abs 117649 (sgn j * ys.getD j 0) := by
              have := (show Abs ((1 : Nat) : Int) (sgn j) from e5).mul (show Abs ((117649 : Nat) : Int) (ys.getD j 0) by unfold Abs; omega)
              exact this.mono (by decide)
            generalize ys.getD j 0 = y at *
            generalize ((chs (n - j) (k - j) : Nat) : Int) = c at *
            generalize fct (k - j) = f at *
            generalize sgn j = σ at *
            generalize sumT (cmpJ ys n k) j = t at *
            obtain ⟨v0, hv0⟩ : ∃ v, v = σ * y := ⟨_, rfl⟩
            obtain ⟨v1, hv1⟩ : ∃ v, v = v0 * c := ⟨_, rfl⟩
            obtain ⟨v2, hv2⟩ : ∃ v, v = v1 * c := ⟨_, rfl⟩
            obtain ⟨v3, hv3⟩ : ∃ v, v = v2 * f := ⟨_, rfl⟩
            rw [← hv0] at q0 q1 q2 q3 HT e4
            rw [← hv1] at q1 q2 q3 HT e4
            rw [← hv2] at q2 q3 HT e4
            rw [← hv3] at q3 HT e4
            unfold Abs at q0 q1 q2 q3 e4
            have p0 : IntKind.i64.wrap (σ * y) = v0 := by rw [← hv0]; exact IntWalk.i64_in _ (by omega)
            have p1 : IntKind.i64.wrap (v0 * c) = v1 := by rw [← hv1]; exact IntWalk.i64_in _ (by omega)
            have p2 : IntKind.i64.wrap (v1 * c) = v2 := by rw [← hv2]; exact IntWalk.i64_in _ (by omega)
            have p3 : IntKind.i64.wrap (v2 * f) = v3 := by rw [← hv3]; exact IntWalk.i64_in _ (by omega)
            have p4 : IntKind.i64.wrap (t + v3) = t + v3 := IntWalk.i64_in _ (by omega)
            have p5 : wrap64 (-σ) = -σ := IntWalk.wrap64_in _ (by omega)
            have HC := Lib.hid hc
            have HF := Lib.hid hf
            have HL := Lib.hid L
            have hj0 : (0 : Int) ≤ j := by omega
            have hj1 : (j : Int) < (n : Int) + 1 := by omega
            clear L o2 hc hf hv0 hv1 hv2 hv3 e6 e7 e4 q0 q1 q2 q3 e1 e2 e3
            go_wp2_with fail
            refine HC.out.mono ?_
            rintro e w' ⟨rfl, hww⟩
            subst hww
            go_wp2_with fail
            go_quiet ((go_at_call 66; with_reducible exact Calls.quiet_of_same (HF.out _)))
            go_wp2_with fail
            go_roundw
            case rel => exact ⟨j + 1, by omega, by go_num, by rw [HSG.out], by rw [HT.out], HL.out.kept (below_drewN (Below.refl _ _) _)⟩
            case measure => simp [intOf]; omega
          · obtain rfl : j = k + 1 := by omega
            have hjk' : (k : Int) < (k : Int) + 1 := by omega
            have HT := Lib.hid (compL_take ys n k hkn)
            have hlen : ((compL ys n).take k).length + 1 ≤ 1048576 := by rw [List.length_take, compL_len]; omega
            generalize sumT (cmpJ ys n k) (k + 1) = t at *
            have HL := Lib.hid (L.kept (below_new (.cells #[.int .i64 t] 3)))
            clear L
            go_wp2_with (at_builtin; refine wp_appendI rfl _ _ rfl t HL.out wr.heap.size rfl rfl ?c1 hlen _ HT.out ?_)
            case c1 => simp
            intro g2 cp w3 L3
            have HL3 := Lib.hid L3
            clear L3 HL
            go_wp2_with fail
            go_roundw
            case rel => exact ⟨k + 1, by omega, by go_num, HL3.out⟩
            case measure => simp [intOf]; omega
      · obtain rfl : k = n + 1 := by omega
        rw [List.take_of_length_le (by rw [compL_len]; omega)] at HL
        go_wp2_with fail
        go_ret2
        exact ⟨_, rfl, HL.out.ownLo, HL.out.below⟩

set_option maxRecDepth 100000 in
set_option maxHeartbeats 6400000 in
theorem implComp_any (r c : Int) (xs : List Int) (w : World) (hx : xs.length ≤ 1048576) (lo : Nat) (s : Value) (hO : Own w lo s xs) :
    Calls Try.prog 34 #[.agg #[.int .i64 r, .int .i64 c, s]] w fun e w' => AnsL (compB r c xs) w e w' := by
  have L0 := (Law.start w).box (.int .i64 r) (.int .i64 c) s 28
  obtain ⟨a, cap, rfl, hr⟩ := hO.reads
  have hr0 := L0.reads hr
  clear hO
  cases hg : goodB r c xs
  · rw [show compB r c xs = ⟨[], false⟩ by simp [compB, sqB, hg]]
    go_enter Try.func34, Try.ntmps34
    go_wp2_with fail
    refine (gridOf_no r c a cap xs _ hx hr0 hg).mono ?_
    rintro e w1 ⟨rfl, hb⟩
    have HB := Lib.hid (((L0.kept hb).kept (below_new (.cells #[.int .i64 0, .int .i64 0, .int .i64 0, .int .i64 0, .int .i64 0, .int .i64 0, .int .i64 0, .int .i64 0] 53))).below)
    clear L0 hb hg hr0
    go_wp2_with fail
    go_ret2
    exact ⟨_, rfl, Own.nil _ _, HB.out⟩
  · obtain ⟨M, hM, hc⟩ := gridOf_good r c a cap xs _ hx hr0 hg
    have HC := Lib.hid hc; clear hc
    by_cases hrc : r = c
    case neg =>
      have hne : (r != c) = true := by simp [hrc]
      rw [show compB r c xs = ⟨[], false⟩ by simp [compB, sqB, hrc]]
      clear hg hr0 hM hrc
      go_enter Try.func34, Try.ntmps34
      go_wp2_with fail
      refine HC.out.mono ?_
      rintro e w1 ⟨rfl, hb⟩
      have HL := Lib.hid ((L0.kept hb).kept (below_new (.cells (gl r c M).toArray 53))).below
      clear L0 hb HC
      go_wp2_with fail
      go_ret2
      exact ⟨_, rfl, Own.nil _ _, HL.out⟩
    subst hrc
    have hgc := good_cell hg
    obtain ⟨g1, g2, g3, _⟩ := good_facts hg
    obtain ⟨n, rfl⟩ := Int.eq_ofNat_of_zero_le (show 0 ≤ r by omega)
    rw [show compB n n xs = ⟨compL (numL n n (bt xs)) n, true⟩ by simp [compB, sqB, hg]]
    simp only [← hM] at hgc
    have hn := fun W => rookNumbers_any n n M W (by omega) (by omega) (fun k _ => hgc k)
    have hd : lstL (min n n + 1) (wR n (bM M) n 0 0) = numL n n (bt xs) := by
      rw [show bM M = bt xs by funext a b; simp only [bM, bt, hM]]
      rfl
    rw [hd] at hn
    have hk := numL_len n n (bt xs)
    simp only [Nat.min_self] at hn hk
    have HN := Lib.hid hn
    have HK := Lib.hid hk
    have hbd := numL_bd n n (by omega) (by omega) (bt xs)
    have hn6 : n ≤ 6 := by omega
    clear hg hr0 hgc hn hd hM hk
    generalize numL n n (bt xs) = ys at *
    have HY := Lib.hid hbd
    clear hbd
    have hmk : ∀ w, (Instr.makeSlice 22 (.int .i64 ((n : Int) + 1)) (.int .i64 ((n : Int) + 1))).run Try.prog w = .ok (.slice (some ⟨w.heap.size, 0, none⟩) (n + 1) (n + 1)) (w.alloc (.cells (madeCells #[.int .i64 0] (n + 1)) 3)) := by
      intro w
      have := run_make_row' (P := Try.prog) 22 3 (.int .i64 0) 8 Try.underlying22 Try.infoI rfl .i64 .i64 (n + 1) (by omega) (by omega) w
      rw [show ((n : Int) + 1) = ((n + 1 : Nat) : Int) by push_cast; rfl]
      exact this
    go_enter Try.func34, Try.ntmps34
    go_wp2_with fail
    refine HC.out.mono ?_
    rintro e w1 ⟨rfl, hb⟩
    have L1 := (L0.kept hb).has (gl n n M) 53
    rw [show w1.alloc (.cells (gl n n M).toArray 53) = w1.alloc (.cells #[.int .i64 n, .int .i64 n, .int .i64 (M 0), .int .i64 (M 1), .int .i64 (M 2), .int .i64 (M 3), .int .i64 (M 4), .int .i64 (M 5)] 53) from rfl] at L1
    have HL := Lib.hid L1
    clear L0 hb L1 HC
    go_upto_region 2 with fail
    generalize w1.alloc (.cells #[.int .i64 n, .int .i64 n, .int .i64 (M 0), .int .i64 (M 1), .int .i64 (M 2), .int .i64 (M 3), .int .i64 (M 4), .int .i64 (M 5)] 53) = w5 at *
    obtain ⟨b3, hb3⟩ : ∃ b3, b3 = w1.heap.size := ⟨_, rfl⟩
    rw [← hb3] at HL ⊢
    clear hb3
    obtain ⟨e0, e1, e2, e3, e4, e5, e6, e7, _⟩ := HL.out.ownHas.eight
    go_wp2_with fail
    refine (HN.out _).mono ?_
    rintro e w2 ⟨g, p, rfl, hO, hb⟩
    have L2 := (HL.out.own hb hO).has [.slice (some ⟨g, 0, none⟩) (n + 1) p] 22
    rw [show w2.alloc (.cells [.slice (some ⟨g, 0, none⟩) (n + 1) p].toArray 22) = w2.alloc (.cells #[.slice (some ⟨g, 0, none⟩) (n + 1) p] 22) from rfl] at L2
    have HL2 := Lib.hid L2
    clear L2 HL hO hb HN e0 e1 e2 e3 e4 e5 e6 e7
    go_upto_region 5 with fail
    generalize w2.alloc (.cells #[.slice (some ⟨g, 0, none⟩) (n + 1) p] 22) = w6 at *
    obtain ⟨b1, hb1⟩ : ∃ b1, b1 = w2.heap.size := ⟨_, rfl⟩
    rw [← hb1] at HL2 ⊢
    clear hb1
    have f0 := HL2.out.ownHas.cell 0
    simp only [List.getElem?_cons_zero] at f0
    have L3 := HL2.out.own (below_new _) (own_made w6 (n + 1) _ w6.heap.size rfl (Nat.le_refl _) (by omega))
    have HL3 := Lib.hid L3
    clear L3
    go_upto_region 6 with fail
    generalize w6.alloc (.cells (madeCells #[.int .i64 0] (n + 1)) 3) = w7 at *
    obtain ⟨go, hgo⟩ : ∃ go, go = w6.heap.size := ⟨_, rfl⟩
    rw [← hgo] at HL3 ⊢
    rw [show List.replicate (n + 1) (0 : Int) = over (compL ys n) (List.replicate (n + 1) 0) 0 from (over_zero _ _).symm] at HL3
    clear hgo hmk f0 HL2
    go_wp2_with fail
    go_loopw [30] (fun i wr => ∃ k : Nat, k ≤ n + 1 ∧ i = .int .i64 k ∧ Law w [tOwn (.slice (some ⟨go, 0, none⟩) (n + 1) (n + 1)) (over (compL ys n) (List.replicate (n + 1) 0) k), tHas b1 [.slice (some ⟨g, 0, none⟩) (n + 1) p] 22, tOwn (.slice (some ⟨g, 0, none⟩) (n + 1) p) ys, tHas b3 (gl n n M) 53, tBox w.heap.size (.int .i64 n) (.int .i64 n) (.slice a xs.length cap)] wr) (fun i _ => n + 1 - (intOf i).toNat)
    case atStart => exact ⟨0, Nat.zero_le _, rfl, HL3.out⟩
    case round =>
      clear HL3
      obtain ⟨k, hk, rfl, L⟩ := hrel
      by_cases hkn : k < n + 1
      · have hkn' : (k : Int) < (n : Int) + 1 := by omega
        have hk0 : (0 : Int) ≤ k := by omega
        have hk1 : IntKind.i64.wrap ((k : Int) + 1) = (k : Int) + 1 := IntWalk.i64_in _ (by omega)
        have L1 := L.has [.int .i64 k] 3
        rw [show wr.alloc (.cells [.int .i64 k].toArray 3) = wr.alloc (.cells #[.int .i64 k] 3) from rfl] at L1
        have HL1 := Lib.hid L1
        clear L1 L
        go_upto_region 9 with fail
        generalize wr.alloc (.cells #[.int .i64 k] 3) = w8 at *
        obtain ⟨b2, hb2⟩ : ∃ b2, b2 = wr.heap.size := ⟨_, rfl⟩
        rw [← hb2] at HL1 ⊢
        clear hb2
        have HL2 := Lib.hid HL1.out.drew
        have HS := Lib.hid (sumOfTerms_any (k + 1) 67 #[.pointer (some ⟨b3, 0, none⟩), .pointer (some ⟨b2, 0, none⟩), .pointer (some ⟨b1, 0, none⟩)] (cmpJ ys n k) w8.drew (by omega) (fun _ _ => by kernel_rfl)
          (fun j hj w' hb' => comp1_any b3 b2 b1 g p n k j ys HY.out w' (by omega) (by omega) hn6 ((HL2.out.kept hb').tl.tl.tl.tl.ownHas.cell 0) ((HL2.out.kept hb').ownHas.cell 0) ((HL2.out.kept hb').tl.tl.ownHas.cell 0) (Own.cell (by rw [HK.out]; exact (HL2.out.kept hb').tl.tl.tl.ownInts) j (by rw [HK.out]; omega)))
          (fun j hj => by
            have h2 := cmpS_abs' ys HY.out n k (j + 1) hn6 (by omega) (by omega)
            rw [sumT] at h2
            unfold Abs at h2
            exact IntWalk.i64_in _ (by omega)))
        have e0 := HL2.out.ownHas.cell 0
        simp only [List.getElem?_cons_zero] at e0
        rw [show ((k + 1 : Nat) : Int) = (k : Int) + 1 by push_cast; rfl] at HS
        have HT := Lib.hid (compL_get ys n k hkn)
        generalize sumT (cmpJ ys n k) (k + 1) = t at *
        have hne : b2 ≠ go := by
          intro e
          refine (List.pairwise_cons.1 HL1.out.dis).1 _ List.mem_cons_self b2 rfl ?_
          show some go = some b2
          rw [e]
        have HOL := Lib.hid (over_len (compL ys n) (List.replicate (n + 1) 0) k (n + 1) (compL_len ys n) (by simp) hk)
        clear HL1
        go_region_held3 (fun w' => w'.cell? ⟨b2, 0, none⟩ = some (.int .i64 k)) (first | with_reducible assumption | assumption | (rw [World.cell?_setCell_other _ _ _ _ (by simp)]; assumption)) ((go_at_call 61; ((with_reducible refine (HS.out).mono ?_); rintro e w3 ⟨rfl, hb3⟩; have z0 := cell_later hb3 e0; have L3 := HL2.out.kept hb3; have o3 := L3.tl.ownInts; have y1 := Own.cell (by rw [HOL.out]; exact o3) k (by rw [HOL.out]; exact hkn); have y2 := Own.free (by rw [HOL.out]; exact o3) k; have HL3 := Lib.hid L3; clear o3 L3 hb3)))
        have hS := (Law.store (ts := [_]) HL3.out HOL.out k t).tl
        rw [over_set (compL ys n) (List.replicate (n + 1) 0) k (n + 1) (compL_len ys n) (by simp) hkn _ HT.out] at hS
        have HN := Lib.hid hS
        clear hS HL3 y1 y2 z0 e0 hne
        go_wp2_with fail
        go_roundw
        case rel => exact ⟨k + 1, by omega, by go_num, HN.out⟩
        case measure => simp [intOf]; omega
      · obtain rfl : k = n + 1 := by omega
        rw [over_full _ _ (n + 1) (compL_len ys n) (by simp)] at L
        have HL := Lib.hid L
        clear L
        go_wp2_with fail
        go_ret2
        exact ⟨_, rfl, HL.out.ownLo, HL.out.below⟩
end Go.Proofs.Ytjmefcebldifaaa
