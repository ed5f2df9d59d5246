/- Pairs of cells in one row, one column or on one diagonal, in both texts. No condition but the sizes. -/
import Derived.Test.YtakdiiccdkjjcabEC
import Derived.Test.YtakdiiccdkjjcabEy
import Derived.Test.YtakdiiccdkjjcabHs
namespace Go.Proofs.Ytakdiiccdkjjcab
open Go.RowKit Go.WideShapes

theorem dist_free (a b c d : Nat) : (bD ((a : Int) - c) ((b : Int) - d) || (((a : Int) == c) || ((b : Int) == d))) = !freeB qD (a, b) (c, d) := by
  unfold freeB qD bD
  rw [Bool.not_not, Bool.eq_iff_iff]
  simp only [Bool.or_eq_true, beq_iff_eq]
  omega
theorem free_sym (x y : Nat × Nat) : freeB qD x y = freeB qD y x := by
  unfold freeB qD
  congr 1
  rw [Bool.eq_iff_iff]
  simp only [Bool.or_eq_true, beq_iff_eq]
  omega
/-- Pairs, when of the cell i the first j have been looked at. -/
def prU (L : List (Nat × Nat)) (i j : Nat) : Nat := prN qD (L.take i) + ((L.take j).filter (fun y => !freeB qD (L.getD i (0, 0)) y)).length
theorem prU_zero (L : List (Nat × Nat)) (i : Nat) : prU L i 0 = prN qD (L.take i) := by simp [prU]
theorem prU_next (L : List (Nat × Nat)) (i j : Nat) (hj : j < L.length) : prU L i (j + 1) = prU L i j + (if freeB qD (L.getD i (0, 0)) L[j] then 0 else 1) := by
  unfold prU
  rw [List.take_succ_eq_append_getElem hj, List.filter_append, List.length_append, ← Nat.add_assoc]
  congr 1
  by_cases h : freeB qD (L.getD i (0, 0)) L[j] = true
  · rw [if_pos h, List.filter_cons_of_neg (by rw [h]; decide)]
    rfl
  · rw [if_neg h, List.filter_cons_of_pos (by simpa using h)]
    rfl
theorem prU_full (L : List (Nat × Nat)) (i : Nat) (hi : i < L.length) : prU L i i = prN qD (L.take (i + 1)) := by
  rw [List.take_succ_eq_append_getElem hi, prN_snoc qD free_sym]
  unfold prU
  rw [show L.getD i (0, 0) = L[i] by simp [List.getD, hi]]
theorem prU_le (L : List (Nat × Nat)) (i j : Nat) (hL : L.length ≤ 36) : prU L i j ≤ 10000 := by
  have h1 := pairs_all qD (L.take i)
  have h2 : ((L.take j).filter (fun y => !freeB qD (L.getD i (0, 0)) y)).length ≤ 36 := Nat.le_trans (List.length_filter_le _ _) (by rw [List.length_take]; omega)
  have h3 : (L.take i).length ≤ 36 := by rw [List.length_take]; omega
  have h4 : (L.take i).length * ((L.take i).length - 1) ≤ 36 * 36 := Nat.mul_le_mul h3 (by omega)
  unfold prU
  omega
theorem pop_row (x : Int) (m : Nat) (hm : m ≤ 6) (h : 0 ≤ x ∧ x < pw m) : pop x = (((List.range m).filter (fun b => x.toNat.testBit b)).length : Int) := by
  obtain ⟨n, rfl⟩ := Int.eq_ofNat_of_zero_le h.1
  have key : ∀ m : Fin 7, ∀ n : Fin 64, ((n : Nat) : Int) < pw (m : Nat) → pop ((n : Nat) : Int) = (((List.range (m : Nat)).filter (fun b => ((n : Nat) : Int).toNat.testBit b)).length : Int) := by decide +kernel
  have h6 := (pw_bd (c := (m : Int)) (by omega)).2.1
  exact key ⟨m, by omega⟩ ⟨n, by omega⟩ h.2
theorem pcL_sumP (xs : List Int) (M : Nat → Int) (m : Nat) (hm : m ≤ 6) (hM : ∀ k, M k = xs.getD k 0) (n : Nat) (hb : ∀ k, k < n → 0 ≤ xs.getD k 0 ∧ xs.getD k 0 < pw m) : (((pcL (bt xs) n m).length : Nat) : Int) = sumP M n := by
  induction n with
  | zero => rfl
  | succ n ih =>
    have e : pcL (bt xs) (n + 1) m = pcL (bt xs) n m ++ rwP (bt xs) m n := by
      unfold pcL
      rw [List.range_succ, List.flatMap_append]
      simp
    rw [e, List.length_append, sumP, ← ih (fun k hk => hb k (by omega)), hM n, pop_row _ m hm (hb n (by omega))]
    unfold rwP
    rw [List.length_map]
    push_cast
    rfl
theorem sumP_more (M : Nat → Int) (n d : Nat) (h : ∀ k, n ≤ k → M k = 0) : sumP M (n + d) = sumP M n := by
  induction d with
  | zero => rfl
  | succ d ih =>
    rw [← Nat.add_assoc, sumP, ih, h (n + d) (by omega)]
    have : pop 0 = 0 := by decide
    omega
theorem good_count (n m : Nat) (xs : List Int) (M : Nat → Int) (hM : ∀ k, M k = xs.getD k 0) (hg : goodB n m xs = true) : sumP M 6 = (((pcL (bt xs) n m).length : Nat) : Int) := by
  obtain ⟨g1, g2, g3, g4⟩ := good_facts hg
  rw [pcL_sumP xs M m (by omega) hM n (fun k hk => g4 k (by omega))]
  have h := sumP_more M n (6 - n) (fun k hk => by rw [hM, List.getD_eq_getElem?_getD, List.getElem?_eq_none (by omega)]; rfl)
  rwa [show n + (6 - n) = 6 by omega] at h

set_option maxHeartbeats 800000 in
theorem falling36_any (x : Nat) (k : Nat) (w : World) (hx : x ≤ 36) (hk : k ≤ 2) : Calls Try.prog 121 #[.int .i64 x, .int .i64 k] w fun e w' => e = .returned (.int .i64 (fal x k)) ∧ w' = w := by
  have key : ∀ x : Fin 37, ∀ j : Fin 2, wrap64 (fal ((x : Nat) : Int) (j : Nat) * (((x : Nat) : Int) - ((j : Nat) : Int))) = fal ((x : Nat) : Int) ((j : Nat) + 1) := by decide +kernel
  have HX := Lib.hid (fun j (hj : j < 2) => key ⟨x, by omega⟩ ⟨j, hj⟩)
  clear key
  go_enter Try.func121, Try.ntmps121
  go_wp2_with fail
  go_loop [5, 6] (fun t i => ∃ j : Nat, j ≤ k ∧ i = .int .i64 j ∧ t = .int .i64 (fal x j)) (fun _ i => k - (intOf i).toNat)
  case atStart => exact ⟨0, Nat.zero_le _, rfl, rfl⟩
  case round =>
    obtain ⟨j, hj, rfl, rfl⟩ := hrel
    by_cases hlt : j < k
    · have hm := HX.out j (by omega)
      go_wp2_with fail
      go_round
      case rel => exact ⟨j + 1, by omega, by go_num, by first | rfl | rw [hm]⟩
      case measure => simp [intOf]; omega
    · obtain rfl : j = k := by omega
      go_wp2_with fail
      go_ret
      exact ⟨rfl, rfl⟩
set_option maxHeartbeats 800000 in
theorem choices36_any (n : Nat) (w : World) (hn : n ≤ 36) : Calls Try.prog 71 #[.int .i64 n, .int .i64 2] w fun e w' => e = .returned (.int .i64 (n * (n - 1) / 2 : Nat)) ∧ w' = w := by
  have HF := Lib.hid (falling36_any n 2 w hn (by omega))
  have HG := Lib.hid (factG_any 2 w (by omega))
  have key : ∀ n : Fin 37, wrap64 ((fal ((n : Nat) : Int) 2).tdiv (fct 2)) = (n.val * (n.val - 1) / 2 : Nat) ∧ (fal ((n : Nat) : Int) 2).tdiv (fct 2) = (n.val * (n.val - 1) / 2 : Nat) := by decide +kernel
  obtain ⟨h1, h2⟩ := key ⟨n, by omega⟩
  have HM := Lib.hid h1
  have HM2 := Lib.hid h2
  have hb := fctG_bd 2 (by omega)
  have h0 : (fct 2 == 0) = false := by decide
  rw [show ((2 : Nat) : Int) = 2 from rfl] at HF HG
  simp only at HM HM2
  generalize fal n 2 = u at *
  generalize fct 2 = v at *
  clear h1 h2 key
  go_enter Try.func71, Try.ntmps71
  go_wp2_with fail
  refine HF.out.mono ?_
  rintro e w' ⟨rfl, hww⟩
  subst hww
  go_wp2_with fail
  refine HG.out.mono ?_
  rintro e w' ⟨rfl, hww⟩
  subst hww
  go_wp2_with fail
  go_ret
  exact ⟨by first | exact ret_int HM.out | exact ret_int HM2.out, rfl⟩

def pairsR (r c : Int) (xs : List Int) : R1 := if goodB r c xs then ⟨(prN qD (pcL (bt xs) r.toNat c.toNat) : Nat), true⟩ else ⟨0, false⟩
set_option maxRecDepth 100000 in
set_option maxHeartbeats 6400000 in
theorem specPairs_any (r c : Int) (xs : List Int) (w : World) (hx : xs.length ≤ 1048576) (lo : Nat) (s : Value) (hO : Own w lo s xs) :
    Calls Try.prog 37 #[.agg #[.int .i64 r, .int .i64 c, s]] w fun e w' => AnsIO (pairsR r c xs) w e w' := by
  have L0 := (Law.start w).box (.int .i64 r) (.int .i64 c) s 28
  have hO0 := hO.kept L0.below
  obtain ⟨a, cap, rfl, hr⟩ := hO.reads
  have hr0 := L0.reads hr
  have HL := Lib.hid L0
  have HO := Lib.hid hO0
  clear hO L0 hr hO0
  have HG := Lib.hid (boGood_any r c a cap xs _ hx hr0)
  clear hr0
  cases hg : goodB r c xs
  · rw [show pairsR r c xs = ⟨0, false⟩ by simp [pairsR, hg]]
    rw [hg] at HG
    clear hg HO
    go_enter Try.func37, Try.ntmps37
    go_upto_region 1 with fail
    generalize w.alloc _ = w1 at *
    have ⟨_, b0, b1, b2, _⟩ := HL.out.ownBox
    go_wp2_with fail
    refine HG.out.mono ?_
    rintro e w2 ⟨rfl, hb⟩
    replace HL := Lib.hid (HL.out.kept hb)
    clear hb HG b0 b1 b2
    go_wp2_with fail
    go_ret2
    exact ⟨rfl, HL.out.below⟩
  · rw [hg] at HG
    obtain ⟨⟨g1, g2⟩, ⟨g3, g4⟩, _⟩ := good_facts hg
    obtain ⟨n, rfl⟩ := Int.eq_ofNat_of_zero_le (show 0 ≤ r by omega)
    obtain ⟨m, rfl⟩ := Int.eq_ofNat_of_zero_le (show 0 ≤ c by omega)
    rw [show pairsR n m xs = ⟨(prN qD (pcL (bt xs) n m) : Nat), true⟩ by simp [pairsR, hg]]
    have HBC := Lib.hid (fun (W : World) (h : Own W lo (.slice a xs.length cap) xs) => boCells_any n m xs W hx hg lo _ h)
    obtain ⟨L, hL⟩ : ∃ L, L = pcL (bt xs) n m := ⟨_, rfl⟩
    have hL36 : L.length ≤ 36 := by
      rw [hL]
      exact Nat.le_trans (pcL_len _ n m) (Nat.mul_le_mul (show n ≤ 6 by omega) (show m ≤ 6 by omega))
    have hcs : cellsL xs n m = L.map two := by rw [hL]; exact pcL_cells xs n m
    rw [hcs] at HBC
    have HLM := Lib.hid (fun q (hq : q < L.length) => show L[q].1 < 6 ∧ L[q].2 < 6 by
      have := (pcL_mem (bt xs) n m L[q]).1 (by rw [← hL]; exact List.getElem_mem hq)
      omega)
    have HPU := Lib.hid (fun i j => prU_le L i j hL36)
    have H36 := Lib.hid hL36
    rw [← hL]
    clear hg hcs hL g1 g2 g3 g4
    go_enter Try.func37, Try.ntmps37
    go_upto_region 1 with fail
    generalize w.alloc _ = w1 at *
    have ⟨_, b0, b1, b2, _⟩ := HL.out.ownBox
    go_wp2_with fail
    refine HG.out.mono ?_
    rintro e w2 ⟨rfl, hb⟩
    replace HL := Lib.hid (HL.out.kept hb)
    replace HO := Lib.hid (HO.out.kept hb)
    clear hb HG b0 b1 b2
    have ⟨_, b0, b1, b2, _⟩ := HL.out.ownBox
    go_wp2_with fail
    refine (HBC.out _ HO.out).mono ?_
    rintro e w3 ⟨v, vs, rfl, hM, hb⟩
    obtain ⟨av, pv, hv⟩ := ownM_shape hM
    replace HL := Lib.hid ((HL.out.addM hb hM).sub (ts' := [tM v vs (L.map two)]) (by simp))
    subst hv
    rw [List.length_map] at HL ⊢
    have hcp : L.length ≤ pv := by
      have hl := hM.len
      rw [List.length_map] at hl
      rcases hM.cases with ⟨h, h2⟩ | ⟨g, cp, h, _, _, h3, _⟩
      · rw [h2, List.length_nil] at hl
        omega
      · injection h with _ _ h4
        omega
    clear hM hb b0 b1 b2 HBC HO
    go_wp2_with fail
    go_loopw [4, 6, 7, 9, 17] (fun pn _ _ _ i wr => ∃ p : Nat, p ≤ L.length ∧ i = .int .i64 p ∧ pn = .int .i64 (prN qD (L.take p) : Nat) ∧ Law w [tM (.slice av L.length pv) vs (L.map two)] wr) (fun _ _ _ _ i _ => L.length - (intOf i).toNat)
    case atStart => exact ⟨0, Nat.zero_le _, rfl, rfl, HL.out⟩
    case round =>
      clear HL
      obtain ⟨p, hp, rfl, rfl, Lw⟩ := hrel
      have HL := Lib.hid Lw
      clear Lw
      have h36 := H36.out
      by_cases hlt : p < L.length
      · obtain ⟨⟨a0, b0⟩, hab⟩ : ∃ y, y = L[p] := ⟨_, rfl⟩
        have hcq : (L.map two)[p]'(by rw [List.length_map]; exact hlt) = [(a0 : Int), (b0 : Int)] := by rw [List.getElem_map, ← hab]; rfl
        obtain ⟨gv, cv, gx, cx, hv, hvx⟩ := two_form HL.out.ownM p (by rw [List.length_map]; exact hlt) a0 b0 hcq
        rw [List.length_map] at hv
        injection hv with hv1 hv2 hv3
        subst hv1
        subst hv3
        have HXX := Lib.hid (fun (W : World) (h : OwnM W 0 (.slice (some ⟨gv, 0, none⟩) L.length pv) vs (L.map two)) => two_at (by rw [List.length_map]; exact h) (by rw [List.length_map]; exact hlt) hcq hvx)
        obtain ⟨x0, _, _⟩ := HXX.out _ HL.out.ownM
        have hbd := HLM.out p hlt
        rw [← hab] at hbd
        have HGD := Lib.hid (show L.getD p (0, 0) = (a0, b0) by rw [List.getD_eq_getElem?_getD, List.getElem?_eq_getElem hlt, ← hab]; rfl)
        have HFUL := Lib.hid (prU_full L p hlt)
        have hp0 : (0 : Int) ≤ p := by omega
        have hp1 : (p : Int) ≤ pv := by omega
        rw [← prU_zero L p]
        clear hab hcq hvx
        go_wp2_with fail
        clear x0
        go_loopw [4, 9, 26] (fun pn _ j wr => ∃ q : Nat, q ≤ p ∧ j = .int .i64 q ∧ pn = .int .i64 (prU L p q : Nat) ∧ Law w [tM (.slice (some ⟨gv, 0, none⟩) L.length pv) vs (L.map two)] wr) (fun _ _ j _ => p - (intOf j).toNat)
        case atStart => exact ⟨0, Nat.zero_le _, rfl, rfl, HL.out⟩
        case round =>
          clear HL
          obtain ⟨q, hq, rfl, rfl, Lw⟩ := hrel
          have HL := Lib.hid Lw
          clear Lw
          by_cases hqp : q < p
          · obtain ⟨⟨a1, b1⟩, hab⟩ : ∃ y, y = L[q]'(by omega) := ⟨_, rfl⟩
            have hcq : (L.map two)[q]'(by rw [List.length_map]; omega) = [(a1 : Int), (b1 : Int)] := by rw [List.getElem_map, ← hab]; rfl
            obtain ⟨gv2, cv2, gy, cy, hv, hvy⟩ := two_form HL.out.ownM q (by rw [List.length_map]; omega) a1 b1 hcq
            rw [List.length_map] at hv
            injection hv with hv1 hv2 hv3
            injection hv1 with hv1
            injection hv1 with hv1
            subst hv1
            clear hv2 hv3
            obtain ⟨_, x1, x2⟩ := HXX.out _ HL.out.ownM
            obtain ⟨y0, y1, y2⟩ := two_at (W := wr) (cv := pv) (by rw [List.length_map]; exact HL.out.ownM) (by rw [List.length_map]; omega) hcq hvy
            have hbd2 := HLM.out q (by omega)
            rw [← hab] at hbd2
            have HNX := Lib.hid (prU_next L p q (by omega))
            rw [HGD.out, ← hab] at HNX
            have hpu := HPU.out p q
            have HDI := Lib.hid (biDisturb2_any gx cx gy cy a0 b0 a1 b1 wr (by have h1 : a0 < 6 := hbd.1; have h2 : b0 < 6 := hbd.2; omega) (by have h1 : a1 < 6 := hbd2.1; have h2 : b1 < 6 := hbd2.2; omega) x1 x2 y1 y2)
            rw [dist_free] at HDI
            generalize prU L p q = u at *
            clear x1 x2 y1 y2 hab hcq hvy hbd hbd2
            cases hf : freeB qD (a0, b0) (a1, b1)
            · rw [hf] at HDI HNX
              simp only [Bool.not_false] at HDI
              clear hf
              go_wp2_with fail
              refine HDI.out.mono ?_
              rintro e w7 ⟨rfl, nq, rfl⟩
              replace HL := Lib.hid (HL.out.kept (below_drewN (Below.refl _ _) nq))
              clear y0 HDI
              go_wp2_with fail
              go_roundw
              case rel => exact ⟨q + 1, by omega, by go_num, by rw [HNX.out]; go_num, HL.out⟩
              case measure => simp [intOf]; omega
            · rw [hf] at HDI HNX
              simp only [Bool.not_true] at HDI
              clear hf
              go_wp2_with fail
              refine HDI.out.mono ?_
              rintro e w7 ⟨rfl, nq, rfl⟩
              replace HL := Lib.hid (HL.out.kept (below_drewN (Below.refl _ _) nq))
              clear y0 HDI
              go_wp2_with fail
              go_roundw
              case rel => exact ⟨q + 1, by omega, by go_num, by rw [HNX.out]; rfl, HL.out⟩
              case measure => simp [intOf]; omega
          · obtain rfl : p = q := by omega
            rw [HFUL.out]
            go_wp2_with fail
            go_roundw
            case rel => exact ⟨p + 1, by omega, by go_num, rfl, HL.out⟩
            case measure => simp [intOf]; omega
      · obtain rfl : p = L.length := by omega
        rw [List.take_length]
        go_wp2_with fail
        go_ret2
        exact ⟨rfl, HL.out.below⟩
set_option maxRecDepth 100000 in
set_option maxHeartbeats 6400000 in
theorem implPairs_any (r c : Int) (xs : List Int) (w : World) (hx : xs.length ≤ 1048576) (lo : Nat) (s : Value) (hO : Own w lo s xs) :
    Calls Try.prog 38 #[.agg #[.int .i64 r, .int .i64 c, s]] w fun e w' => AnsIO (pairsR r c xs) w e w' := by
  have L0 := (Law.start w).box (.int .i64 r) (.int .i64 c) s 28
  obtain ⟨a, cap, rfl, hr⟩ := hO.reads
  have hr0 := L0.reads hr
  have HL := Lib.hid L0
  clear hO L0 hr
  cases hg : goodB r c xs
  · rw [show pairsR r c xs = ⟨0, false⟩ by simp [pairsR, hg]]
    have HC := Lib.hid (gridOf_no r c a cap xs _ hx hr0 hg)
    clear hr0 hg
    go_enter Try.func38, Try.ntmps38
    go_upto_region 1 with fail
    generalize w.alloc _ = w1 at *
    have ⟨_, b0, b1, b2, _⟩ := HL.out.ownBox
    go_wp2_with fail
    refine HC.out.mono ?_
    rintro e w2 ⟨rfl, hb⟩
    replace HL := Lib.hid ((HL.out.kept hb).kept (below_new (.cells #[.int .i64 0, .int .i64 0, .int .i64 0, .int .i64 0, .int .i64 0, .int .i64 0, .int .i64 0, .int .i64 0] 64)))
    clear hb HC b0 b1 b2
    go_wp2_with fail
    go_ret2
    exact ⟨rfl, HL.out.below⟩
  · have hgc := good_cell hg
    obtain ⟨⟨g1, g2⟩, ⟨g3, g4⟩, _, _⟩ := good_facts hg
    obtain ⟨n, rfl⟩ := Int.eq_ofNat_of_zero_le (show 0 ≤ r by omega)
    obtain ⟨m, rfl⟩ := Int.eq_ofNat_of_zero_le (show 0 ≤ c by omega)
    rw [show pairsR n m xs = ⟨(prN qD (pcL (bt xs) n m) : Nat), true⟩ by simp [pairsR, hg]]
    obtain ⟨M, hM, hc⟩ := gridOf_good n m a cap xs _ hx hr0 hg
    have HC := Lib.hid hc
    simp only [← hM] at hgc
    have HCT := Lib.hid (fun W => count_any n m M W (fun k _ => hgc k))
    rw [good_count n m xs M hM hg] at HCT
    have hlen : (pcL (bt xs) n m).length ≤ 36 := Nat.le_trans (pcL_len _ n m) (Nat.mul_le_mul (show n ≤ 6 by omega) (show m ≤ 6 by omega))
    have HCH := Lib.hid (fun W => choices36_any (pcL (bt xs) n m).length W hlen)
    have HQ := Lib.hid (fun W => countQuiet_any n m 69 qD queen_move (by omega) (by omega) 2 M W (by omega) (fun k _ => hgc k))
    rw [show (fun a b => (M a).toNat.testBit b) = bt xs from by funext a b; rw [hM], show ((2 : Nat) : Int) = 2 from rfl] at HQ
    have hpa := pairs_all qD (pcL (bt xs) n m)
    have hbq := Nat.mul_le_mul hlen (show (pcL (bt xs) n m).length - 1 ≤ 36 by omega)
    generalize (pcL (bt xs) n m).length = N at *
    obtain ⟨y, hy⟩ : ∃ y, y = prN qD (pcL (bt xs) n m) := ⟨_, rfl⟩
    rw [← hy] at hpa ⊢
    generalize cqN qD 2 (pcL (bt xs) n m) = z at *
    obtain ⟨u, hu⟩ : ∃ u, u = N * (N - 1) / 2 := ⟨_, rfl⟩
    rw [← hu] at HCH
    have huz : u = y + z := by omega
    have hub : u ≤ 648 := by omega
    have hsub : IntKind.i64.wrap ((u : Int) - z) = (y : Nat) := by rw [show (u : Int) - z = (y : Nat) by omega]; exact IntWalk.i64_in _ (by omega)
    clear hg hgc hc hr0 hM hpa hbq hu huz hub hy hlen
    go_enter Try.func38, Try.ntmps38
    go_upto_region 1 with fail
    generalize w.alloc _ = w1 at *
    have ⟨_, b0, b1, b2, _⟩ := HL.out.ownBox
    go_wp2_with fail
    refine HC.out.mono ?_
    rintro e w2 ⟨rfl, hb⟩
    replace HL := Lib.hid ((HL.out.kept hb).has (gl n m M) 64)
    rw [show w2.alloc (.cells (gl n m M).toArray 64) = w2.alloc (.cells #[.int .i64 n, .int .i64 m, .int .i64 (M 0), .int .i64 (M 1), .int .i64 (M 2), .int .i64 (M 3), .int .i64 (M 4), .int .i64 (M 5)] 64) from rfl] at HL
    clear hb HC b0 b1 b2
    go_upto_region 2 with fail
    generalize w2.alloc _ = w3 at *
    replace HL := Lib.hid HL.out.drew
    obtain ⟨e0, e1, e2, e3, e4, e5, e6, e7, _⟩ := HL.out.ownHas.eight
    go_wp2_with fail
    go_region_held3 (fun w' => w'.cell? ⟨w2.heap.size, 0, none⟩ = some (.int .i64 n) ∧ w'.cell? ⟨w2.heap.size, 1, none⟩ = some (.int .i64 m) ∧ w'.cell? ⟨w2.heap.size, 2, none⟩ = some (.int .i64 (M 0)) ∧ w'.cell? ⟨w2.heap.size, 3, none⟩ = some (.int .i64 (M 1)) ∧ w'.cell? ⟨w2.heap.size, 4, none⟩ = some (.int .i64 (M 2)) ∧ w'.cell? ⟨w2.heap.size, 5, none⟩ = some (.int .i64 (M 3)) ∧ w'.cell? ⟨w2.heap.size, 6, none⟩ = some (.int .i64 (M 4)) ∧ w'.cell? ⟨w2.heap.size, 7, none⟩ = some (.int .i64 (M 5))) (exact ⟨e0, e1, e2, e3, e4, e5, e6, e7⟩) ((first
      | (go_at_call 72; ((with_reducible refine (HCT.out _).mono ?_); rintro r wA ⟨rfl, hb⟩; replace HL := Lib.hid (HL.out.kept hb); replace e0 := cell_later hb e0; replace e1 := cell_later hb e1; replace e2 := cell_later hb e2; replace e3 := cell_later hb e3; replace e4 := cell_later hb e4; replace e5 := cell_later hb e5; replace e6 := cell_later hb e6; replace e7 := cell_later hb e7; clear hb))
      | (go_at_call 71; ((with_reducible refine (HCH.out _).mono ?_); rintro r wA ⟨rfl, hw⟩; subst hw))
      | (go_at_call 68; ((with_reducible refine (HQ.out _).mono ?_); rintro r wA ⟨rfl, hb⟩; replace HL := Lib.hid (HL.out.kept hb); replace e0 := cell_later hb e0; replace e1 := cell_later hb e1; replace e2 := cell_later hb e2; replace e3 := cell_later hb e3; replace e4 := cell_later hb e4; replace e5 := cell_later hb e5; replace e6 := cell_later hb e6; replace e7 := cell_later hb e7; clear hb))
      | fail))
    all_goals
      clear e0 e1 e2 e3 e4 e5 e6 e7
      go_wp2_with fail
      go_ret2
      exact ⟨rfl, HL.out.below⟩

end Go.Proofs.Ytakdiiccdkjjcab
