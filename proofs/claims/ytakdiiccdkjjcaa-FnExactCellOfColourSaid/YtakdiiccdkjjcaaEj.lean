/- The place on two lines of a colour board, in both texts. No condition but the sizes. -/
import Derived.Test.YtakdiiccdkjjcaaEi
namespace Go.Proofs.Ytakdiiccdkjjcaa
open Go.RowKit Go.WideShapes

def cellQ (n m k : Nat) (i j : Int) : R3 := if insB (lnI n m k : Nat) (lnI n m (fdI m k) : Nat) i j && insB n m (plR m k i.toNat j.toNat) (plC m k i.toNat j.toNat) then ⟨plR m k i.toNat j.toNat, plC m k i.toNat j.toNat, true⟩ else ⟨0, 0, false⟩
def cellR (r c : Int) (xs : List Int) (k i j : Int) : R3 := if goodB r c xs && inB 0 k 1 then cellQ r.toNat c.toNat k.toNat i j else ⟨0, 0, false⟩
theorem pl_two (m k i j : Nat) (hm1 : 1 ≤ m) (hm : m ≤ 6) (hk : k < 2) (hi : i < 6) (hj : j < 6) : (k : Int) + 2 * i + ((fdI m k : Nat) + 2 * j) - m + 1 = 2 * plR m k i j := by
  have key : ∀ m : Fin 7, ∀ k : Fin 2, ∀ i j : Fin 6, 1 ≤ m.val → ((k.val : Nat) : Int) + 2 * (i.val : Nat) + ((fdI m k : Nat) + 2 * ((j.val : Nat) : Int)) - (m.val : Nat) + 1 = 2 * plR m k i j := by decide +kernel
  exact key ⟨m, by omega⟩ ⟨k, hk⟩ ⟨i, hi⟩ ⟨j, hj⟩ hm1

set_option maxRecDepth 100000 in
set_option maxHeartbeats 6400000 in
theorem biCell_any (n m : Nat) (s : Value) (k : Nat) (i j : Int) (w : World) (hn1 : 1 ≤ n) (hn : n ≤ 6) (hm1 : 1 ≤ m) (hm : m ≤ 6) (hk : k < 2) (hs : ∃ a l c, s = .slice a l c) :
    Calls Try.prog 64 #[.agg #[.int .i64 n, .int .i64 m, s], .int .i64 k, .int .i64 i, .int .i64 j] w fun e w' => AnsIIO (cellQ n m k i j) w e w' := by
  have HLI := Lib.hid (fun W => biLines_any n m s k W hn hm hk hs)
  rw [lin_end n m k hn1 hn hm1 hm hk] at HLI
  have L0 := (Law.start w).box (.int .i64 n) (.int .i64 m) s 28
  obtain ⟨sa, sl, sc, rfl⟩ := hs
  have HL := Lib.hid L0
  clear L0
  have hl1 := ln_le n m k hn hm
  have hl2 := ln_le n m (fdI m k) hn hm
  have HC1 := Lib.hid (fun W => l1In_any i 0 ((lnI n m k : Nat) - 1) W)
  have HC2 := Lib.hid (fun W => l1In_any j 0 ((lnI n m (fdI m k) : Nat) - 1) W)
  by_cases h1 : 0 ≤ i ∧ i ≤ (lnI n m k : Nat) - 1
  · rw [inB_yes h1.1 h1.2] at HC1
    by_cases h2 : 0 ≤ j ∧ j ≤ (lnI n m (fdI m k) : Nat) - 1
    · rw [inB_yes h2.1 h2.2] at HC2
      obtain ⟨p, rfl⟩ := Int.eq_ofNat_of_zero_le h1.1
      obtain ⟨q, rfl⟩ := Int.eq_ofNat_of_zero_le h2.1
      have hp6 : p < lnI n m k := by omega
      have hq6 : q < lnI n m (fdI m k) := by omega
      have HT := Lib.hid (pl_two m k p q hm1 hm hk (by omega) (by omega))
      have HPC := Lib.hid (show (k : Int) + 2 * p - plR m k p q = plC m k p q by unfold plC; push_cast; rfl)
      have hpb := pl_bd m k p q hm hk (by omega) (by omega)
      have HQ : cellQ n m k p q = if insB n m (plR m k p q) (plC m k p q) then ⟨plR m k p q, plC m k p q, true⟩ else ⟨0, 0, false⟩ := by
        unfold cellQ
        rw [insB_iff.2 ⟨h1.1, by omega, h2.1, by omega⟩]
        simp
      rw [HQ]
      clear HQ h1 h2
      have HG1 := Lib.hid (arL_get k _ p hp6)
      have HG2 := Lib.hid (arL_get (fdI m k) _ q hq6)
      have HN1 := Lib.hid (arL_len k (lnI n m k))
      have HN2 := Lib.hid (arL_len (fdI m k) (lnI n m (fdI m k)))
      have hfd := fd_le m k
      generalize plR m k p q = R at *
      generalize plC m k p q = C at *
      generalize lnI n m (fdI m k) = c2 at *
      generalize lnI n m k = c1 at *
      generalize fdI m k = f at *
      have hpc2 : (k : Int) + 2 * p - R = C := HPC.out
      have hdv : ((2 : Int) * R).tdiv 2 = R := Int.mul_tdiv_cancel_left R (by decide)
      have HI1 := Lib.hid (fun W => l1In_any R 0 ((n : Int) - 1) W)
      have HI2 := Lib.hid (fun W => l1In_any C 0 ((m : Int) - 1) W)
      obtain ⟨⟨r1, r2⟩, ⟨r3, r4⟩⟩ := hpb
      by_cases hR : R < 0
      · skip
        rw [show insB n m R C = false from insB_no (by omega)]
        rw [if_neg (by decide)]
        go_enter Try.func64, Try.ntmps64
        go_upto_region 1 with fail
        generalize w.alloc _ = w1 at *
        have ⟨_, b0, b1, b2, _⟩ := HL.out.ownBox
        go_wp2_with fail
        refine (HLI.out _).mono ?_
        rintro e w2 ⟨v1, v2, rfl, hLN⟩
        replace HL := Lib.hid (HL.out.kept hLN.below)
        have hO1 := hLN.tl.ownLo
        have hO2 := hLN.ownLo
        clear b0 b1 b2 hLN HLI
        obtain ⟨g1, d1, hv1⟩ : ∃ g1 d1, v1 = .slice (some ⟨g1, 0, none⟩) c1 d1 := by
          rcases hO1.cases with ⟨_, h⟩ | ⟨g, cap, h, _⟩
          · have := HN1.out; rw [h] at this; simp at this; omega
          · exact ⟨g, cap, by rw [h, HN1.out]⟩
        obtain ⟨g2, d2, hv2⟩ : ∃ g2 d2, v2 = .slice (some ⟨g2, 0, none⟩) c2 d2 := by
          rcases hO2.cases with ⟨_, h⟩ | ⟨g, cap, h, _⟩
          · have := HN2.out; rw [h] at this; simp at this; omega
          · exact ⟨g, cap, by rw [h, HN2.out]⟩
        subst hv1 hv2
        have y1 := Own.cell (by rw [HN1.out]; exact hO1) p (by rw [HN1.out]; exact hp6)
        have y2 := Own.cell (by rw [HN2.out]; exact hO2) q (by rw [HN2.out]; exact hq6)
        rw [HG1.out] at y1
        rw [HG2.out] at y2
        push_cast at y1 y2
        clear hO1 hO2
        go_wp2_with fail
        refine (HC1.out _).mono ?_
        rintro e w3 ⟨rfl, hw⟩
        subst hw
        go_wp2_with fail
        refine (HC2.out _).mono ?_
        rintro e w3 ⟨rfl, hw⟩
        subst hw
        replace HL := Lib.hid HL.out.drew
        have y1 := cell_later (Below.refl _ _).drew y1
        have y2 := cell_later (Below.refl _ _).drew y2
        have ⟨_, b0, b1, b2, _⟩ := HL.out.ownBox
        have hp0 : (0 : Int) ≤ p := by omega
        have hp1 : (p : Int) < c1 := by omega
        have hq0 : (0 : Int) ≤ q := by omega
        have hq1 : (q : Int) < c2 := by omega
        go_wp2_with fail
        go_region
        rw [HT.out]
        clear y2 hq0 hq1
        have hw1 : wrap64 C = C := IntWalk.wrap64_in _ (by omega)
        have h2R : (2 : Int) * R < 0 := by omega
        go_wp2_with fail
        exact bodyPost_ret (v := .tuple #[.int .i64 0, .int .i64 0, .bool false]) (by simp [results, Try.results64, go_sem]) rfl ⟨rfl, HL.out.below⟩
      · by_cases hRn : R ≤ (n : Int) - 1
        · rw [inB_yes (by omega) hRn] at HI1
          by_cases hC : 0 ≤ C ∧ C ≤ (m : Int) - 1
          · rw [inB_yes hC.1 hC.2] at HI2
            rw [insB_iff.2 (by omega), if_pos rfl]
            go_enter Try.func64, Try.ntmps64
            go_upto_region 1 with fail
            generalize w.alloc _ = w1 at *
            have ⟨_, b0, b1, b2, _⟩ := HL.out.ownBox
            go_wp2_with fail
            refine (HLI.out _).mono ?_
            rintro e w2 ⟨v1, v2, rfl, hLN⟩
            replace HL := Lib.hid (HL.out.kept hLN.below)
            have hO1 := hLN.tl.ownLo
            have hO2 := hLN.ownLo
            clear b0 b1 b2 hLN HLI
            obtain ⟨g1, d1, hv1⟩ : ∃ g1 d1, v1 = .slice (some ⟨g1, 0, none⟩) c1 d1 := by
              rcases hO1.cases with ⟨_, h⟩ | ⟨g, cap, h, _⟩
              · have := HN1.out; rw [h] at this; simp at this; omega
              · exact ⟨g, cap, by rw [h, HN1.out]⟩
            obtain ⟨g2, d2, hv2⟩ : ∃ g2 d2, v2 = .slice (some ⟨g2, 0, none⟩) c2 d2 := by
              rcases hO2.cases with ⟨_, h⟩ | ⟨g, cap, h, _⟩
              · have := HN2.out; rw [h] at this; simp at this; omega
              · exact ⟨g, cap, by rw [h, HN2.out]⟩
            subst hv1 hv2
            have y1 := Own.cell (by rw [HN1.out]; exact hO1) p (by rw [HN1.out]; exact hp6)
            have y2 := Own.cell (by rw [HN2.out]; exact hO2) q (by rw [HN2.out]; exact hq6)
            rw [HG1.out] at y1
            rw [HG2.out] at y2
            push_cast at y1 y2
            clear hO1 hO2
            go_wp2_with fail
            refine (HC1.out _).mono ?_
            rintro e w3 ⟨rfl, hw⟩
            subst hw
            go_wp2_with fail
            refine (HC2.out _).mono ?_
            rintro e w3 ⟨rfl, hw⟩
            subst hw
            replace HL := Lib.hid HL.out.drew
            have y1 := cell_later (Below.refl _ _).drew y1
            have y2 := cell_later (Below.refl _ _).drew y2
            have ⟨_, b0, b1, b2, _⟩ := HL.out.ownBox
            have hp0 : (0 : Int) ≤ p := by omega
            have hp1 : (p : Int) < c1 := by omega
            have hq0 : (0 : Int) ≤ q := by omega
            have hq1 : (q : Int) < c2 := by omega
            go_wp2_with fail
            go_region
            rw [HT.out]
            clear y2 hq0 hq1
            have hw1 : wrap64 C = C := IntWalk.wrap64_in _ (by omega)
            have h2R : (0 : Int) ≤ 2 * R := by omega
            go_wp2_with fail
            refine (HI1.out _).mono ?_
            rintro e w9 ⟨rfl, hw⟩
            subst hw
            go_wp2_with fail
            refine (HI2.out _).mono ?_
            rintro e w9 ⟨rfl, hw⟩
            subst hw
            go_wp2_with fail
            exact bodyPost_ret (v := .tuple #[.int .i64 R, .int .i64 C, .bool true]) (by simp [results, Try.results64, go_sem]) rfl ⟨rfl, HL.out.below⟩
          · rw [inB_no hC] at HI2
            rw [show insB n m R C = false from insB_no (by omega), if_neg (by decide)]
            go_enter Try.func64, Try.ntmps64
            go_upto_region 1 with fail
            generalize w.alloc _ = w1 at *
            have ⟨_, b0, b1, b2, _⟩ := HL.out.ownBox
            go_wp2_with fail
            refine (HLI.out _).mono ?_
            rintro e w2 ⟨v1, v2, rfl, hLN⟩
            replace HL := Lib.hid (HL.out.kept hLN.below)
            have hO1 := hLN.tl.ownLo
            have hO2 := hLN.ownLo
            clear b0 b1 b2 hLN HLI
            obtain ⟨g1, d1, hv1⟩ : ∃ g1 d1, v1 = .slice (some ⟨g1, 0, none⟩) c1 d1 := by
              rcases hO1.cases with ⟨_, h⟩ | ⟨g, cap, h, _⟩
              · have := HN1.out; rw [h] at this; simp at this; omega
              · exact ⟨g, cap, by rw [h, HN1.out]⟩
            obtain ⟨g2, d2, hv2⟩ : ∃ g2 d2, v2 = .slice (some ⟨g2, 0, none⟩) c2 d2 := by
              rcases hO2.cases with ⟨_, h⟩ | ⟨g, cap, h, _⟩
              · have := HN2.out; rw [h] at this; simp at this; omega
              · exact ⟨g, cap, by rw [h, HN2.out]⟩
            subst hv1 hv2
            have y1 := Own.cell (by rw [HN1.out]; exact hO1) p (by rw [HN1.out]; exact hp6)
            have y2 := Own.cell (by rw [HN2.out]; exact hO2) q (by rw [HN2.out]; exact hq6)
            rw [HG1.out] at y1
            rw [HG2.out] at y2
            push_cast at y1 y2
            clear hO1 hO2
            go_wp2_with fail
            refine (HC1.out _).mono ?_
            rintro e w3 ⟨rfl, hw⟩
            subst hw
            go_wp2_with fail
            refine (HC2.out _).mono ?_
            rintro e w3 ⟨rfl, hw⟩
            subst hw
            replace HL := Lib.hid HL.out.drew
            have y1 := cell_later (Below.refl _ _).drew y1
            have y2 := cell_later (Below.refl _ _).drew y2
            have ⟨_, b0, b1, b2, _⟩ := HL.out.ownBox
            have hp0 : (0 : Int) ≤ p := by omega
            have hp1 : (p : Int) < c1 := by omega
            have hq0 : (0 : Int) ≤ q := by omega
            have hq1 : (q : Int) < c2 := by omega
            go_wp2_with fail
            go_region
            rw [HT.out]
            clear y2 hq0 hq1
            have hw1 : wrap64 C = C := IntWalk.wrap64_in _ (by omega)
            have h2R : (0 : Int) ≤ 2 * R := by omega
            go_wp2_with fail
            refine (HI1.out _).mono ?_
            rintro e w9 ⟨rfl, hw⟩
            subst hw
            go_wp2_with fail
            refine (HI2.out _).mono ?_
            rintro e w9 ⟨rfl, hw⟩
            subst hw
            go_wp2_with fail
            exact bodyPost_ret (v := .tuple #[.int .i64 0, .int .i64 0, .bool false]) (by simp [results, Try.results64, go_sem]) rfl ⟨rfl, HL.out.below⟩
        · rw [inB_no (by omega)] at HI1
          rw [show insB n m R C = false from insB_no (by omega), if_neg (by decide)]
          go_enter Try.func64, Try.ntmps64
          go_upto_region 1 with fail
          generalize w.alloc _ = w1 at *
          have ⟨_, b0, b1, b2, _⟩ := HL.out.ownBox
          go_wp2_with fail
          refine (HLI.out _).mono ?_
          rintro e w2 ⟨v1, v2, rfl, hLN⟩
          replace HL := Lib.hid (HL.out.kept hLN.below)
          have hO1 := hLN.tl.ownLo
          have hO2 := hLN.ownLo
          clear b0 b1 b2 hLN HLI
          obtain ⟨g1, d1, hv1⟩ : ∃ g1 d1, v1 = .slice (some ⟨g1, 0, none⟩) c1 d1 := by
            rcases hO1.cases with ⟨_, h⟩ | ⟨g, cap, h, _⟩
            · have := HN1.out; rw [h] at this; simp at this; omega
            · exact ⟨g, cap, by rw [h, HN1.out]⟩
          obtain ⟨g2, d2, hv2⟩ : ∃ g2 d2, v2 = .slice (some ⟨g2, 0, none⟩) c2 d2 := by
            rcases hO2.cases with ⟨_, h⟩ | ⟨g, cap, h, _⟩
            · have := HN2.out; rw [h] at this; simp at this; omega
            · exact ⟨g, cap, by rw [h, HN2.out]⟩
          subst hv1 hv2
          have y1 := Own.cell (by rw [HN1.out]; exact hO1) p (by rw [HN1.out]; exact hp6)
          have y2 := Own.cell (by rw [HN2.out]; exact hO2) q (by rw [HN2.out]; exact hq6)
          rw [HG1.out] at y1
          rw [HG2.out] at y2
          push_cast at y1 y2
          clear hO1 hO2
          go_wp2_with fail
          refine (HC1.out _).mono ?_
          rintro e w3 ⟨rfl, hw⟩
          subst hw
          go_wp2_with fail
          refine (HC2.out _).mono ?_
          rintro e w3 ⟨rfl, hw⟩
          subst hw
          replace HL := Lib.hid HL.out.drew
          have y1 := cell_later (Below.refl _ _).drew y1
          have y2 := cell_later (Below.refl _ _).drew y2
          have ⟨_, b0, b1, b2, _⟩ := HL.out.ownBox
          have hp0 : (0 : Int) ≤ p := by omega
          have hp1 : (p : Int) < c1 := by omega
          have hq0 : (0 : Int) ≤ q := by omega
          have hq1 : (q : Int) < c2 := by omega
          go_wp2_with fail
          go_region
          rw [HT.out]
          clear y2 hq0 hq1
          have hw1 : wrap64 C = C := IntWalk.wrap64_in _ (by omega)
          have h2R : (0 : Int) ≤ 2 * R := by omega
          go_wp2_with fail
          refine (HI1.out _).mono ?_
          rintro e w9 ⟨rfl, hw⟩
          subst hw
          go_wp2_with fail
          exact bodyPost_ret (v := .tuple #[.int .i64 0, .int .i64 0, .bool false]) (by simp [results, Try.results64, go_sem]) rfl ⟨rfl, HL.out.below⟩
    · rw [inB_no h2] at HC2
      have HQ : cellQ n m k i j = ⟨0, 0, false⟩ := by
        unfold cellQ
        rw [insB_no (by omega)]
        simp
      rw [HQ]
      clear HQ
      have HN1 := Lib.hid (arL_len k (lnI n m k))
      have HN2 := Lib.hid (arL_len (fdI m k) (lnI n m (fdI m k)))
      generalize lnI n m (fdI m k) = c2 at *
      generalize lnI n m k = c1 at *
      generalize fdI m k = f at *
      go_enter Try.func64, Try.ntmps64
      go_upto_region 1 with fail
      generalize w.alloc _ = w1 at *
      have ⟨_, b0, b1, b2, _⟩ := HL.out.ownBox
      go_wp2_with fail
      refine (HLI.out _).mono ?_
      rintro e w2 ⟨v1, v2, rfl, hLN⟩
      replace HL := Lib.hid (HL.out.kept hLN.below)
      have hO1 := hLN.tl.ownLo
      have hO2 := hLN.ownLo
      clear b0 b1 b2 hLN HLI
      obtain ⟨a1, d1, hv1⟩ : ∃ a1 d1, v1 = .slice a1 c1 d1 := by
        obtain ⟨x, y, h, _⟩ := hO1.reads
        exact ⟨x, y, by rw [h, HN1.out]⟩
      obtain ⟨a2, d2, hv2⟩ : ∃ a2 d2, v2 = .slice a2 c2 d2 := by
        obtain ⟨x, y, h, _⟩ := hO2.reads
        exact ⟨x, y, by rw [h, HN2.out]⟩
      subst hv1 hv2
      clear hO1 hO2
      go_wp2_with fail
      refine (HC1.out _).mono ?_
      rintro e w3 ⟨rfl, hw⟩
      subst hw
      go_wp2_with fail
      refine (HC2.out _).mono ?_
      rintro e w3 ⟨rfl, hw⟩
      subst hw
      go_wp2_with fail
      exact bodyPost_ret (v := .tuple #[.int .i64 0, .int .i64 0, .bool false]) (by simp [results, Try.results64, go_sem]) rfl ⟨rfl, HL.out.below⟩
  · rw [inB_no h1] at HC1
    have HQ : cellQ n m k i j = ⟨0, 0, false⟩ := by
      unfold cellQ
      rw [insB_no (by omega)]
      simp
    rw [HQ]
    clear HQ
    have HN1 := Lib.hid (arL_len k (lnI n m k))
    have HN2 := Lib.hid (arL_len (fdI m k) (lnI n m (fdI m k)))
    generalize lnI n m (fdI m k) = c2 at *
    generalize lnI n m k = c1 at *
    generalize fdI m k = f at *
    go_enter Try.func64, Try.ntmps64
    go_upto_region 1 with fail
    generalize w.alloc _ = w1 at *
    have ⟨_, b0, b1, b2, _⟩ := HL.out.ownBox
    go_wp2_with fail
    refine (HLI.out _).mono ?_
    rintro e w2 ⟨v1, v2, rfl, hLN⟩
    replace HL := Lib.hid (HL.out.kept hLN.below)
    have hO1 := hLN.tl.ownLo
    have hO2 := hLN.ownLo
    clear b0 b1 b2 hLN HLI
    obtain ⟨a1, d1, hv1⟩ : ∃ a1 d1, v1 = .slice a1 c1 d1 := by
      obtain ⟨x, y, h, _⟩ := hO1.reads
      exact ⟨x, y, by rw [h, HN1.out]⟩
    obtain ⟨a2, d2, hv2⟩ : ∃ a2 d2, v2 = .slice a2 c2 d2 := by
      obtain ⟨x, y, h, _⟩ := hO2.reads
      exact ⟨x, y, by rw [h, HN2.out]⟩
    subst hv1 hv2
    clear hO1 hO2
    go_wp2_with fail
    refine (HC1.out _).mono ?_
    rintro e w3 ⟨rfl, hw⟩
    subst hw
    go_wp2_with fail
    exact bodyPost_ret (v := .tuple #[.int .i64 0, .int .i64 0, .bool false]) (by simp [results, Try.results64, go_sem]) rfl ⟨rfl, HL.out.below⟩

end Go.Proofs.Ytakdiiccdkjjcaa
