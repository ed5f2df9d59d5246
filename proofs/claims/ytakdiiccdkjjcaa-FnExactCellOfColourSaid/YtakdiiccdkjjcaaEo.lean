/- The place on two lines of a colour board, in both texts: the functions. No condition but the sizes. -/
import Derived.Test.YtakdiiccdkjjcaaEj
namespace Go.Proofs.Ytakdiiccdkjjcaa
open Go.RowKit Go.WideShapes

theorem cellR_bad (r c : Int) (xs : List Int) (k i j : Int) (h : colOk r c xs k = false) : cellR r c xs k i j = ⟨0, 0, false⟩ := by
  unfold cellR
  unfold colOk at h
  by_cases h1 : (goodB r c xs && inB 0 k 1) = true
  · rw [if_pos h1]
    rw [Bool.and_eq_true] at h1
    rw [h1.1, h1.2] at h
    have h2 : ¬ 0 < lnI r.toNat c.toNat k.toNat := by simpa using h
    unfold cellQ
    rw [insB_no (by omega)]
    simp
  · rw [if_neg h1]
set_option maxRecDepth 100000 in
set_option maxHeartbeats 6400000 in
theorem specCell_any (r c : Int) (xs : List Int) (k i j : Int) (w : World) (hx : xs.length ≤ 1048576) (lo : Nat) (s : Value) (hO : Own w lo s xs) :
    Calls Try.prog 24 #[.agg #[.int .i64 r, .int .i64 c, s], .int .i64 k, .int .i64 i, .int .i64 j] w fun e w' => AnsIIO (cellR r c xs k i j) w e w' := by
  have L0 := (Law.start w).box (.int .i64 r) (.int .i64 c) s 28
  obtain ⟨a, cap, rfl, hr⟩ := hO.reads
  have hr0 := L0.reads hr
  have HL := Lib.hid L0
  clear hO L0 hr
  have HG := Lib.hid (boGood_any r c a cap xs _ hx hr0)
  have HCO := Lib.hid (fun W => biColour_any k W)
  clear hr0
  cases hg : goodB r c xs
  · rw [show cellR r c xs k i j = ⟨0, 0, false⟩ by simp [cellR, hg]]
    rw [hg] at HG
    clear hg
    go_enter Try.func24, Try.ntmps24
    go_upto_region 1 with fail
    generalize w.alloc _ = w1 at *
    have ⟨_, b0, b1, b2, _⟩ := HL.out.ownBox
    go_wp2_with fail
    refine HG.out.mono ?_
    rintro e w2 ⟨rfl, hb⟩
    replace HL := Lib.hid (HL.out.kept hb)
    clear hb HG b0 b1 b2
    go_wp2_with fail
    exact bodyPost_ret (v := .tuple #[.int .i64 0, .int .i64 0, .bool false]) (by simp [results, Try.results24, go_sem]) rfl ⟨rfl, HL.out.below⟩
  · rw [hg] at HG
    by_cases hk : 0 ≤ k ∧ k ≤ 1
    · rw [show cellR r c xs k i j = cellQ r.toNat c.toNat k.toNat i j by simp [cellR, hg, inB_yes hk.1 hk.2]]
      rw [inB_yes hk.1 hk.2] at HCO
      obtain ⟨g1, g2, _⟩ := good_facts hg
      obtain ⟨n, rfl⟩ := Int.eq_ofNat_of_zero_le (show 0 ≤ r by omega)
      obtain ⟨m, rfl⟩ := Int.eq_ofNat_of_zero_le (show 0 ≤ c by omega)
      obtain ⟨q, rfl⟩ := Int.eq_ofNat_of_zero_le hk.1
      rw [show ((n : Nat) : Int).toNat = n from rfl, show ((m : Nat) : Int).toNat = m from rfl, show ((q : Nat) : Int).toNat = q from rfl]
      have HB := Lib.hid (fun W => biCell_any n m (.slice a xs.length cap) q i j W (by omega) (by omega) (by omega) (by omega) (by omega) ⟨_, _, _, rfl⟩)
      clear hg hk
      obtain ⟨R, hR⟩ : ∃ R, R = cellQ n m q i j := ⟨_, rfl⟩
      rw [← hR] at HB ⊢
      clear hR
      go_enter Try.func24, Try.ntmps24
      go_upto_region 1 with fail
      generalize w.alloc _ = w1 at *
      have ⟨_, b0, b1, b2, _⟩ := HL.out.ownBox
      go_wp2_with fail
      refine HG.out.mono ?_
      rintro e w2 ⟨rfl, hb⟩
      replace HL := Lib.hid (HL.out.kept hb)
      clear hb HG b0 b1 b2
      go_wp2_with fail
      refine (HCO.out _).mono ?_
      rintro e w3 ⟨rfl, hw⟩
      subst hw
      have ⟨_, b0, b1, b2, _⟩ := HL.out.ownBox
      go_wp2_with fail
      refine (HB.out _).mono ?_
      rintro e w4 ⟨rfl, hb⟩
      replace HL := Lib.hid (HL.out.kept hb)
      clear hb b0 b1 b2
      go_wp2_with fail
      exact bodyPost_ret (v := .tuple #[.int .i64 R.y0, .int .i64 R.y1, .bool R.ok]) (by simp [results, Try.results24, go_sem]) rfl ⟨rfl, HL.out.below⟩
    · rw [show cellR r c xs k i j = ⟨0, 0, false⟩ by simp [cellR, inB_no hk]]
      rw [inB_no hk] at HCO
      clear hg hk
      go_enter Try.func24, Try.ntmps24
      go_upto_region 1 with fail
      generalize w.alloc _ = w1 at *
      have ⟨_, b0, b1, b2, _⟩ := HL.out.ownBox
      go_wp2_with fail
      refine HG.out.mono ?_
      rintro e w2 ⟨rfl, hb⟩
      replace HL := Lib.hid (HL.out.kept hb)
      clear hb HG b0 b1 b2
      go_wp2_with fail
      refine (HCO.out _).mono ?_
      rintro e w3 ⟨rfl, hw⟩
      subst hw
      go_wp2_with fail
      exact bodyPost_ret (v := .tuple #[.int .i64 0, .int .i64 0, .bool false]) (by simp [results, Try.results24, go_sem]) rfl ⟨rfl, HL.out.below⟩
set_option maxRecDepth 100000 in
set_option maxHeartbeats 6400000 in
theorem implCell_any (r c : Int) (xs : List Int) (k i j : Int) (w : World) (hx : xs.length ≤ 1048576) (lo : Nat) (s : Value) (hO : Own w lo s xs) :
    Calls Try.prog 25 #[.agg #[.int .i64 r, .int .i64 c, s], .int .i64 k, .int .i64 i, .int .i64 j] w fun e w' => AnsIIO (cellR r c xs k i j) w e w' := by
  have L0 := (Law.start w).box (.int .i64 r) (.int .i64 c) s 28
  obtain ⟨a, cap, rfl, hr⟩ := hO.reads
  have hr0 := L0.reads hr
  have HL := Lib.hid L0
  clear hO L0 hr
  cases ho : colOk r c xs k
  · rw [cellR_bad r c xs k i j ho]
    obtain ⟨r0, c0, M0, k0, hc⟩ := turnedOf_no r c a cap xs k _ hx hr0 ho
    have HC := Lib.hid hc
    clear hc hr0 ho
    go_enter Try.func25, Try.ntmps25
    go_upto_region 1 with fail
    generalize w.alloc _ = w1 at *
    have ⟨_, b0, b1, b2, _⟩ := HL.out.ownBox
    go_wp2_with fail
    refine HC.out.mono ?_
    rintro e w2 ⟨rfl, hb⟩
    replace HL := Lib.hid ((HL.out.kept hb).has (tl9 r0 c0 M0 k0) 73)
    rw [show w2.alloc (.cells (tl9 r0 c0 M0 k0).toArray 73) = w2.alloc (.cells #[.int .i64 r0, .int .i64 c0, .int .i64 (M0 0), .int .i64 (M0 1), .int .i64 (M0 2), .int .i64 (M0 3), .int .i64 (M0 4), .int .i64 (M0 5), .int .i64 k0] 73) from rfl] at HL
    clear hb HC b0 b1 b2
    go_upto_region 2 with fail
    generalize w2.alloc _ = w3 at *
    go_wp2_with fail
    exact bodyPost_ret (v := .tuple #[.int .i64 0, .int .i64 0, .bool false]) (by simp [results, Try.results25, go_sem]) rfl ⟨rfl, HL.out.below⟩
  · obtain ⟨n, m, q, rfl, rfl, rfl, n1, n6, m1, m6, q2, _, hg⟩ := colOk_yes ho
    rw [show cellR n m xs q i j = cellQ n m q i j by simp [cellR, hg, inB_yes (show (0 : Int) ≤ q by omega) (show (q : Int) ≤ 1 by omega)]]
    have hgc := good_cell hg
    obtain ⟨M, hM⟩ : ∃ M : Nat → Int, ∀ k, M k = xs.getD k 0 := ⟨_, fun _ => rfl⟩
    have HC := Lib.hid (turnedOf_yes n m a cap xs q _ hx hr0 hg q2 (by assumption) M hM)
    simp only [← hM] at hgc
    have HCG := Lib.hid (fun W => colourGrid_any n m M q W n1 n6 m1 m6 q2 (fun k _ => hgc k))
    have HI1 := Lib.hid (fun W => inside_any (lnI n m q : Nat) (lnI n m (fdI m q) : Nat) i j (colM n m q (fun a b => (M a).toNat.testBit b)) W)
    have hl1 := ln_le n m q n6 m6
    have hl2 := ln_le n m (fdI m q) n6 m6
    unfold cellQ
    cases h1 : insB (lnI n m q : Nat) (lnI n m (fdI m q) : Nat) i j
    · rw [Bool.false_and, if_neg (by decide)]
      rw [h1] at HI1
      clear h1 hM hgc hr0 hg ho
      generalize colM n m q (fun a b => (M a).toNat.testBit b) = CM at *
      generalize lnI n m (fdI m q) = c2 at *
      generalize lnI n m q = c1 at *
      go_enter Try.func25, Try.ntmps25
      go_upto_region 1 with fail
      generalize w.alloc _ = w1 at *
      have ⟨_, b0, b1, b2, _⟩ := HL.out.ownBox
      go_wp2_with fail
      refine HC.out.mono ?_
      rintro e w2 ⟨rfl, hb⟩
      replace HL := Lib.hid ((HL.out.kept hb).has (tl9 n m M q) 73)
      rw [show w2.alloc (.cells (tl9 n m M q).toArray 73) = w2.alloc (.cells #[.int .i64 n, .int .i64 m, .int .i64 (M 0), .int .i64 (M 1), .int .i64 (M 2), .int .i64 (M 3), .int .i64 (M 4), .int .i64 (M 5), .int .i64 q] 73) from rfl] at HL
      clear hb HC b0 b1 b2
      go_upto_region 2 with fail
      generalize w2.alloc _ = w3 at *
      obtain ⟨e0, e1, e2, e3, e4, e5, e6, e7, e8, _⟩ := HL.out.ownHas.nine
      go_wp2_with fail
      refine (HCG.out _).mono ?_
      rintro e w4 ⟨rfl, hb⟩
      replace HL := Lib.hid (HL.out.kept hb)
      clear hb e0 e1 e2 e3 e4 e5 e6 e7 e8
      go_wp2_with fail
      refine (HI1.out _).mono ?_
      rintro e w5 ⟨rfl, hb⟩
      replace HL := Lib.hid (HL.out.kept hb)
      clear hb
      go_wp2_with fail
      exact bodyPost_ret (v := .tuple #[.int .i64 0, .int .i64 0, .bool false]) (by simp [results, Try.results25, go_sem]) rfl ⟨rfl, HL.out.below⟩
    · rw [Bool.true_and]
      rw [h1] at HI1
      rw [insB_iff] at h1
      obtain ⟨p, rfl⟩ := Int.eq_ofNat_of_zero_le h1.1
      obtain ⟨t, rfl⟩ := Int.eq_ofNat_of_zero_le h1.2.2.1
      rw [show ((p : Nat) : Int).toNat = p from rfl, show ((t : Nat) : Int).toNat = t from rfl]
      have HPL := Lib.hid (fun W => place_any n m M q p t W m1 m6 q2 (by omega) (by omega))
      have HI2 := Lib.hid (fun W => inside_any n m (plR m q p t) (plC m q p t) M W)
      clear h1 hM hgc hr0 hg ho
      generalize colM n m q (fun a b => (M a).toNat.testBit b) = CM at *
      generalize lnI n m (fdI m q) = c2 at *
      generalize lnI n m q = c1 at *
      generalize plR m q p t = R at *
      generalize plC m q p t = C at *
      cases h2 : insB n m R C
      · rw [if_neg (by decide)]
        rw [h2] at HI2
        clear h2
        go_enter Try.func25, Try.ntmps25
        go_upto_region 1 with fail
        generalize w.alloc _ = w1 at *
        have ⟨_, b0, b1, b2, _⟩ := HL.out.ownBox
        go_wp2_with fail
        refine HC.out.mono ?_
        rintro e w2 ⟨rfl, hb⟩
        replace HL := Lib.hid ((HL.out.kept hb).has (tl9 n m M q) 73)
        rw [show w2.alloc (.cells (tl9 n m M q).toArray 73) = w2.alloc (.cells #[.int .i64 n, .int .i64 m, .int .i64 (M 0), .int .i64 (M 1), .int .i64 (M 2), .int .i64 (M 3), .int .i64 (M 4), .int .i64 (M 5), .int .i64 q] 73) from rfl] at HL
        clear hb HC b0 b1 b2
        go_upto_region 2 with fail
        generalize w2.alloc _ = w3 at *
        obtain ⟨e0, e1, e2, e3, e4, e5, e6, e7, e8, _⟩ := HL.out.ownHas.nine
        go_wp2_with fail
        refine (HCG.out _).mono ?_
        rintro e w4 ⟨rfl, hb⟩
        replace HL := Lib.hid (HL.out.kept hb)
        clear hb e0 e1 e2 e3 e4 e5 e6 e7 e8
        go_wp2_with fail
        refine (HI1.out _).mono ?_
        rintro e w5 ⟨rfl, hb⟩
        replace HL := Lib.hid (HL.out.kept hb)
        clear hb
        obtain ⟨e0, e1, e2, e3, e4, e5, e6, e7, e8, _⟩ := HL.out.ownHas.nine
        go_wp2_with fail
        refine (HPL.out _).mono ?_
        rintro e w6 ⟨rfl, hb⟩
        replace HL := Lib.hid (HL.out.kept hb)
        clear hb e0 e1 e2 e3 e4 e5 e6 e7 e8
        obtain ⟨e0, e1, e2, e3, e4, e5, e6, e7, e8, _⟩ := HL.out.ownHas.nine
        go_wp2_with fail
        refine (HI2.out _).mono ?_
        rintro e w7 ⟨rfl, hb⟩
        replace HL := Lib.hid (HL.out.kept hb)
        clear hb e0 e1 e2 e3 e4 e5 e6 e7 e8
        go_wp2_with fail
        exact bodyPost_ret (v := .tuple #[.int .i64 0, .int .i64 0, .bool false]) (by simp [results, Try.results25, go_sem]) rfl ⟨rfl, HL.out.below⟩
      · rw [if_pos rfl]
        rw [h2] at HI2
        clear h2
        go_enter Try.func25, Try.ntmps25
        go_upto_region 1 with fail
        generalize w.alloc _ = w1 at *
        have ⟨_, b0, b1, b2, _⟩ := HL.out.ownBox
        go_wp2_with fail
        refine HC.out.mono ?_
        rintro e w2 ⟨rfl, hb⟩
        replace HL := Lib.hid ((HL.out.kept hb).has (tl9 n m M q) 73)
        rw [show w2.alloc (.cells (tl9 n m M q).toArray 73) = w2.alloc (.cells #[.int .i64 n, .int .i64 m, .int .i64 (M 0), .int .i64 (M 1), .int .i64 (M 2), .int .i64 (M 3), .int .i64 (M 4), .int .i64 (M 5), .int .i64 q] 73) from rfl] at HL
        clear hb HC b0 b1 b2
        go_upto_region 2 with fail
        generalize w2.alloc _ = w3 at *
        obtain ⟨e0, e1, e2, e3, e4, e5, e6, e7, e8, _⟩ := HL.out.ownHas.nine
        go_wp2_with fail
        refine (HCG.out _).mono ?_
        rintro e w4 ⟨rfl, hb⟩
        replace HL := Lib.hid (HL.out.kept hb)
        clear hb e0 e1 e2 e3 e4 e5 e6 e7 e8
        go_wp2_with fail
        refine (HI1.out _).mono ?_
        rintro e w5 ⟨rfl, hb⟩
        replace HL := Lib.hid (HL.out.kept hb)
        clear hb
        obtain ⟨e0, e1, e2, e3, e4, e5, e6, e7, e8, _⟩ := HL.out.ownHas.nine
        go_wp2_with fail
        refine (HPL.out _).mono ?_
        rintro e w6 ⟨rfl, hb⟩
        replace HL := Lib.hid (HL.out.kept hb)
        clear hb e0 e1 e2 e3 e4 e5 e6 e7 e8
        obtain ⟨e0, e1, e2, e3, e4, e5, e6, e7, e8, _⟩ := HL.out.ownHas.nine
        go_wp2_with fail
        refine (HI2.out _).mono ?_
        rintro e w7 ⟨rfl, hb⟩
        replace HL := Lib.hid (HL.out.kept hb)
        clear hb e0 e1 e2 e3 e4 e5 e6 e7 e8
        go_wp2_with fail
        exact bodyPost_ret (v := .tuple #[.int .i64 R, .int .i64 C, .bool true]) (by simp [results, Try.results25, go_sem]) rfl ⟨rfl, HL.out.below⟩

end Go.Proofs.Ytakdiiccdkjjcaa
