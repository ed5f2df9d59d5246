/- Diagonals of places and places on diagonals, in both texts; the colour board of the specification. No condition but the sizes. -/
import Derived.Test.YtakdiiccdkjjcaaEh
namespace Go.Proofs.Ytakdiiccdkjjcaa
open Go.RowKit Go.WideShapes

/-- What a call answers that tells two numbers. -/
structure R3 where
  y0 : Int
  y1 : Int
  ok : Bool
def AnsIIO (R : R3) (w : World) (e : Ending) (w' : World) : Prop := e = .returned (.tuple #[.int .i64 R.y0, .int .i64 R.y1, .bool R.ok]) ∧ Below w.heap.size w w'
def diagR (r c : Int) (xs : List Int) (i j : Int) : R3 := if placeB r c xs i j then ⟨i + j, i - j + c - 1, true⟩ else ⟨0, 0, false⟩

set_option maxRecDepth 100000 in
set_option maxHeartbeats 3200000 in
theorem specDiag_any (r c : Int) (xs : List Int) (i j : Int) (w : World) (hx : xs.length ≤ 1048576) (lo : Nat) (s : Value) (hO : Own w lo s xs) :
    Calls Try.prog 16 #[.agg #[.int .i64 r, .int .i64 c, s], .int .i64 i, .int .i64 j] w fun e w' => AnsIIO (diagR r c xs i j) w e w' := by
  have L0 := (Law.start w).box (.int .i64 r) (.int .i64 c) s 28
  have hO0 := hO.kept L0.below
  obtain ⟨a, cap, rfl, _⟩ := hO.reads
  have HL := Lib.hid L0
  clear L0 hO
  cases hp : placeB r c xs i j
  · rw [show diagR r c xs i j = ⟨0, 0, false⟩ by simp [diagR, hp]]
    have HC := Lib.hid (at_boolB (boPlace_any r c xs i j _ hx lo _ hO0) hp)
    clear hO0 hp
    go_enter Try.func16, Try.ntmps16
    go_upto_region 1 with fail
    generalize w.alloc _ = w1 at *
    have ⟨_, b0, b1, b2, _⟩ := HL.out.ownBox
    go_wp2_with fail
    refine HC.out.mono ?_
    rintro e w2 ⟨rfl, hb⟩
    replace HL := Lib.hid (HL.out.kept hb)
    clear hb HC b0 b1 b2
    go_wp2_with fail
    exact bodyPost_ret (v := .tuple #[.int .i64 0, .int .i64 0, .bool false]) (by simp [results, Try.results16, go_sem]) rfl ⟨rfl, HL.out.below⟩
  · rw [show diagR r c xs i j = ⟨i + j, i - j + c - 1, true⟩ by simp [diagR, hp]]
    have HC := Lib.hid (at_boolB (boPlace_any r c xs i j _ hx lo _ hO0) hp)
    rw [placeB, Bool.and_eq_true, insB_iff] at hp
    obtain ⟨hg, h1, h2, h3, h4⟩ := hp
    obtain ⟨g1, g2, _⟩ := good_facts hg
    obtain ⟨p, rfl⟩ := Int.eq_ofNat_of_zero_le h1
    obtain ⟨q, rfl⟩ := Int.eq_ofNat_of_zero_le h3
    obtain ⟨m, rfl⟩ := Int.eq_ofNat_of_zero_le (show 0 ≤ c by omega)
    have HD := Lib.hid (fun W => biDiag_any r m (.slice a xs.length cap) p q W (by omega) (by omega) (by omega))
    clear hO0 hg
    go_enter Try.func16, Try.ntmps16
    go_upto_region 1 with fail
    generalize w.alloc _ = w1 at *
    have ⟨_, b0, b1, b2, _⟩ := HL.out.ownBox
    go_wp2_with fail
    refine HC.out.mono ?_
    rintro e w2 ⟨rfl, hb⟩
    replace HL := Lib.hid (HL.out.kept hb)
    clear hb HC b0 b1 b2
    have ⟨_, b0, b1, b2, _⟩ := HL.out.ownBox
    go_wp2_with fail
    refine (HD.out _).mono ?_
    rintro e w3 ⟨rfl, hb⟩
    replace HL := Lib.hid (HL.out.kept hb)
    clear hb HD b0 b1 b2
    go_wp2_with fail
    exact bodyPost_ret (v := .tuple #[.int .i64 ((p : Int) + q), .int .i64 ((p : Int) - q + m - 1), .bool true]) (by simp [results, Try.results16, go_sem]) rfl ⟨rfl, HL.out.below⟩
set_option maxRecDepth 100000 in
set_option maxHeartbeats 3200000 in
theorem implDiag_any (r c : Int) (xs : List Int) (i j : Int) (w : World) (hx : xs.length ≤ 1048576) (lo : Nat) (s : Value) (hO : Own w lo s xs) :
    Calls Try.prog 18 #[.agg #[.int .i64 r, .int .i64 c, s], .int .i64 i, .int .i64 j] w fun e w' => AnsIIO (diagR r c xs i j) w e w' := by
  have L0 := (Law.start w).box (.int .i64 r) (.int .i64 c) s 28
  obtain ⟨a, cap, rfl, hr⟩ := hO.reads
  have hr0 := L0.reads hr
  have HL := Lib.hid L0
  clear L0 hO hr
  cases hg : goodB r c xs
  · rw [show diagR r c xs i j = ⟨0, 0, false⟩ by simp [diagR, placeB, hg]]
    have HC := Lib.hid (gridOf_no r c a cap xs _ hx hr0 hg)
    clear hr0 hg
    go_enter Try.func18, Try.ntmps18
    go_upto_region 1 with fail
    generalize w.alloc _ = w1 at *
    have ⟨_, b0, b1, b2, _⟩ := HL.out.ownBox
    go_wp2_with fail
    refine HC.out.mono ?_
    rintro e w2 ⟨rfl, hb⟩
    replace HL := Lib.hid ((HL.out.kept hb).kept (below_new (.cells #[.int .i64 0, .int .i64 0, .int .i64 0, .int .i64 0, .int .i64 0, .int .i64 0, .int .i64 0, .int .i64 0] 66)))
    clear hb HC b0 b1 b2
    go_wp2_with fail
    exact bodyPost_ret (v := .tuple #[.int .i64 0, .int .i64 0, .bool false]) (by simp [results, Try.results18, go_sem]) rfl ⟨rfl, HL.out.below⟩
  · obtain ⟨M, hMM, hc⟩ := gridOf_good r c a cap xs _ hx hr0 hg
    clear hMM
    have HC := Lib.hid hc
    have HIN := Lib.hid (fun W => inside_any r c i j M W)
    cases hi : insB r c i j
    · rw [show diagR r c xs i j = ⟨0, 0, false⟩ by simp [diagR, placeB, hi]]
      rw [hi] at HIN
      clear hr0 hg hc hi
      go_enter Try.func18, Try.ntmps18
      go_upto_region 1 with fail
      generalize w.alloc _ = w1 at *
      have ⟨_, b0, b1, b2, _⟩ := HL.out.ownBox
      go_wp2_with fail
      refine HC.out.mono ?_
      rintro e w2 ⟨rfl, hb⟩
      replace HL := Lib.hid ((HL.out.kept hb).has (gl r c M) 66)
      clear hb HC b0 b1 b2
      rw [show w2.alloc (.cells (gl r c M).toArray 66) = w2.alloc (.cells #[.int .i64 r, .int .i64 c, .int .i64 (M 0), .int .i64 (M 1), .int .i64 (M 2), .int .i64 (M 3), .int .i64 (M 4), .int .i64 (M 5)] 66) from rfl] at HL
      go_upto_region 2 with fail
      generalize w2.alloc _ = w3 at *
      obtain ⟨e0, e1, e2, e3, e4, e5, e6, e7, _⟩ := HL.out.ownHas.eight
      go_wp2_with fail
      refine (HIN.out _).mono ?_
      rintro e w4 ⟨rfl, hb⟩
      replace HL := Lib.hid (HL.out.kept hb)
      clear hb e0 e1 e2 e3 e4 e5 e6 e7
      go_wp2_with fail
      exact bodyPost_ret (v := .tuple #[.int .i64 0, .int .i64 0, .bool false]) (by simp [results, Try.results18, go_sem]) rfl ⟨rfl, HL.out.below⟩
    · rw [show diagR r c xs i j = ⟨i + j, i - j + c - 1, true⟩ by simp [diagR, placeB, hg, hi]]
      rw [hi] at HIN
      rw [insB_iff] at hi
      obtain ⟨h1, h2, h3, h4⟩ := hi
      obtain ⟨⟨g1, g2⟩, ⟨g3, g4⟩, _⟩ := good_facts hg
      clear hr0 hg hc
      go_enter Try.func18, Try.ntmps18
      go_upto_region 1 with fail
      generalize w.alloc _ = w1 at *
      have ⟨_, b0, b1, b2, _⟩ := HL.out.ownBox
      go_wp2_with fail
      refine HC.out.mono ?_
      rintro e w2 ⟨rfl, hb⟩
      replace HL := Lib.hid ((HL.out.kept hb).has (gl r c M) 66)
      clear hb HC b0 b1 b2
      rw [show w2.alloc (.cells (gl r c M).toArray 66) = w2.alloc (.cells #[.int .i64 r, .int .i64 c, .int .i64 (M 0), .int .i64 (M 1), .int .i64 (M 2), .int .i64 (M 3), .int .i64 (M 4), .int .i64 (M 5)] 66) from rfl] at HL
      go_upto_region 2 with fail
      generalize w2.alloc _ = w3 at *
      obtain ⟨e0, e1, e2, e3, e4, e5, e6, e7, _⟩ := HL.out.ownHas.eight
      go_wp2_with fail
      refine (HIN.out _).mono ?_
      rintro e w4 ⟨rfl, hb⟩
      replace HL := Lib.hid (HL.out.kept hb)
      clear hb e0 e1 e2 e3 e4 e5 e6 e7
      replace HL := Lib.hid HL.out.drew
      obtain ⟨e0, e1, _⟩ := HL.out.ownHas.eight
      go_wp2_with fail
      go_region
      clear e0 e1
      go_wp2_with fail
      exact bodyPost_ret (v := .tuple #[.int .i64 (i + j), .int .i64 (i - j + c - 1), .bool true]) (by simp [results, Try.results18, go_sem]) rfl ⟨rfl, HL.out.below⟩
theorem biColour_any (k : Int) (w : World) : Calls Try.prog 59 #[.int .i64 k] w fun e w' => e = .returned (.bool (inB 0 k 1)) ∧ w = w' := by
  have HC := Lib.hid (fun W => l1In_any k 0 1 W)
  go_enter Try.func59, Try.ntmps59
  go_wp2_with fail
  refine (HC.out _).mono ?_
  rintro e w' ⟨rfl, rfl⟩
  go_wp2_with fail
  go_ret
  exact ⟨rfl, rfl⟩
set_option maxRecDepth 100000 in
set_option maxHeartbeats 6400000 in
theorem specCol_any (r c : Int) (xs : List Int) (k : Int) (w : World) (hx : xs.length ≤ 1048576) (lo : Nat) (s : Value) (hO : Own w lo s xs) :
    Calls Try.prog 20 #[.agg #[.int .i64 r, .int .i64 c, s], .int .i64 k] w fun e w' => AnsB (colR r c xs k) w e w' := by
  have L0 := ((Law.start w).box (.int .i64 r) (.int .i64 c) s 28).box (.int .i64 0) (.int .i64 0) (.slice none 0 0) 28
  simp only [World.size_alloc] at L0
  have hO0 := hO.kept L0.below
  obtain ⟨a, cap, rfl, hr⟩ := hO.reads
  have hr0 := L0.reads hr
  have HL := Lib.hid L0
  clear hO L0 hr
  have HG := Lib.hid (boGood_any r c a cap xs _ hx hr0)
  have HO := Lib.hid hO0
  clear hr0 hO0
  cases hg : goodB r c xs
  · rw [show colR r c xs k = BR.zero by simp [colR, colOk, hg]]
    rw [hg] at HG
    clear hg
    go_enter Try.func20, Try.ntmps20
    go_upto_region 1 with fail
    generalize (w.alloc _).alloc _ = w1 at *
    have ⟨_, b0, b1, b2, _⟩ := HL.out.tl.ownBox
    go_wp2_with fail
    refine HG.out.mono ?_
    rintro e w2 ⟨rfl, hb⟩
    replace HL := Lib.hid (HL.out.kept hb)
    clear hb HG b0 b1 b2
    have ⟨_, n0, n1, n2, nf⟩ := HL.out.ownBox
    have HB := Lib.hid HL.out.below
    clear HL
    go_wp2_with fail
    refine bodyPost_ret (v := .tuple #[.agg #[.int .i64 0, .int .i64 0, .slice none 0 0], .bool false]) (by simp [results, Try.results20, go_sem, n0, n1, n2]) rfl ⟨_, rfl, Own.nil _ _, ?_⟩
    exact ((HB.out.setCell (by simp <;> omega) _).setCell (by simp <;> omega) _).setCell (by simp <;> omega) _
  · rw [hg] at HG
    have HCO := Lib.hid (fun W => biColour_any k W)
    by_cases hk : 0 ≤ k ∧ k ≤ 1
    · rw [inB_yes hk.1 hk.2] at HCO
      obtain ⟨⟨g1, g2⟩, ⟨g3, g4⟩, _⟩ := good_facts hg
      obtain ⟨n, rfl⟩ := Int.eq_ofNat_of_zero_le (show 0 ≤ r by omega)
      obtain ⟨m, rfl⟩ := Int.eq_ofNat_of_zero_le (show 0 ≤ c by omega)
      obtain ⟨q, rfl⟩ := Int.eq_ofNat_of_zero_le hk.1
      have HBB := Lib.hid (fun (W : World) (h : Own W lo (.slice a xs.length cap) xs) => biBoard_any n m xs q W hx hg (by omega) lo _ h)
      have hl1 := ln_le n m q (by omega) (by omega)
      have HGB := Lib.hid (fun a2 p2 W h => boGood_any (lnI n m q : Nat) (lnI n m (fdI m q) : Nat) a2 p2 (colL n m q xs) W (by rw [colL_len]; omega) h)
      have HLL := Lib.hid (colL_len n m q xs)
      by_cases h0 : 0 < lnI n m q
      · rw [show colR n m xs q = ⟨(lnI n m q : Nat), (lnI n m (fdI m q) : Nat), colL n m q xs, true⟩ by
          unfold colR colOk
          rw [hg, inB_yes hk.1 hk.2]
          simp [h0]]
        rw [col_good n m q xs (by omega) (by omega) (by omega) h0] at HGB
        clear hg hk h0
        generalize colL n m q xs = out at *
        generalize lnI n m (fdI m q) = c2 at *
        generalize lnI n m q = c1 at *
        go_enter Try.func20, Try.ntmps20
        go_upto_region 1 with fail
        generalize (w.alloc _).alloc _ = w1 at *
        have ⟨_, b0, b1, b2, _⟩ := HL.out.tl.ownBox
        go_wp2_with fail
        refine HG.out.mono ?_
        rintro e w2 ⟨rfl, hb⟩
        replace HL := Lib.hid (HL.out.kept hb)
        replace HO := Lib.hid (HO.out.kept hb)
        clear hb HG b0 b1 b2
        have ⟨_, b0, b1, b2, _⟩ := HL.out.tl.ownBox
        go_wp2_with fail
        refine (HCO.out _).mono ?_
        rintro e w3 ⟨rfl, hw⟩
        subst hw
        go_wp2_with fail
        refine (HBB.out _ HO.out).mono ?_
        rintro e w4 ⟨v, rfl, hOv, hb⟩
        obtain ⟨a1, p1, hv, hrv⟩ := hOv.reads
        subst hv
        have HGB2 := Lib.hid (HGB.out a1 p1 _ hrv)
        rw [HLL.out] at HGB2
        replace HL := Lib.hid (HL.out.kept hb)
        replace HO := Lib.hid (HO.out.kept hb)
        rw [HLL.out]
        clear hb hOv hrv b0 b1 b2
        go_wp2_with fail
        refine HGB2.out.mono ?_
        rintro e w5 ⟨rfl, hb⟩
        replace HL := Lib.hid (HL.out.kept hb)
        replace HO := Lib.hid (HO.out.kept hb)
        clear hb HGB2
        have ⟨_, b0, b1, b2, _⟩ := HL.out.tl.ownBox
        go_wp2_with fail
        refine (HBB.out _ HO.out).mono ?_
        rintro e w6 ⟨v2, rfl, hO, hb⟩
        clear b0 b1 b2
        replace HL := Lib.hid (HL.out.own hb hO)
        obtain ⟨a2, p2, hv2, _⟩ := hO.reads
        subst hv2
        have ⟨_, n0, n1, n2, nf⟩ := HL.out.tl.ownBox
        have hfin := HL.out.fin3 (n := w.heap.size + 1) (x := .int .i64 0) (y := .int .i64 0) (z := .slice none 0 0) (by simp) (.int .i64 (c1 : Nat)) (.int .i64 (c2 : Nat)) (.slice a2 out.length p2)
        have HF := Lib.hid hfin
        rw [HLL.out] at HF ⊢
        clear HL hO hb hfin
        go_wp2_with fail
        exact bodyPost_ret (v := .tuple #[.agg #[.int .i64 (c1 : Nat), .int .i64 (c2 : Nat), .slice a2 c1 p2], .bool true]) (by simp [results, Try.results20, go_sem, n0, n1, n2]) rfl ⟨_, rfl, HF.out.1, HF.out.2⟩
      · rw [show colR n m xs q = BR.zero by
          unfold colR colOk
          simp [h0]]
        rw [col_bad n m q xs h0] at HGB
        clear hg hk h0
        generalize colL n m q xs = out at *
        generalize lnI n m (fdI m q) = c2 at *
        generalize lnI n m q = c1 at *
        go_enter Try.func20, Try.ntmps20
        go_upto_region 1 with fail
        generalize (w.alloc _).alloc _ = w1 at *
        have ⟨_, b0, b1, b2, _⟩ := HL.out.tl.ownBox
        go_wp2_with fail
        refine HG.out.mono ?_
        rintro e w2 ⟨rfl, hb⟩
        replace HL := Lib.hid (HL.out.kept hb)
        replace HO := Lib.hid (HO.out.kept hb)
        clear hb HG b0 b1 b2
        have ⟨_, b0, b1, b2, _⟩ := HL.out.tl.ownBox
        go_wp2_with fail
        refine (HCO.out _).mono ?_
        rintro e w3 ⟨rfl, hw⟩
        subst hw
        go_wp2_with fail
        refine (HBB.out _ HO.out).mono ?_
        rintro e w4 ⟨v, rfl, hOv, hb⟩
        obtain ⟨a1, p1, hv, hrv⟩ := hOv.reads
        subst hv
        have HGB2 := Lib.hid (HGB.out a1 p1 _ hrv)
        rw [HLL.out] at HGB2
        replace HL := Lib.hid (HL.out.kept hb)
        replace HO := Lib.hid (HO.out.kept hb)
        rw [HLL.out]
        clear hb hOv hrv b0 b1 b2
        go_wp2_with fail
        refine HGB2.out.mono ?_
        rintro e w5 ⟨rfl, hb⟩
        replace HL := Lib.hid (HL.out.kept hb)
        replace HO := Lib.hid (HO.out.kept hb)
        clear hb HGB2
        have ⟨_, n0, n1, n2, nf⟩ := HL.out.ownBox
        have HB := Lib.hid HL.out.below
        clear HL
        go_wp2_with fail
        refine bodyPost_ret (v := .tuple #[.agg #[.int .i64 0, .int .i64 0, .slice none 0 0], .bool false]) (by simp [results, Try.results20, go_sem, n0, n1, n2]) rfl ⟨_, rfl, Own.nil _ _, ?_⟩
        exact ((HB.out.setCell (by simp <;> omega) _).setCell (by simp <;> omega) _).setCell (by simp <;> omega) _
    · rw [show colR r c xs k = BR.zero by
        unfold colR colOk
        rw [inB_no hk]
        simp]
      rw [inB_no hk] at HCO
      clear hg hk
      go_enter Try.func20, Try.ntmps20
      go_upto_region 1 with fail
      generalize (w.alloc _).alloc _ = w1 at *
      have ⟨_, b0, b1, b2, _⟩ := HL.out.tl.ownBox
      go_wp2_with fail
      refine HG.out.mono ?_
      rintro e w2 ⟨rfl, hb⟩
      replace HL := Lib.hid (HL.out.kept hb)
      replace HO := Lib.hid (HO.out.kept hb)
      clear hb HG b0 b1 b2
      have ⟨_, b0, b1, b2, _⟩ := HL.out.tl.ownBox
      go_wp2_with fail
      refine (HCO.out _).mono ?_
      rintro e w3 ⟨rfl, hw⟩
      subst hw
      clear b0 b1 b2
      have ⟨_, n0, n1, n2, nf⟩ := HL.out.ownBox
      have HB := Lib.hid HL.out.below
      clear HL
      go_wp2_with fail
      refine bodyPost_ret (v := .tuple #[.agg #[.int .i64 0, .int .i64 0, .slice none 0 0], .bool false]) (by simp [results, Try.results20, go_sem, n0, n1, n2]) rfl ⟨_, rfl, Own.nil _ _, ?_⟩
      exact ((HB.out.setCell (by simp <;> omega) _).setCell (by simp <;> omega) _).setCell (by simp <;> omega) _

end Go.Proofs.Ytakdiiccdkjjcaa
