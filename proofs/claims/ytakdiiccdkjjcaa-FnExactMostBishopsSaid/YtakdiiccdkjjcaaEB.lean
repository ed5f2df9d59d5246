/- Bishop numbers and the most bishops, in both texts. No condition but the sizes. -/
import Derived.Test.YtakdiiccdkjjcaaEz
namespace Go.Proofs.Ytakdiiccdkjjcaa
open Go.RowKit Go.WideShapes

def bishR (r c : Int) (xs : List Int) : LR := if goodB r c xs then ⟨bshN r.toNat c.toNat (fun a b => (xs.getD a 0).toNat.testBit b) 2, true⟩ else ⟨[], false⟩
def mostBR (r c : Int) (xs : List Int) : R1 := if goodB r c xs then ⟨((bshN r.toNat c.toNat (fun a b => (xs.getD a 0).toNat.testBit b) 2).length : Int) - 1, true⟩ else ⟨0, false⟩
theorem bshN_len (n m : Nat) (hn : n ≤ 6) (hm : m ≤ 6) (P : Nat → Nat → Bool) : (bshN n m P 2).length ≤ 37 := by
  have h1 := facB_facts (bshN_fac n m 1 hn hm (by omega) P)
  have h2 := facB_facts (cN_fac n m 1 hn hm P).2
  show (allP (bshN n m P 1) (shcL (cN n m 1 P)) (bshN n m P 1).length).length ≤ 37
  rw [allP_len]
  omega
theorem bishR_len (r c : Int) (xs : List Int) : (bishR r c xs).ys.length ≤ 1048576 := by
  unfold bishR
  split
  · rename_i h
    obtain ⟨g1, g2, _⟩ := good_facts h
    have := bshN_len r.toNat c.toNat (by omega) (by omega) (fun a b => (xs.getD a 0).toNat.testBit b)
    show (bshN _ _ _ _).length ≤ _
    omega
  · simp
/-- How many rook numbers a colour has. -/
def LN (n m k : Nat) : Nat := min (lnI n m k) (lnI n m (fdI m k)) + 1
theorem cN_len (n m k : Nat) (P : Nat → Nat → Bool) (hn : n ≤ 6) (hm : m ≤ 6) : (cN n m k P).length = LN n m k ∧ 1 ≤ LN n m k ∧ LN n m k ≤ 7 := by
  refine ⟨numL_len _ _ _, ?_, ?_⟩
  · unfold LN; omega
  · have := ln_le n m k hn hm
    unfold LN; omega
theorem colL_bd (n m k : Nat) (xs : List Int) (hn : n ≤ 6) (hm : m ≤ 6) (q : Nat) : 0 ≤ (colL n m k xs).getD q 0 ∧ (colL n m k xs).getD q 0 < 64 := by
  by_cases h : q < lnI n m k
  · unfold colL
    rw [lstI_get _ _ _ h]
    exact ⟨by omega, rowM_64 _ _ (ln_le n m _ hn hm)⟩
  · rw [far_zero _ q (by rw [colL_len]; omega)]
    omega
theorem roN_any (n m k : Nat) (xs : List Int) (v : Value) (W : World) (hn : n ≤ 6) (hm : m ≤ 6) (h : Own W 0 v (colL n m k xs)) :
    Calls Try.prog 107 #[.agg #[.int .i64 (lnI n m k : Nat), .int .i64 (lnI n m (fdI m k) : Nat), v]] W fun e w' => ∃ g p, e = .returned (.slice (some ⟨g, 0, none⟩) (LN n m k) p) ∧ Own w' W.heap.size (.slice (some ⟨g, 0, none⟩) (LN n m k) p) (cN n m k (fun a b => (xs.getD a 0).toNat.testBit b)) ∧ Below W.heap.size W w' := by
  have h6 := ln_le n m k hn hm
  have := roNumbers_any (lnI n m k) (lnI n m (fdI m k)) (colL n m k xs) W (by rw [colL_len]; omega) h6 (ln_le n m _ hn hm) (colL_len n m k xs) (colL_bd n m k xs hn hm) 0 v h
  rw [cN_board] at this
  exact this
theorem own_rds {w : World} {lo : Nat} {a : Option Addr} {p : Nat} {xs : List Int} (h : Own w lo (.slice a xs.length p) xs) : Reads w a xs.length xs := by
  obtain ⟨a', p', e, r⟩ := h.reads
  injection e with e1 e2 e3
  subst e1
  exact r
theorem roT_any (n m : Nat) (xs : List Int) (W : World) (hn : n ≤ 6) (hm : m ≤ 6) (gA qA gB qB : Nat) (h1 : Own W 0 (.slice (some ⟨gA, 0, none⟩) (LN n m 0) qA) (cN n m 0 (fun a b => (xs.getD a 0).toNat.testBit b))) (h2 : Own W 0 (.slice (some ⟨gB, 0, none⟩) (LN n m 1) qB) (cN n m 1 (fun a b => (xs.getD a 0).toNat.testBit b))) :
    Calls Try.prog 106 #[.slice (some ⟨gA, 0, none⟩) (LN n m 0) qA, .slice (some ⟨gB, 0, none⟩) (LN n m 1) qB] W fun e w' => ∃ g p, e = .returned (.slice (some ⟨g, 0, none⟩) (LN n m 0 + LN n m 1 - 1) p) ∧ Own w' W.heap.size (.slice (some ⟨g, 0, none⟩) (LN n m 0 + LN n m 1 - 1) p) (allP (cN n m 0 (fun a b => (xs.getD a 0).toNat.testBit b)) (cN n m 1 (fun a b => (xs.getD a 0).toNat.testBit b)) (cN n m 0 (fun a b => (xs.getD a 0).toNat.testBit b)).length) ∧ Below W.heap.size W w' := by
  obtain ⟨hA, hA1, _⟩ := cN_len n m 0 (fun a b => (xs.getD a 0).toNat.testBit b) hn hm
  obtain ⟨hB, hB1, _⟩ := cN_len n m 1 (fun a b => (xs.getD a 0).toNat.testBit b) hn hm
  have f1 := (cN_fac n m 0 hn hm (fun a b => (xs.getD a 0).toNat.testBit b)).1
  have f2 := (cN_fac n m 1 hn hm (fun a b => (xs.getD a 0).toNat.testBit b)).1
  generalize cN n m 0 (fun a b => (xs.getD a 0).toNat.testBit b) = A at *
  generalize cN n m 1 (fun a b => (xs.getD a 0).toNat.testBit b) = B at *
  rw [← hA] at h1 ⊢
  rw [← hB] at h2 ⊢
  refine (roTimes_any _ _ qA qB A B W (own_rds h1) (own_rds h2) f1 f2).mono ?_
  rintro e w' ⟨v, rfl, hO, hb⟩
  have hl := allP_len A B A.length
  rcases hO.cases with ⟨_, h0⟩ | ⟨g, p, rfl, _⟩
  · rw [h0] at hl
    simp only [List.length_nil] at hl
    omega
  · rw [hl] at hO ⊢
    exact ⟨g, p, rfl, hO, hb⟩
set_option maxRecDepth 100000 in
set_option maxHeartbeats 6400000 in
theorem biNumbers_any (n m : Nat) (xs : List Int) (w : World) (hx : xs.length ≤ 1048576) (hg : goodB n m xs = true) (lo : Nat) (s : Value) (hO : Own w lo s xs) :
    Calls Try.prog 66 #[.agg #[.int .i64 n, .int .i64 m, s]] w fun e w' => ∃ v, e = .returned v ∧ Own w' w.heap.size v (bshN n m (fun a b => (xs.getD a 0).toNat.testBit b) 2) ∧ Below w.heap.size w w' := by
  obtain ⟨⟨g1, g2⟩, ⟨g3, g4⟩, _⟩ := good_facts hg
  have hn : n ≤ 6 := by omega
  have hm : m ≤ 6 := by omega
  rw [bshN_two n m hn hm]
  have L0 := ((Law.start w).box (.int .i64 n) (.int .i64 m) s 28).drew
  have HO := Lib.hid hO
  obtain ⟨a, cap, rfl, _⟩ := hO.reads
  have HL := Lib.hid L0
  clear L0 hO
  have ⟨_, b0, b1, b2, _⟩ := HL.out.ownBox
  have HB0 := Lib.hid (fun (W : World) (h : Own W lo (.slice a xs.length cap) xs) => biBoard_any n m xs 0 W hx hg (by decide) lo _ h)
  have HB1 := Lib.hid (fun (W : World) (h : Own W lo (.slice a xs.length cap) xs) => biBoard_any n m xs 1 W hx hg (by decide) lo _ h)
  rw [show ((0 : Nat) : Int) = 0 from rfl] at HB0
  rw [show ((1 : Nat) : Int) = 1 from rfl] at HB1
  have HLA := Lib.hid (cN_len n m 0 (fun a b => (xs.getD a 0).toNat.testBit b) hn hm)
  have HLB := Lib.hid (cN_len n m 1 (fun a b => (xs.getD a 0).toNat.testBit b) hn hm)
  have HR0 := Lib.hid (fun (W : World) (v : Value) (h : Own W 0 v (colL n m 0 xs)) => roN_any n m 0 xs v W hn hm h)
  have HR1 := Lib.hid (fun (W : World) (v : Value) (h : Own W 0 v (colL n m 1 xs)) => roN_any n m 1 xs v W hn hm h)
  have HRT := Lib.hid (fun (W : World) (gA qA gB qB : Nat) (h1 : Own W 0 (.slice (some ⟨gA, 0, none⟩) (LN n m 0) qA) (cN n m 0 (fun a b => (xs.getD a 0).toNat.testBit b))) (h2 : Own W 0 (.slice (some ⟨gB, 0, none⟩) (LN n m 1) qB) (cN n m 1 (fun a b => (xs.getD a 0).toNat.testBit b))) => roT_any n m xs W hn hm gA qA gB qB h1 h2)
  have HLN := Lib.hid (show (allP (cN n m 0 (fun a b => (xs.getD a 0).toNat.testBit b)) (cN n m 1 (fun a b => (xs.getD a 0).toNat.testBit b)) (cN n m 0 (fun a b => (xs.getD a 0).toNat.testBit b)).length).length = LN n m 0 + LN n m 1 - 1 by rw [allP_len, HLA.out.1, HLB.out.1])
  have HL0 := Lib.hid (show 1 ≤ LN n m 0 ∧ LN n m 0 ≤ 7 ∧ 1 ≤ LN n m 1 ∧ LN n m 1 ≤ 7 from ⟨HLA.out.2.1, HLA.out.2.2, HLB.out.2.1, HLB.out.2.2⟩)
  generalize allP (cN n m 0 (fun a b => (xs.getD a 0).toNat.testBit b)) (cN n m 1 (fun a b => (xs.getD a 0).toNat.testBit b)) (cN n m 0 (fun a b => (xs.getD a 0).toNat.testBit b)).length = Z at *
  clear hg HLA HLB g1 g2 g3 g4
  go_enter Try.func66, Try.ntmps66
  go_wp2_with fail
  replace HO := Lib.hid (HO.out.kept HL.out.below)
  go_region_held3 (fun w' => w'.cell? ⟨w.heap.size, 0, none⟩ = some (.int .i64 n) ∧ w'.cell? ⟨w.heap.size, 1, none⟩ = some (.int .i64 m) ∧ w'.cell? ⟨w.heap.size, 2, none⟩ = some (.slice a xs.length cap)) (exact ⟨b0, b1, b2⟩) ((first
    | (go_at_call 60; with_reducible change Calls _ _ #[_, .int .i64 0] _ _; ((with_reducible refine (HB0.out _ HO.out).mono ?_); rintro r wA ⟨vA, rfl, hA, hb⟩; replace HL := Lib.hid (HL.out.kept hb); replace HO := Lib.hid (HO.out.kept hb); replace b0 := cell_later hb b0; replace b1 := cell_later hb b1; replace b2 := cell_later hb b2; (try replace HA := Lib.hid (HA.out.kept hb)); (try replace HBb := Lib.hid (HBb.out.kept hb)); (try replace HNA := Lib.hid (HNA.out.kept hb)); (try replace HNB := Lib.hid (HNB.out.kept hb)); have HA := Lib.hid (hA.lower (Nat.zero_le _)); obtain ⟨aA, pA, hvA, _⟩ := hA.reads; subst hvA; clear hA hb))
    | (go_at_call 60; with_reducible change Calls _ _ #[_, .int .i64 1] _ _; ((with_reducible refine (HB1.out _ HO.out).mono ?_); rintro r wA ⟨vB, rfl, hB, hb⟩; replace HL := Lib.hid (HL.out.kept hb); replace HO := Lib.hid (HO.out.kept hb); replace b0 := cell_later hb b0; replace b1 := cell_later hb b1; replace b2 := cell_later hb b2; (try replace HA := Lib.hid (HA.out.kept hb)); (try replace HBb := Lib.hid (HBb.out.kept hb)); (try replace HNA := Lib.hid (HNA.out.kept hb)); (try replace HNB := Lib.hid (HNB.out.kept hb)); have HBb := Lib.hid (hB.lower (Nat.zero_le _)); obtain ⟨aB, pB, hvB, _⟩ := hB.reads; subst hvB; clear hB hb))
    | (go_at_call 107; with_reducible change Calls _ _ #[.agg #[_, _, .slice aA _ _]] _ _; ((with_reducible refine (HR0.out _ _ HA.out).mono ?_); rintro r wA ⟨gA, qA, rfl, hA, hb⟩; replace HL := Lib.hid (HL.out.kept hb); replace HO := Lib.hid (HO.out.kept hb); replace b0 := cell_later hb b0; replace b1 := cell_later hb b1; replace b2 := cell_later hb b2; (try replace HA := Lib.hid (HA.out.kept hb)); (try replace HBb := Lib.hid (HBb.out.kept hb)); (try replace HNA := Lib.hid (HNA.out.kept hb)); (try replace HNB := Lib.hid (HNB.out.kept hb)); have HNA := Lib.hid (hA.lower (Nat.zero_le _)); clear hA hb))
    | (go_at_call 107; with_reducible change Calls _ _ #[.agg #[_, _, .slice aB _ _]] _ _; ((with_reducible refine (HR1.out _ _ HBb.out).mono ?_); rintro r wA ⟨gB, qB, rfl, hB, hb⟩; replace HL := Lib.hid (HL.out.kept hb); replace HO := Lib.hid (HO.out.kept hb); replace b0 := cell_later hb b0; replace b1 := cell_later hb b1; replace b2 := cell_later hb b2; (try replace HA := Lib.hid (HA.out.kept hb)); (try replace HBb := Lib.hid (HBb.out.kept hb)); (try replace HNA := Lib.hid (HNA.out.kept hb)); (try replace HNB := Lib.hid (HNB.out.kept hb)); have HNB := Lib.hid (hB.lower (Nat.zero_le _)); clear hB hb))
    | (go_at_call 106; ((with_reducible refine (HRT.out _ _ _ _ _ HNA.out HNB.out).mono ?_); rintro r wA ⟨gC, pC, rfl, hC, hb⟩; have HFC := Lib.hid (And.intro (hC.lower HL.out.below.size) hC.capLe); replace HL := Lib.hid (HL.out.kept hb); replace b0 := cell_later hb b0; replace b1 := cell_later hb b1; replace b2 := cell_later hb b2; have HSH := Lib.hid (roShort_any gC _ pC Z wA (by have := HL0.out; omega) hC.capLe HLN.out _ hC); clear hC hb))
    | (go_at_call 105; ((with_reducible refine HSH.out.mono ?_); rintro r wB ⟨rfl, hw⟩; subst hw))
    | fail))
  all_goals
    have hF := own_cut (q := shK Z Z.length) (by rw [HLN.out]; exact HFC.out.1) (shK_le _ _)
    rw [HLN.out] at hF
    have HF := Lib.hid (And.intro hF HL.out.below)
    have HSE := Lib.hid (show shcL Z = Z.take (shK Z (LN n m 0 + LN n m 1 - 1)) by unfold shcL; rw [HLN.out])
    clear hF HL
    go_wp2_with fail
    go_ret
    exact ⟨_, rfl, by rw [HSE.out]; exact HF.out.1, HF.out.2⟩
set_option maxHeartbeats 3200000 in
theorem mostBishops_any (n m : Nat) (M : Nat → Int) (w : World) (hn1 : 1 ≤ n) (hn : n ≤ 6) (hm1 : 1 ≤ m) (hm : m ≤ 6) (hgc : ∀ k, k < 6 → 0 ≤ M k ∧ M k < 64) :
    Calls Try.prog 68 #[gv n m M] w fun e w' => e = .returned (.int .i64 (((bshN n m (fun a b => (M a).toNat.testBit b) 2).length : Int) - 1)) ∧ Below w.heap.size w w' := by
  have HK := Lib.hid (fun W => bishopNumbers_any n m M W hn1 hn hm1 hm hgc)
  have hlen := bshN_len n m hn hm (fun a b => (M a).toNat.testBit b)
  have L0 := (Law.start w).has (gl n m M) 66
  rw [show w.alloc (.cells (gl n m M).toArray 66) = w.alloc (.cells #[.int .i64 n, .int .i64 m, .int .i64 (M 0), .int .i64 (M 1), .int .i64 (M 2), .int .i64 (M 3), .int .i64 (M 4), .int .i64 (M 5)] 66) from rfl] at L0
  have HL := Lib.hid L0
  clear L0 hgc
  generalize bshN n m (fun a b => (M a).toNat.testBit b) 2 = ys at *
  go_enter Try.func68, Try.ntmps68
  go_upto_region 1 with fail
  generalize w.alloc _ = w1 at *
  obtain ⟨e0, e1, e2, e3, e4, e5, e6, e7, _⟩ := HL.out.ownHas.eight
  go_wp2_with fail
  refine (HK.out _).mono ?_
  rintro e w2 ⟨v, rfl, hO, hb⟩
  replace HL := Lib.hid (HL.out.kept hb)
  obtain ⟨a, c, rfl, _⟩ := hO.reads
  clear hb hO e0 e1 e2 e3 e4 e5 e6 e7 HK
  go_wp2_with fail
  go_ret
  exact ⟨rfl, HL.out.below⟩
set_option maxRecDepth 100000 in
set_option maxHeartbeats 3200000 in
theorem specBishopNumbers_any (r c : Int) (xs : List Int) (w : World) (hx : xs.length ≤ 1048576) (lo : Nat) (s : Value) (hO : Own w lo s xs) :
    Calls Try.prog 26 #[.agg #[.int .i64 r, .int .i64 c, s]] w fun e w' => AnsL (bishR r c xs) w e w' := by
  have L0 := (Law.start w).box (.int .i64 r) (.int .i64 c) s 28
  have hO0 := hO.kept L0.below
  obtain ⟨a, cap, rfl, hr⟩ := hO.reads
  have hr0 := L0.reads hr
  have HL := Lib.hid L0
  have HO := Lib.hid hO0
  clear hO L0 hr hO0
  have HG := Lib.hid (boGood_any r c a cap xs _ hx hr0)
  clear hr0
  cases hg : goodB r c xs
  · rw [show bishR r c xs = ⟨[], false⟩ by simp [bishR, hg]]
    rw [hg] at HG
    clear hg HO
    go_enter Try.func26, Try.ntmps26
    go_upto_region 1 with fail
    generalize w.alloc _ = w1 at *
    have ⟨_, b0, b1, b2, _⟩ := HL.out.ownBox
    go_wp2_with fail
    refine HG.out.mono ?_
    rintro e w2 ⟨rfl, hb⟩
    replace HL := Lib.hid (HL.out.kept hb)
    clear hb HG b0 b1 b2
    go_wp2_with fail
    go_ret2
    exact ⟨_, rfl, Own.nil _ _, HL.out.below⟩
  · rw [hg] at HG
    have hgc := good_cell hg
    obtain ⟨⟨g1, g2⟩, ⟨g3, g4⟩, g5, _⟩ := good_facts hg
    obtain ⟨n, rfl⟩ := Int.eq_ofNat_of_zero_le (show 0 ≤ r by omega)
    obtain ⟨m, rfl⟩ := Int.eq_ofNat_of_zero_le (show 0 ≤ c by omega)
    rw [show bishR n m xs = ⟨bshN n m (fun a b => (xs.getD a 0).toNat.testBit b) 2, true⟩ by simp [bishR, hg]]
    have HK := Lib.hid (fun (W : World) (h : Own W lo (.slice a xs.length cap) xs) => biNumbers_any n m xs W hx hg lo _ h)
    have hlen := bshN_len n m (by omega) (by omega) (fun a b => (xs.getD a 0).toNat.testBit b)
    obtain ⟨ys, hys⟩ : ∃ ys, ys = bshN n m (fun a b => (xs.getD a 0).toNat.testBit b) 2 := ⟨_, rfl⟩
    rw [← hys] at HK hlen ⊢
    clear hg hgc g5 hys
    go_enter Try.func26, Try.ntmps26
    go_upto_region 1 with fail
    generalize w.alloc _ = w1 at *
    have ⟨_, b0, b1, b2, _⟩ := HL.out.ownBox
    go_wp2_with fail
    refine HG.out.mono ?_
    rintro e w2 ⟨rfl, hb⟩
    replace HL := Lib.hid (HL.out.kept hb)
    replace HO := Lib.hid (HO.out.kept hb)
    clear hb HG b0 b1 b2
    have ⟨_, b0, b1, b2, _⟩ := HL.out.ownBox
    go_wp2_with fail
    refine (HK.out _ HO.out).mono ?_
    rintro e w3 ⟨v, rfl, hO, hb⟩
    have HF := Lib.hid (And.intro (hO.lower HL.out.below.size) (below_on HL.out.below hb))
    clear hb hO b0 b1 b2 HL
    go_wp2_with fail
    go_ret2
    exact ⟨_, rfl, HF.out.1, HF.out.2⟩
set_option maxRecDepth 100000 in
set_option maxHeartbeats 3200000 in
theorem specMostBishops_any (r c : Int) (xs : List Int) (w : World) (hx : xs.length ≤ 1048576) (lo : Nat) (s : Value) (hO : Own w lo s xs) :
    Calls Try.prog 31 #[.agg #[.int .i64 r, .int .i64 c, s]] w fun e w' => AnsIO (mostBR r c xs) w e w' := by
  have L0 := (Law.start w).box (.int .i64 r) (.int .i64 c) s 28
  have hO0 := hO.kept L0.below
  obtain ⟨a, cap, rfl, hr⟩ := hO.reads
  have hr0 := L0.reads hr
  have HL := Lib.hid L0
  have HO := Lib.hid hO0
  clear hO L0 hr hO0
  have HG := Lib.hid (boGood_any r c a cap xs _ hx hr0)
  clear hr0
  cases hg : goodB r c xs
  · rw [show mostBR r c xs = ⟨0, false⟩ by simp [mostBR, hg]]
    rw [hg] at HG
    clear hg HO
    go_enter Try.func31, Try.ntmps31
    go_upto_region 1 with fail
    generalize w.alloc _ = w1 at *
    have ⟨_, b0, b1, b2, _⟩ := HL.out.ownBox
    go_wp2_with fail
    refine HG.out.mono ?_
    rintro e w2 ⟨rfl, hb⟩
    replace HL := Lib.hid (HL.out.kept hb)
    clear hb HG b0 b1 b2
    go_wp2_with fail
    go_ret2
    exact ⟨rfl, HL.out.below⟩
  · rw [hg] at HG
    have hgc := good_cell hg
    obtain ⟨⟨g1, g2⟩, ⟨g3, g4⟩, g5, _⟩ := good_facts hg
    obtain ⟨n, rfl⟩ := Int.eq_ofNat_of_zero_le (show 0 ≤ r by omega)
    obtain ⟨m, rfl⟩ := Int.eq_ofNat_of_zero_le (show 0 ≤ c by omega)
    rw [show mostBR n m xs = ⟨((bshN n m (fun a b => (xs.getD a 0).toNat.testBit b) 2).length : Int) - 1, true⟩ by simp [mostBR, hg]]
    have HK := Lib.hid (fun (W : World) (h : Own W lo (.slice a xs.length cap) xs) => biNumbers_any n m xs W hx hg lo _ h)
    have hlen := bshN_len n m (by omega) (by omega) (fun a b => (xs.getD a 0).toNat.testBit b)
    obtain ⟨ys, hys⟩ : ∃ ys, ys = bshN n m (fun a b => (xs.getD a 0).toNat.testBit b) 2 := ⟨_, rfl⟩
    rw [← hys] at HK hlen ⊢
    clear hg hgc g5 hys
    go_enter Try.func31, Try.ntmps31
    go_upto_region 1 with fail
    generalize w.alloc _ = w1 at *
    have ⟨_, b0, b1, b2, _⟩ := HL.out.ownBox
    go_wp2_with fail
    refine HG.out.mono ?_
    rintro e w2 ⟨rfl, hb⟩
    replace HL := Lib.hid (HL.out.kept hb)
    replace HO := Lib.hid (HO.out.kept hb)
    clear hb HG b0 b1 b2
    have ⟨_, b0, b1, b2, _⟩ := HL.out.ownBox
    go_wp2_with fail
    refine (HK.out _ HO.out).mono ?_
    rintro e w3 ⟨v, rfl, hO, hb⟩
    obtain ⟨a9, c9, hv, _⟩ := hO.reads
    subst hv
    replace HL := Lib.hid (HL.out.kept hb)
    clear hb hO b0 b1 b2
    go_wp2_with fail
    go_ret2
    exact ⟨rfl, HL.out.below⟩
set_option maxRecDepth 100000 in
set_option maxHeartbeats 3200000 in
theorem implBishopNumbers_any (r c : Int) (xs : List Int) (w : World) (hx : xs.length ≤ 1048576) (lo : Nat) (s : Value) (hO : Own w lo s xs) :
    Calls Try.prog 27 #[.agg #[.int .i64 r, .int .i64 c, s]] w fun e w' => AnsL (bishR r c xs) w e w' := by
  have L0 := (Law.start w).box (.int .i64 r) (.int .i64 c) s 28
  obtain ⟨a, cap, rfl, hr⟩ := hO.reads
  have hr0 := L0.reads hr
  have HL := Lib.hid L0
  clear hO L0 hr
  cases hg : goodB r c xs
  · rw [show bishR r c xs = ⟨[], false⟩ by simp [bishR, hg]]
    have HC := Lib.hid (gridOf_no r c a cap xs _ hx hr0 hg)
    clear hr0 hg
    go_enter Try.func27, Try.ntmps27
    go_upto_region 1 with fail
    generalize w.alloc _ = w1 at *
    have ⟨_, b0, b1, b2, _⟩ := HL.out.ownBox
    go_wp2_with fail
    refine HC.out.mono ?_
    rintro e w2 ⟨rfl, hb⟩
    replace HL := Lib.hid ((HL.out.kept hb).kept (below_new (.cells #[.int .i64 0, .int .i64 0, .int .i64 0, .int .i64 0, .int .i64 0, .int .i64 0, .int .i64 0, .int .i64 0] 66)))
    clear hb HC b0 b1 b2
    go_wp2_with fail
    go_ret2
    exact ⟨_, rfl, Own.nil _ _, HL.out.below⟩
  · have hgc := good_cell hg
    obtain ⟨⟨g1, g2⟩, ⟨g3, g4⟩, _, _⟩ := good_facts hg
    obtain ⟨n, rfl⟩ := Int.eq_ofNat_of_zero_le (show 0 ≤ r by omega)
    obtain ⟨m, rfl⟩ := Int.eq_ofNat_of_zero_le (show 0 ≤ c by omega)
    rw [show bishR n m xs = ⟨bshN n m (fun a b => (xs.getD a 0).toNat.testBit b) 2, true⟩ by simp [bishR, hg]]
    obtain ⟨M, hM, hc⟩ := gridOf_good n m a cap xs _ hx hr0 hg
    have HC := Lib.hid hc
    rw [show (fun a b => (xs.getD a 0).toNat.testBit b) = (fun a b => (M a).toNat.testBit b) from by funext a b; rw [hM]]
    simp only [← hM] at hgc
    have HK := Lib.hid (fun W => bishopNumbers_any n m M W (by omega) (by omega) (by omega) (by omega) (fun k _ => hgc k))
    clear hg hgc hc hr0 hM
    go_enter Try.func27, Try.ntmps27
    go_upto_region 1 with fail
    generalize w.alloc _ = w1 at *
    have ⟨_, b0, b1, b2, _⟩ := HL.out.ownBox
    go_wp2_with fail
    refine HC.out.mono ?_
    rintro e w2 ⟨rfl, hb⟩
    replace HL := Lib.hid ((HL.out.kept hb).has (gl n m M) 66)
    rw [show w2.alloc (.cells (gl n m M).toArray 66) = w2.alloc (.cells #[.int .i64 n, .int .i64 m, .int .i64 (M 0), .int .i64 (M 1), .int .i64 (M 2), .int .i64 (M 3), .int .i64 (M 4), .int .i64 (M 5)] 66) from rfl] at HL
    clear hb HC b0 b1 b2
    go_upto_region 2 with fail
    generalize w2.alloc _ = w3 at *
    obtain ⟨e0, e1, e2, e3, e4, e5, e6, e7, _⟩ := HL.out.ownHas.eight
    go_wp2_with fail
    refine (HK.out _).mono ?_
    rintro e w4 ⟨v, rfl, hO, hb⟩
    have HF := Lib.hid (And.intro (hO.lower HL.out.below.size) (below_on HL.out.below hb))
    clear hb hO e0 e1 e2 e3 e4 e5 e6 e7 HL
    go_wp2_with fail
    go_ret2
    exact ⟨_, rfl, HF.out.1, HF.out.2⟩
set_option maxRecDepth 100000 in
set_option maxHeartbeats 3200000 in
theorem implMostBishops_any (r c : Int) (xs : List Int) (w : World) (hx : xs.length ≤ 1048576) (lo : Nat) (s : Value) (hO : Own w lo s xs) :
    Calls Try.prog 32 #[.agg #[.int .i64 r, .int .i64 c, s]] w fun e w' => AnsIO (mostBR r c xs) w e w' := by
  have L0 := (Law.start w).box (.int .i64 r) (.int .i64 c) s 28
  obtain ⟨a, cap, rfl, hr⟩ := hO.reads
  have hr0 := L0.reads hr
  have HL := Lib.hid L0
  clear hO L0 hr
  cases hg : goodB r c xs
  · rw [show mostBR r c xs = ⟨0, false⟩ by simp [mostBR, hg]]
    have HC := Lib.hid (gridOf_no r c a cap xs _ hx hr0 hg)
    clear hr0 hg
    go_enter Try.func32, Try.ntmps32
    go_upto_region 1 with fail
    generalize w.alloc _ = w1 at *
    have ⟨_, b0, b1, b2, _⟩ := HL.out.ownBox
    go_wp2_with fail
    refine HC.out.mono ?_
    rintro e w2 ⟨rfl, hb⟩
    replace HL := Lib.hid ((HL.out.kept hb).kept (below_new (.cells #[.int .i64 0, .int .i64 0, .int .i64 0, .int .i64 0, .int .i64 0, .int .i64 0, .int .i64 0, .int .i64 0] 66)))
    clear hb HC b0 b1 b2
    go_wp2_with fail
    go_ret2
    exact ⟨rfl, HL.out.below⟩
  · have hgc := good_cell hg
    obtain ⟨⟨g1, g2⟩, ⟨g3, g4⟩, _, _⟩ := good_facts hg
    obtain ⟨n, rfl⟩ := Int.eq_ofNat_of_zero_le (show 0 ≤ r by omega)
    obtain ⟨m, rfl⟩ := Int.eq_ofNat_of_zero_le (show 0 ≤ c by omega)
    rw [show mostBR n m xs = ⟨((bshN n m (fun a b => (xs.getD a 0).toNat.testBit b) 2).length : Int) - 1, true⟩ by simp [mostBR, hg]]
    obtain ⟨M, hM, hc⟩ := gridOf_good n m a cap xs _ hx hr0 hg
    have HC := Lib.hid hc
    rw [show (fun a b => (xs.getD a 0).toNat.testBit b) = (fun a b => (M a).toNat.testBit b) from by funext a b; rw [hM]]
    simp only [← hM] at hgc
    have HK := Lib.hid (fun W => mostBishops_any n m M W (by omega) (by omega) (by omega) (by omega) (fun k _ => hgc k))
    clear hg hgc hc hr0 hM
    go_enter Try.func32, Try.ntmps32
    go_upto_region 1 with fail
    generalize w.alloc _ = w1 at *
    have ⟨_, b0, b1, b2, _⟩ := HL.out.ownBox
    go_wp2_with fail
    refine HC.out.mono ?_
    rintro e w2 ⟨rfl, hb⟩
    replace HL := Lib.hid ((HL.out.kept hb).has (gl n m M) 66)
    rw [show w2.alloc (.cells (gl n m M).toArray 66) = w2.alloc (.cells #[.int .i64 n, .int .i64 m, .int .i64 (M 0), .int .i64 (M 1), .int .i64 (M 2), .int .i64 (M 3), .int .i64 (M 4), .int .i64 (M 5)] 66) from rfl] at HL
    clear hb HC b0 b1 b2
    go_upto_region 2 with fail
    generalize w2.alloc _ = w3 at *
    obtain ⟨e0, e1, e2, e3, e4, e5, e6, e7, _⟩ := HL.out.ownHas.eight
    go_wp2_with fail
    refine (HK.out _).mono ?_
    rintro e w4 ⟨rfl, hb⟩
    replace HL := Lib.hid (HL.out.kept hb)
    clear hb e0 e1 e2 e3 e4 e5 e6 e7
    go_wp2_with fail
    go_ret2
    exact ⟨rfl, HL.out.below⟩

end Go.Proofs.Ytakdiiccdkjjcaa
