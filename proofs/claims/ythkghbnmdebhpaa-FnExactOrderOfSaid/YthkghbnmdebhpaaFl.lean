/- The lengths of a board, and whether it is ordered: both texts. No condition but the sizes. -/
import Derived.Test.YthkghbnmdebhpaaFj
import Derived.Test.YthkghbnmdebhpaaFt
namespace Go.Proofs.Ythkghbnmdebhpaa
open Go.RowKit Go.WideShapes

/-- What LengthsOf answers. -/
def lofR (r c : Int) (xs : List Int) : LR := if sqF r c xs && (allBeg xs && lenB (xs.map pop)) then ⟨xs.map pop, true⟩ else ⟨[], false⟩
theorem lofR_len (r c : Int) (xs : List Int) : (lofR r c xs).ys.length ≤ 1048576 := by
  unfold lofR
  split
  · rename_i h
    rw [Bool.and_eq_true, Bool.and_eq_true] at h
    have := len_facts h.2.2
    show (xs.map pop).length ≤ _
    omega
  · simp
/-- What IsOrdered answers. -/
def isoR (r c : Int) (xs : List Int) : R2 := if goodB r c xs then ⟨(lofR r c xs).ok, true⟩ else ⟨false, false⟩
theorem lofR_no (r c : Int) (xs : List Int) (h : (sqF r c xs && (allBeg xs && lenB (xs.map pop))) = false) : lofR r c xs = ⟨[], false⟩ := by unfold lofR; rw [h]; rfl
theorem lofR_yes (r c : Int) (xs : List Int) (h : (sqF r c xs && (allBeg xs && lenB (xs.map pop))) = true) : lofR r c xs = ⟨xs.map pop, true⟩ := by unfold lofR; rw [h]; rfl
theorem popL_map (xs : List Int) (n : Nat) (M : Nat → Int) (hn : xs.length = n) (hM : ∀ k, k < n → M k = xs.getD k 0) : popL n M = xs.map pop := by
  subst hn
  refine List.ext_getElem (by simp [popL, lstI]) (fun i h1 h2 => ?_)
  simp only [popL, lstI, List.getElem_map, List.getElem_range]
  rw [hM i (by simpa [popL, lstI] using h1)]
  simp [List.getD, show i < xs.length by simpa using h2]
theorem ordG_all (xs : List Int) (n : Nat) (m : Int) (M : Nat → Int) (hn : xs.length = n) (hM : ∀ k, k < n → M k = xs.getD k 0) : ordG n m M = (((n : Int) == m) && (allBeg xs && lenB (xs.map pop))) := by
  unfold ordG
  rw [Int.toNat_natCast, popL_map xs n M hn hM]
  congr 2
  unfold allBeg
  rw [hn]
  rw [Bool.eq_iff_iff]
  simp only [List.all_eq_true, List.mem_range]
  exact ⟨fun h k hk => by rw [← hM k hk]; exact h k hk, fun h k hk => by rw [hM k hk]; exact h k hk⟩

set_option maxRecDepth 100000 in
set_option maxHeartbeats 800000 in
theorem specLof_any (r c : Int) (xs : List Int) (w : World) (hx : xs.length ≤ 1048576) (lo : Nat) (s : Value) (hO : Own w lo s xs) :
    Calls Try.prog 26 #[.agg #[.int .i64 r, .int .i64 c, s]] w fun e w' => AnsL (lofR r c xs) w e w' := by
  have L0 := (Law.start w).box (.int .i64 r) (.int .i64 c) s 27
  obtain ⟨a, cap, rfl, hr⟩ := hO.reads
  clear hO
  cases hg : sqF r c xs
  · rw [lofR_no r c xs (by rw [hg]; rfl)]
    have HC := Lib.hid (fun W (h : Reads W a xs.length xs) => at_boolB (roSquareF_any r c xs W hx a cap h) hg)
    have ⟨_, k0, k1, k2, _⟩ := L0.ownBox
    have hr0 := L0.reads hr
    have HL := Lib.hid L0
    clear L0 hg
    go_enter Try.func26, Try.ntmps26
    go_wp2_with fail
    refine (HC.out _ hr0).mono ?_
    rintro e w1 ⟨rfl, hb⟩
    have HB := Lib.hid (HL.out.kept hb).below
    clear HL hb k0 k1 k2 hr0
    go_wp2_with fail
    go_ret2
    exact ⟨_, rfl, Own.nil _ _, HB.out⟩
  · have hgood := (sqF_facts hg).1
    have hgc := good_cell hgood
    have HC := Lib.hid (fun W (h : Reads W a xs.length xs) => at_boolB (roSquareF_any r c xs W hx a cap h) hg)
    have HF := Lib.hid (fun W (h : Reads W a xs.length xs) => feLengths_any r c a cap xs W hx hgc h)
    cases hb : allBeg xs
    · rw [lofR_no r c xs (by rw [hg, hb]; rfl)]
      rw [show lensB xs = ⟨[], false⟩ by simp [lensB, hb]] at HF
      have ⟨_, k0, k1, k2, _⟩ := L0.ownBox
      have hr0 := L0.reads hr
      have HL := Lib.hid L0
      clear L0 hg hb hgood hgc
      go_enter Try.func26, Try.ntmps26
      go_wp2_with fail
      refine (HC.out _ hr0).mono ?_
      rintro e w1 ⟨rfl, hb⟩
      have L1 := HL.out.kept hb
      clear HL hb k0 k1 k2 hr0 HC
      have ⟨_, k0, k1, k2, _⟩ := L1.ownBox
      have hr1 := L1.reads hr
      have HL := Lib.hid L1
      clear L1
      go_wp2_with fail
      refine (HF.out _ hr1).mono ?_
      rintro e w2 ⟨s2, rfl, _, hb⟩
      have HB := Lib.hid (HL.out.kept hb).below
      clear HL hb k0 k1 k2 hr1 HF
      go_wp2_with fail
      go_ret2
      exact ⟨_, rfl, Own.nil _ _, HB.out⟩
    · rw [show lensB xs = ⟨xs.map pop, true⟩ by simp [lensB, hb]] at HF
      have hml : (xs.map pop).length ≤ 1048576 := by rw [List.length_map]; exact hx
      cases hl : lenB (xs.map pop)
      · rw [lofR_no r c xs (by rw [hg, hb, hl]; rfl)]
        generalize xs.map pop = ys at *
        have HG := Lib.hid (fun a2 p2 W (h : Reads W a2 ys.length ys) => at_boolB (feGood_any a2 p2 ys W hml h) hl)
        have ⟨_, k0, k1, k2, _⟩ := L0.ownBox
        have hr0 := L0.reads hr
        have HL := Lib.hid L0
        clear L0 hg hb hgood hgc hl
        go_enter Try.func26, Try.ntmps26
        go_wp2_with fail
        refine (HC.out _ hr0).mono ?_
        rintro e w1 ⟨rfl, hb⟩
        have L1 := HL.out.kept hb
        clear HL hb k0 k1 k2 hr0 HC
        have ⟨_, k0, k1, k2, _⟩ := L1.ownBox
        have hr1 := L1.reads hr
        have HL := Lib.hid L1
        clear L1
        go_wp2_with fail
        refine (HF.out _ hr1).mono ?_
        rintro e w2 ⟨s2, rfl, O2, hb⟩
        obtain ⟨a2, p2, rfl, hr2⟩ := O2.reads
        have L2 := HL.out.own hb O2
        have HL2 := Lib.hid L2
        clear HL hb k0 k1 k2 hr1 HF L2 O2
        go_wp2_with fail
        refine (HG.out _ _ _ hr2).mono ?_
        rintro e w3 ⟨rfl, hb⟩
        have HB := Lib.hid (HL2.out.kept hb).below
        clear HL2 hb
        go_wp2_with fail
        go_ret2
        exact ⟨_, rfl, Own.nil _ _, HB.out⟩
      · rw [lofR_yes r c xs (by rw [hg, hb, hl]; rfl)]
        generalize xs.map pop = ys at *
        have HG := Lib.hid (fun a2 p2 W (h : Reads W a2 ys.length ys) => at_boolB (feGood_any a2 p2 ys W hml h) hl)
        have ⟨_, k0, k1, k2, _⟩ := L0.ownBox
        have hr0 := L0.reads hr
        have HL := Lib.hid L0
        clear L0 hg hb hgood hgc hl
        go_enter Try.func26, Try.ntmps26
        go_wp2_with fail
        refine (HC.out _ hr0).mono ?_
        rintro e w1 ⟨rfl, hb⟩
        have L1 := HL.out.kept hb
        clear HL hb k0 k1 k2 hr0 HC
        have ⟨_, k0, k1, k2, _⟩ := L1.ownBox
        have hr1 := L1.reads hr
        have HL := Lib.hid L1
        clear L1
        go_wp2_with fail
        refine (HF.out _ hr1).mono ?_
        rintro e w2 ⟨s2, rfl, O2, hb⟩
        obtain ⟨a2, p2, rfl, hr2⟩ := O2.reads
        have L2 := HL.out.own hb O2
        have HL2 := Lib.hid L2
        clear HL hb k0 k1 k2 hr1 HF L2 O2
        go_wp2_with fail
        refine (HG.out _ _ _ hr2).mono ?_
        rintro e w3 ⟨rfl, hb⟩
        have HL3 := Lib.hid (HL2.out.kept hb)
        clear HL2 hb
        go_wp2_with fail
        go_ret2
        exact ⟨_, rfl, HL3.out.ownLo, HL3.out.below⟩

set_option maxRecDepth 100000 in
set_option maxHeartbeats 800000 in
theorem implLof_any (r c : Int) (xs : List Int) (w : World) (hx : xs.length ≤ 1048576) (lo : Nat) (s : Value) (hO : Own w lo s xs) :
    Calls Try.prog 28 #[.agg #[.int .i64 r, .int .i64 c, s]] w fun e w' => AnsL (lofR r c xs) w e w' := by
  have L0 := (Law.start w).box (.int .i64 r) (.int .i64 c) s 27
  obtain ⟨a, cap, rfl, hr⟩ := hO.reads
  have hr0 := L0.reads hr
  clear hO
  cases hg : goodB r c xs
  · rw [lofR_no r c xs (by rw [show sqF r c xs = false by simp [sqF, hg]]; rfl)]
    have HC := Lib.hid (gridOf_no r c a cap xs _ hx hr0 hg)
    have HL := Lib.hid L0
    clear L0 hg hr0
    go_enter Try.func28, Try.ntmps28
    go_wp2_with fail
    refine HC.out.mono ?_
    rintro e w1 ⟨rfl, hb⟩
    have HB := Lib.hid ((HL.out.kept hb).kept (below_new (.cells #[.int .i64 0, .int .i64 0, .int .i64 0, .int .i64 0, .int .i64 0, .int .i64 0, .int .i64 0, .int .i64 0] 54))).below
    clear HL hb
    go_wp2_with fail
    go_ret2
    exact ⟨_, rfl, Own.nil _ _, HB.out⟩
  · obtain ⟨⟨g1l, g1h⟩, ⟨g2l, g2h⟩, g3, _⟩ := good_facts hg
    obtain ⟨M, hM, hc⟩ := gridOf_good r c a cap xs _ hx hr0 hg
    obtain ⟨n, rfl⟩ := Int.eq_ofNat_of_zero_le (show 0 ≤ r by omega)
    have hxn : xs.length = n := by omega
    have hq := ordG_all xs n c M hxn (fun k _ => hM k)
    have hG := fun W => lenGrid_any n c M W (by omega) (by omega) (fun k _ => by rw [hM]; exact good_cell hg k)
    have hsq : sqF n c xs = ((n : Int) == c) := by simp [sqF, hg]
    rw [← hsq] at hq
    rw [popL_map xs n M hxn (fun k _ => hM k)] at hG
    have HC := Lib.hid hc
    have HL := Lib.hid L0
    cases ho : sqF n c xs && (allBeg xs && lenB (xs.map pop))
    · rw [lofR_no n c xs ho]
      rw [hq, ho] at hG
      simp only [Bool.false_eq_true, if_false] at hG
      have HG := Lib.hid hG
      clear L0 hg hr0 hc hq hG hM hsq ho hxn g3 g1l g1h g2l g2h
      go_enter Try.func28, Try.ntmps28
      go_wp2_with fail
      refine HC.out.mono ?_
      rintro e w1 ⟨rfl, hb⟩
      have L1 := (HL.out.kept hb).kept (below_new (.cells #[.int .i64 n, .int .i64 c, .int .i64 (M 0), .int .i64 (M 1), .int .i64 (M 2), .int .i64 (M 3), .int .i64 (M 4), .int .i64 (M 5)] 54))
      have HL1 := Lib.hid L1
      clear HL hb L1
      go_wp2_with fail
      refine (HG.out _).mono ?_
      rintro e w2 ⟨rfl, hb⟩
      have HB := Lib.hid ((HL1.out.kept hb).kept (below_new (.cells #[.int .i64 0, .int .i64 0, .int .i64 0, .int .i64 0, .int .i64 0, .int .i64 0, .int .i64 0] 49))).below
      clear HL1 hb
      go_wp2_with fail
      go_ret2
      exact ⟨_, rfl, Own.nil _ _, HB.out⟩
    · rw [lofR_yes n c xs ho]
      rw [hq, ho] at hG
      simp only [if_true] at hG
      rw [Bool.and_eq_true, Bool.and_eq_true] at ho
      obtain ⟨l1, l6, _⟩ := len_facts ho.2.2
      have hln : (xs.map pop).length = n := by rw [List.length_map]; exact hxn
      have hI := fun W => list_any (xs.map pop) W l6
      rw [hln] at hI
      generalize xs.map pop = ys at *
      obtain ⟨N, hN⟩ : ∃ N : Nat → Int, N = fl ys := ⟨_, rfl⟩
      rw [← hN] at hI hG
      have HG := Lib.hid hG
      have HI := Lib.hid hI
      clear L0 hg hr0 hc hq hG hM hsq ho hI hN l1 l6 hln hxn g3 g1l g1h g2l g2h
      go_enter Try.func28, Try.ntmps28
      go_wp2_with fail
      refine HC.out.mono ?_
      rintro e w1 ⟨rfl, hb⟩
      have L1 := (HL.out.kept hb).kept (below_new (.cells #[.int .i64 n, .int .i64 c, .int .i64 (M 0), .int .i64 (M 1), .int .i64 (M 2), .int .i64 (M 3), .int .i64 (M 4), .int .i64 (M 5)] 54))
      have HL1 := Lib.hid L1
      clear HL hb L1
      go_wp2_with fail
      refine (HG.out _).mono ?_
      rintro e w2 ⟨rfl, hb⟩
      have L2 := (HL1.out.kept hb).kept (below_new (.cells #[.int .i64 n, .int .i64 (N 0), .int .i64 (N 1), .int .i64 (N 2), .int .i64 (N 3), .int .i64 (N 4), .int .i64 (N 5)] 49))
      have HL2 := Lib.hid L2
      clear HL1 hb L2
      go_wp2_with fail
      refine (HI.out _).mono ?_
      rintro e w3 ⟨v, rfl, hO, hb⟩
      have HL3 := Lib.hid (HL2.out.own hb hO)
      clear HL2 hb hO
      go_wp2_with fail
      go_ret2
      exact ⟨_, rfl, HL3.out.ownLo, HL3.out.below⟩

set_option maxRecDepth 100000 in
set_option maxHeartbeats 800000 in
theorem specIso_any (r c : Int) (xs : List Int) (w : World) (hx : xs.length ≤ 1048576) (lo : Nat) (s : Value) (hO : Own w lo s xs) :
    Calls Try.prog 30 #[.agg #[.int .i64 r, .int .i64 c, s]] w fun e w' => AnsOO (isoR r c xs) w e w' := by
  have L0 := (Law.start w).box (.int .i64 r) (.int .i64 c) s 27
  have hO0 := hO.kept L0.below
  obtain ⟨a, cap, rfl, hr⟩ := hO.reads
  have hr0 := L0.reads hr
  clear hO
  cases hg : goodB r c xs
  · rw [show isoR r c xs = ⟨false, false⟩ by simp [isoR, hg]]
    have HC := Lib.hid (at_boolB (boGood_any r c a cap xs _ hx hr0) hg)
    have HL := Lib.hid L0
    clear L0 hg hr0 hO0
    go_enter Try.func30, Try.ntmps30
    go_wp2_with fail
    refine HC.out.mono ?_
    rintro e w1 ⟨rfl, hb⟩
    have HB := Lib.hid (HL.out.kept hb).below
    clear HL hb
    go_wp2_with fail
    go_ret2
    exact ⟨rfl, HB.out⟩
  · rw [show isoR r c xs = ⟨(lofR r c xs).ok, true⟩ by simp [isoR, hg]]
    have HC := Lib.hid (at_boolB (boGood_any r c a cap xs _ hx hr0) hg)
    have HS := Lib.hid (fun W (h : Own W lo (.slice a xs.length cap) xs) => specLof_any r c xs W hx lo _ h)
    generalize lofR r c xs = R at *
    have HL := Lib.hid L0
    clear L0 hg hr0
    go_enter Try.func30, Try.ntmps30
    go_wp2_with fail
    refine HC.out.mono ?_
    rintro e w1 ⟨rfl, hb⟩
    have L1 := HL.out.kept hb
    have hO1 := hO0.kept hb
    have ⟨_, k0, k1, k2, _⟩ := L1.ownBox
    have HL1 := Lib.hid L1
    clear HL hb L1 hO0
    go_wp2_with fail
    refine (HS.out _ hO1).mono ?_
    rintro e w2 ⟨s2, rfl, O2, hb⟩
    have HB := Lib.hid (HL1.out.kept hb).below
    clear HL1 hb O2 k0 k1 k2
    go_wp2_with fail
    go_ret2
    exact ⟨rfl, HB.out⟩

set_option maxRecDepth 100000 in
set_option maxHeartbeats 800000 in
theorem implIso_any (r c : Int) (xs : List Int) (w : World) (hx : xs.length ≤ 1048576) (lo : Nat) (s : Value) (hO : Own w lo s xs) :
    Calls Try.prog 31 #[.agg #[.int .i64 r, .int .i64 c, s]] w fun e w' => AnsOO (isoR r c xs) w e w' := by
  have L0 := (Law.start w).box (.int .i64 r) (.int .i64 c) s 27
  obtain ⟨a, cap, rfl, hr⟩ := hO.reads
  have hr0 := L0.reads hr
  clear hO
  cases hg : goodB r c xs
  · rw [show isoR r c xs = ⟨false, false⟩ by simp [isoR, hg]]
    have HC := Lib.hid (gridOf_no r c a cap xs _ hx hr0 hg)
    have HL := Lib.hid L0
    clear L0 hg hr0
    go_enter Try.func31, Try.ntmps31
    go_wp2_with fail
    refine HC.out.mono ?_
    rintro e w1 ⟨rfl, hb⟩
    have HB := Lib.hid ((HL.out.kept hb).kept (below_new (.cells #[.int .i64 0, .int .i64 0, .int .i64 0, .int .i64 0, .int .i64 0, .int .i64 0, .int .i64 0, .int .i64 0] 54))).below
    clear HL hb
    go_wp2_with fail
    go_ret2
    exact ⟨rfl, HB.out⟩
  · obtain ⟨⟨g1l, g1h⟩, ⟨g2l, g2h⟩, g3, _⟩ := good_facts hg
    obtain ⟨M, hM, hc⟩ := gridOf_good r c a cap xs _ hx hr0 hg
    obtain ⟨n, rfl⟩ := Int.eq_ofNat_of_zero_le (show 0 ≤ r by omega)
    have hxn : xs.length = n := by omega
    have hq := ordG_all xs n c M hxn (fun k _ => hM k)
    have hG := fun W => lenGrid_any n c M W (by omega) (by omega) (fun k _ => by rw [hM]; exact good_cell hg k)
    have hsq : sqF n c xs = ((n : Int) == c) := by simp [sqF, hg]
    rw [← hsq] at hq
    have hok : (lofR n c xs).ok = ordG n c M := by
      rw [hq]
      unfold lofR
      cases sqF n c xs && (allBeg xs && lenB (xs.map pop)) <;> rfl
    rw [show isoR n c xs = ⟨ordG n c M, true⟩ by simp [isoR, hg, hok]]
    have hG2 : ∃ (u : Int) (N : Nat → Int), ∀ W, Calls Try.prog 57 #[gv n c M] W fun e w' => (e = .returned (.tuple #[sv u N, .bool (ordG n c M)])) ∧ Below W.heap.size W w' := by
      cases hh : ordG n c M
      · rw [hh] at hG
        exact ⟨0, fun _ => 0, fun W => by simpa using hG W⟩
      · rw [hh] at hG
        exact ⟨n, fl (popL n M), fun W => by simpa using hG W⟩
    obtain ⟨u, N, hG2⟩ := hG2
    generalize ordG n c M = R at *
    have HC := Lib.hid hc
    have HL := Lib.hid L0
    have HG := Lib.hid hG2
    clear L0 hg hr0 hc hq hG hM hsq hok hG2 hxn g3 g1l g1h g2l g2h
    go_enter Try.func31, Try.ntmps31
    go_wp2_with fail
    refine HC.out.mono ?_
    rintro e w1 ⟨rfl, hb⟩
    have L1 := (HL.out.kept hb).kept (below_new (.cells #[.int .i64 n, .int .i64 c, .int .i64 (M 0), .int .i64 (M 1), .int .i64 (M 2), .int .i64 (M 3), .int .i64 (M 4), .int .i64 (M 5)] 54))
    have HL1 := Lib.hid L1
    clear HL hb L1
    go_wp2_with fail
    refine (HG.out _).mono ?_
    rintro e w2 ⟨rfl, hb⟩
    have HB := Lib.hid ((HL1.out.kept hb).kept (below_new (.cells #[.int .i64 u, .int .i64 (N 0), .int .i64 (N 1), .int .i64 (N 2), .int .i64 (N 3), .int .i64 (N 4), .int .i64 (N 5)] 49))).below
    clear HL1 hb
    go_wp2_with fail
    go_ret2
    exact ⟨rfl, HB.out⟩

end Go.Proofs.Ythkghbnmdebhpaa
