/- The order of rows, in the program. No condition but the sizes. -/
import Derived.Test.YtdimbnkgomfojaaFq
import Derived.Test.YtdimbnkgomfojaaQi
namespace Go.Proofs.Ytdimbnkgomfojaa
open Go.RowKit Go.WideShapes

set_option maxRecDepth 100000 in
set_option maxHeartbeats 1600000 in
theorem implOof_any (r c : Int) (xs : List Int) (w : World) (hx : xs.length ≤ 1048576) (lo : Nat) (s : Value) (hO : Own w lo s xs) :
    Calls Try.prog 40 #[.agg #[.int .i64 r, .int .i64 c, s]] w fun e w' => AnsL (oofR r c xs) w e w' := by
  have L0 := (Law.start w).box (.int .i64 r) (.int .i64 c) s 29
  obtain ⟨a, cap, rfl, hr⟩ := hO.reads
  have hr0 := L0.reads hr
  clear hO
  cases hg : goodB r c xs
  · rw [oofR_no r c xs (by rw [show sqF r c xs = false by simp [sqF, hg]]; rfl)]
    have HC := Lib.hid (gridOf_no r c a cap xs _ hx hr0 hg)
    have HL := Lib.hid L0
    clear L0 hg hr0
    go_enter Try.func40, Try.ntmps40
    go_wp2_with fail
    refine HC.out.mono ?_
    rintro e w1 ⟨rfl, hb⟩
    have HB := Lib.hid ((HL.out.kept hb).kept (below_new (.cells #[.int .i64 0, .int .i64 0, .int .i64 0, .int .i64 0, .int .i64 0, .int .i64 0, .int .i64 0, .int .i64 0] 59))).below
    clear HL hb
    go_wp2_with fail
    go_ret2
    exact ⟨_, rfl, Own.nil _ _, HB.out⟩
  · obtain ⟨⟨g1l, g1h⟩, ⟨g2l, g2h⟩, g3, _⟩ := good_facts hg
    obtain ⟨M, hM, hc⟩ := gridOf_good r c a cap xs _ hx hr0 hg
    obtain ⟨n, rfl⟩ := Int.eq_ofNat_of_zero_le (show 0 ≤ r by omega)
    have hn1 : 1 ≤ n := by omega
    have hn6 : n ≤ 6 := by omega
    obtain ⟨e1, e2⟩ := ordG_sorted n c xs M hg hM
    have hMb : ∀ k, 0 ≤ M k ∧ M k < 64 := fun k => by rw [hM]; exact good_cell hg k
    have hsl : (sortK (fun x => M x.toNat) (idxL n)).length = n := by rw [sortK_len, idxL_len]
    have hsm : ∀ x ∈ sortK (fun x => M x.toNat) (idxL n), 0 ≤ x ∧ x < n := fun x hx => by rw [sortK_mem, idxL_mem] at hx; exact hx
    obtain ⟨R, hR⟩ : ∃ R, R = oofR n c xs := ⟨_, rfl⟩
    rw [← hR]
    have hRno : (sqF n c xs && allBeg xs) = false → R = ⟨[], false⟩ := fun h => by rw [hR, oofR_no n c xs h]
    have hRyes : (sqF n c xs && allBeg xs) = true → R = ⟨sortK (fun x => M x.toNat) (idxL n), true⟩ := fun h => by rw [hR, oofR_yes n c xs h, e2 h]
    obtain ⟨S, hS⟩ : ∃ S, S = sortK (fun x => M x.toNat) (idxL n) := ⟨_, rfl⟩
    rw [← hS] at e1 hsl hsm hRyes
    have hord : ∀ k, k < 6 → 0 ≤ ordm M S n k ∧ ordm M S n k < 64 := fun k _ => by
      unfold ordm
      split
      · exact hMb _
      · exact hMb _
    have hlg := fun W => lenGrid_any n c (ordm M S n) W hn1 hn6 hord
    rw [e1] at hlg
    have hlg2 : ∃ (u : Int) (N : Nat → Int), ∀ W, Calls Try.prog 84 #[gv n c (ordm M S n)] W fun e w' => (e = .returned (.tuple #[sv u N, .bool (sqF n c xs && allBeg xs)])) ∧ Below W.heap.size W w' := by
      cases hh : sqF n c xs && allBeg xs
      · rw [hh] at hlg
        exact ⟨0, fun _ => 0, fun W => by simpa using hlg W⟩
      · rw [hh] at hlg
        exact ⟨n, fl (popL n (ordm M S n)), fun W => by simpa using hlg W⟩
    obtain ⟨u, N, hlg2⟩ := hlg2
    have hin := fun (a2 : Option Addr) (cap2 : Nat) W (h : Reads W a2 S.length S) => inOrder_any n c M a2 cap2 S W hn6 hsl h (fun k hk => hsm _ (by simp [List.getD, show k < S.length by omega]))
    rw [hsl] at hin
    have hst := fun (w0 : World) (ts : List Thing) (g p bg : Nat) (W : World) => sortStable_any w0 ts g n p bg n c M (idxL n) W hn1 hn6 (idxL_len n) (fun x hx => by rw [idxL_mem] at hx; omega)
    rw [← hS] at hst
    have hidx : idx0 n = idxL n := by
      rfl
    rw [← hidx] at hst
    obtain ⟨O, hOm⟩ : ∃ O, O = ordm M S n := ⟨_, rfl⟩
    rw [← hOm] at hlg2 hin
    have HC := Lib.hid hc
    have HL := Lib.hid L0
    have HST := Lib.hid hst
    have HIN := Lib.hid hin
    have HLG := Lib.hid hlg2
    have HSL := Lib.hid hsl
    have HRN := Lib.hid hRno
    have HRY := Lib.hid hRyes
    have HIX := Lib.hid (fun W => indices_any n W (by omega))
    generalize (sqF n c xs && allBeg xs) = bb at *
    clear L0 hg hr0 hc hst hin hlg hlg2 hsl hRno hRyes hidx hOm hS hsm hord hMb e1 e2 hR hM g1l g1h g2l g2h g3
    go_enter Try.func40, Try.ntmps40
    go_wp2_with fail
    refine HC.out.mono ?_
    rintro e w1 ⟨rfl, hb⟩
    have L1 := (HL.out.kept hb).has (gl n c M) 59
    rw [show w1.alloc (.cells (gl n c M).toArray 59) = w1.alloc (.cells #[.int .i64 n, .int .i64 c, .int .i64 (M 0), .int .i64 (M 1), .int .i64 (M 2), .int .i64 (M 3), .int .i64 (M 4), .int .i64 (M 5)] 59) from rfl] at L1
    have HL1 := Lib.hid L1
    clear HL hb L1 HC
    go_upto_region 2 with fail
    generalize w1.alloc _ = w5 at *
    have ⟨e0, _⟩ := HL1.out.ownHas.eight
    go_wp2_with fail
    refine (HIX.out _).mono ?_
    rintro e wr ⟨g0, rfl, hO, hb⟩
    have L := HL1.out.own hb hO
    have hc := HST.out w [tBox w.heap.size (.int .i64 n) (.int .i64 c) (.slice a xs.length cap)] g0 n w1.heap.size wr L
    have HC := Lib.hid hc
    clear L hc hO hb HST HL1 e0
    go_wp2_with fail
    refine HC.out.mono ?_
    rintro e w7 ⟨⟨v, rfl⟩, L7⟩
    obtain ⟨e0, e1, e2, e3, e4, e5, e6, e7, _⟩ := L7.tl.ownHas.eight
    have hrd := own_readsN L7.ownInts HSL.out
    have hin := HIN.out _ n w7 hrd
    have HI := Lib.hid hin
    have HL7 := Lib.hid L7
    clear hin hrd L7 HC HIN
    go_wp2_with fail
    refine HI.out.mono ?_
    rintro e w8 ⟨rfl, hb⟩
    have HL8 := Lib.hid (HL7.out.kept hb)
    clear HL7 hb HI e0 e1 e2 e3 e4 e5 e6 e7
    go_wp2_with fail
    refine (HLG.out _).mono ?_
    rintro e w9 ⟨rfl, hb⟩
    have HL9 := Lib.hid ((HL8.out.kept hb).kept (below_new (.cells #[.int .i64 u, .int .i64 (N 0), .int .i64 (N 1), .int .i64 (N 2), .int .i64 (N 3), .int .i64 (N 4), .int .i64 (N 5)] 88)))
    clear HL8 hb HLG
    cases bb
    · have HRR := Lib.hid (HRN.out rfl)
      go_wp2_with fail
      go_ret2
      rw [HRR.out]
      exact ⟨_, rfl, Own.nil _ _, HL9.out.below⟩
    · have HRR := Lib.hid (HRY.out rfl)
      go_wp2_with fail
      go_ret2
      rw [HRR.out]
      exact ⟨_, rfl, HL9.out.ownLo, HL9.out.below⟩

end Go.Proofs.Ytdimbnkgomfojaa
