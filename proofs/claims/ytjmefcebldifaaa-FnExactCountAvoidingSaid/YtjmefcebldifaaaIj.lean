/- Hit numbers, in the program. No condition but the sizes. -/
import Derived.Test.YtjmefcebldifaaaIi
namespace Go.Proofs.Ytjmefcebldifaaa
open Go.RowKit Go.WideShapes

set_option maxRecDepth 100000 in
set_option maxHeartbeats 3200000 in
theorem implHits_any (r c : Int) (xs : List Int) (w : World) (hx : xs.length ≤ 1048576) (lo : Nat) (s : Value) (hO : Own w lo s xs) :
    Calls Try.prog 40 #[.agg #[.int .i64 r, .int .i64 c, s]] w fun e w' => AnsL (hitR r c xs) w e w' := by
  have L0 := (Law.start w).box (.int .i64 r) (.int .i64 c) s 28
  obtain ⟨a, cap, rfl, hr⟩ := hO.reads
  have hr0 := L0.reads hr
  clear hO
  obtain ⟨R1, C1, M, hM, hc⟩ := squareOf_any r c a cap xs _ hx hr0
  cases hs : sqB r c xs
  · rw [show hitR r c xs = ⟨[], false⟩ by simp [hitR, hs]]
    rw [hs] at hc
    have HC := Lib.hid hc
    clear hs hr0 hM hc
    go_enter Try.func40, Try.ntmps40
    go_wp2_with fail
    refine HC.out.mono ?_
    rintro e w1 ⟨rfl, hb⟩
    have HB := Lib.hid ((L0.kept hb).kept (below_new (.cells #[.int .i64 R1, .int .i64 C1, .int .i64 (M 0), .int .i64 (M 1), .int .i64 (M 2), .int .i64 (M 3), .int .i64 (M 4), .int .i64 (M 5)] 53))).below
    clear L0 hb
    go_wp2_with fail
    go_ret2
    exact ⟨_, rfl, Own.nil _ _, HB.out⟩
  · rw [hs] at hc
    obtain ⟨rfl, rfl, hMM⟩ := hM hs
    clear hM
    have hM := hMM
    obtain ⟨hg, he⟩ := sq_facts hs
    obtain ⟨g1, g2, g3, _⟩ := good_facts hg
    subst he
    obtain ⟨n, rfl⟩ := Int.eq_ofNat_of_zero_le (show 0 ≤ R1 by omega)
    rw [show hitR n n xs = ⟨lstL (n + 1) (pH n (bt xs) n 0 0), true⟩ by simp [hitR, hs]]
    have hgc : ∀ k, 0 ≤ M k ∧ M k < 64 := fun k => by rw [hM k]; exact good_cell hg k
    have hBM : bM M = bt xs := by funext a b; simp only [bM, bt, hM]
    have hrn := fun W => rookNumbers_any n n M W (by omega) (by omega) (fun k _ => hgc k)
    rw [hBM, Nat.min_self] at hrn
    have HRN := Lib.hid hrn
    have HH := Lib.hid (fun (a : Option Addr) (p : Nat) (W : World) (h : Reads W a (n + 1) (lstL (n + 1) (wR n (bt xs) n 0 0))) => hitsFromRooks_any (n + 1) (lstL (n + 1) (wR n (bt xs) n 0 0)) a p W (by omega) (by omega) (hits_bd n (bt xs) (by omega)) h)
    have HE := Lib.hid (hfr_hits n (by omega) (bt xs))
    have HC := Lib.hid hc
    have HL := Lib.hid L0
    clear hs hr0 hM hMM hc hg g1 g2 g3 hgc hBM hrn L0
    go_enter Try.func40, Try.ntmps40
    go_wp2_with fail
    refine HC.out.mono ?_
    rintro e w1 ⟨rfl, hb⟩
    have L1 := (HL.out.kept hb).has (gl n n M) 53
    rw [show w1.alloc (.cells (gl n n M).toArray 53) = w1.alloc (.cells #[.int .i64 n, .int .i64 n, .int .i64 (M 0), .int .i64 (M 1), .int .i64 (M 2), .int .i64 (M 3), .int .i64 (M 4), .int .i64 (M 5)] 53) from rfl] at L1
    have HL1 := Lib.hid L1
    clear L1 hb HL HC
    go_upto_region 4 with fail
    generalize w1.alloc (.cells #[.int .i64 n, .int .i64 n, .int .i64 (M 0), .int .i64 (M 1), .int .i64 (M 2), .int .i64 (M 3), .int .i64 (M 4), .int .i64 (M 5)] 53) = w5 at *
    have ⟨e0, e1, e2, e3, e4, e5, e6, e7, _⟩ := HL1.out.ownHas.eight
    go_wp2_with fail
    refine (HRN.out _).mono ?_
    rintro e w6 ⟨g, p, rfl, hO, hb⟩
    have L2 := HL1.out.own hb hO
    have hrd : Reads w6 (some ⟨g, 0, none⟩) (n + 1) (lstL (n + 1) (wR n (bt xs) n 0 0)) := by
      obtain ⟨a, q, e, h⟩ := hO.reads
      rw [lstL_len] at e h
      cases e
      exact h
    have HRD := Lib.hid hrd
    have HL2 := Lib.hid L2
    clear hO hb L2 hrd HL1 e0 e1 e2 e3 e4 e5 e6 e7 HRN
    go_wp2_with fail
    refine (HH.out _ _ _ HRD.out).mono ?_
    rintro e w7 ⟨g2, p2, rfl, hO, hb⟩
    rw [HE.out] at hO
    have HL3 := Lib.hid (HL2.out.own hb hO)
    clear hO hb HL2 HRD HH HE
    go_wp2_with fail
    go_ret2
    exact ⟨_, rfl, HL3.out.ownLo, HL3.out.below⟩

set_option maxRecDepth 100000 in
set_option maxHeartbeats 3200000 in
theorem implAvoid_any (r c : Int) (xs : List Int) (w : World) (hx : xs.length ≤ 1048576) (lo : Nat) (s : Value) (hO : Own w lo s xs) :
    Calls Try.prog 42 #[.agg #[.int .i64 r, .int .i64 c, s]] w fun e w' => AnsIO (avoidB r c xs) w e w' := by
  have L0 := (Law.start w).box (.int .i64 r) (.int .i64 c) s 28
  obtain ⟨a, cap, rfl, hr⟩ := hO.reads
  have hr0 := L0.reads hr
  clear hO
  obtain ⟨R1, C1, M, hM, hc⟩ := squareOf_any r c a cap xs _ hx hr0
  cases hs : sqB r c xs
  · rw [show avoidB r c xs = ⟨0, false⟩ by simp [avoidB, hs]]
    rw [hs] at hc
    have HC := Lib.hid hc
    clear hs hr0 hM hc
    go_enter Try.func42, Try.ntmps42
    go_wp2_with fail
    refine HC.out.mono ?_
    rintro e w1 ⟨rfl, hb⟩
    have HB := Lib.hid ((L0.kept hb).kept (below_new (.cells #[.int .i64 R1, .int .i64 C1, .int .i64 (M 0), .int .i64 (M 1), .int .i64 (M 2), .int .i64 (M 3), .int .i64 (M 4), .int .i64 (M 5)] 53))).below
    clear L0 hb
    go_wp2_with fail
    go_ret2
    exact ⟨rfl, HB.out⟩
  · rw [hs] at hc
    obtain ⟨rfl, rfl, hMM⟩ := hM hs
    clear hM
    have hM := hMM
    obtain ⟨hg, he⟩ := sq_facts hs
    obtain ⟨g1, g2, g3, _⟩ := good_facts hg
    subst he
    obtain ⟨n, rfl⟩ := Int.eq_ofNat_of_zero_le (show 0 ≤ R1 by omega)
    rw [show avoidB n n xs = ⟨(pH n (bt xs) n 0 0 0 : Nat), true⟩ by simp [avoidB, hs]]
    have hgc : ∀ k, 0 ≤ M k ∧ M k < 64 := fun k => by rw [hM k]; exact good_cell hg k
    have hBM : bM M = bt xs := by funext a b; simp only [bM, bt, hM]
    have hrn := fun W => rookNumbers_any n n M W (by omega) (by omega) (fun k _ => hgc k)
    rw [hBM, Nat.min_self] at hrn
    have HRN := Lib.hid hrn
    have HH := Lib.hid (fun (a : Option Addr) (p : Nat) (W : World) (h : Reads W a (n + 1) (lstL (n + 1) (wR n (bt xs) n 0 0))) => hitsFromRooks_any (n + 1) (lstL (n + 1) (wR n (bt xs) n 0 0)) a p W (by omega) (by omega) (hits_bd n (bt xs) (by omega)) h)
    have HE := Lib.hid (hfr_hits n (by omega) (bt xs))
    have HC := Lib.hid hc
    have HL := Lib.hid L0
    have hn1 : (0 : Int) < ((n + 1 : Nat) : Int) := by omega
    have hn2 : (0 : Int) < (n : Int) + 1 := by omega
    clear hs hr0 hM hMM hc hg g1 g2 g3 hgc hBM hrn L0
    go_enter Try.func42, Try.ntmps42
    go_wp2_with fail
    refine HC.out.mono ?_
    rintro e w1 ⟨rfl, hb⟩
    have L1 := (HL.out.kept hb).has (gl n n M) 53
    rw [show w1.alloc (.cells (gl n n M).toArray 53) = w1.alloc (.cells #[.int .i64 n, .int .i64 n, .int .i64 (M 0), .int .i64 (M 1), .int .i64 (M 2), .int .i64 (M 3), .int .i64 (M 4), .int .i64 (M 5)] 53) from rfl] at L1
    have HL1 := Lib.hid L1
    clear L1 hb HL HC
    go_upto_region 4 with fail
    generalize w1.alloc (.cells #[.int .i64 n, .int .i64 n, .int .i64 (M 0), .int .i64 (M 1), .int .i64 (M 2), .int .i64 (M 3), .int .i64 (M 4), .int .i64 (M 5)] 53) = w5 at *
    have ⟨e0, e1, e2, e3, e4, e5, e6, e7, _⟩ := HL1.out.ownHas.eight
    go_wp2_with fail
    refine (HRN.out _).mono ?_
    rintro e w6 ⟨g, p, rfl, hO, hb⟩
    have L2 := HL1.out.own hb hO
    have hrd : Reads w6 (some ⟨g, 0, none⟩) (n + 1) (lstL (n + 1) (wR n (bt xs) n 0 0)) := by
      obtain ⟨a, q, e, h⟩ := hO.reads
      rw [lstL_len] at e h
      cases e
      exact h
    have HRD := Lib.hid hrd
    have HL2 := Lib.hid L2
    clear hO hb L2 hrd HL1 e0 e1 e2 e3 e4 e5 e6 e7 HRN
    go_wp2_with fail
    refine (HH.out _ _ _ HRD.out).mono ?_
    rintro e w7 ⟨g2, p2, rfl, hO, hb⟩
    rw [HE.out] at hO
    have L3 := HL2.out.own hb hO
    have hO2 := L3.ownInts
    have y1 := Own.cell (by rw [lstL_len]; exact hO2) 0 (by rw [lstL_len]; omega)
    rw [lstL_get (n + 1) _ 0 (by omega)] at y1
    have HB := Lib.hid L3.below
    clear hO hb HL2 HRD HH HE L3 hO2
    go_wp2_with fail
    go_ret2
    exact ⟨rfl, HB.out⟩
end Go.Proofs.Ytjmefcebldifaaa
