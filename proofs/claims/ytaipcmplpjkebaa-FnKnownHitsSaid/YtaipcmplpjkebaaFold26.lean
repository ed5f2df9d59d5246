import Derived.Test.YtaipcmplpjkebaaFold24
import Derived.Test.YtaipcmplpjkebaaFold25
import Derived.Test.YtaipcmplpjkebaaFold22

section
namespace Go.Proofs.Ytaipcmplpjkebaa
open Go.RowKit Go.WideShapes

theorem fct_fN (k : Nat) (hk : k ≤ 12) : fct k = fN k := by
  have key : ∀ k : Fin 13, fct (k : Nat) = fN k := by decide +kernel
  exact key ⟨k, by omega⟩
theorem sgC_chs (j k : Nat) (hj : j ≤ 12) (hk : k ≤ 12) : ((chs j k : Nat) : Int) * (-1) ^ (j - k) = sgC j k := by
  have key : ∀ j : Fin 13, ∀ k : Fin 13, ((chs (j : Nat) k : Nat) : Int) * (-1) ^ ((j : Nat) - (k : Nat)) = sgC j k := by decide +kernel
  exact key ⟨j, by omega⟩ ⟨k, by omega⟩
/-- Hit numbers off the rook numbers of a square board. -/
theorem hfr_hits (n : Nat) (hn : n ≤ 12) (B : Nat → Nat → Bool) : hfrL (n + 1) (lstL (n + 1) (wR n B n 0 0)) = lstL (n + 1) (pH n B n 0 0) := by
  unfold hfrL shfL lstL
  rw [show lstH (n + 1) (fun k => sumT (shT (exfL (n + 1) ((List.range (n + 1)).map (fun k => (wR n B n 0 0 k : Int)))) (-1) k) (n + 1)) = (List.range (n + 1)).map (fun k => sumT (shT (exfL (n + 1) ((List.range (n + 1)).map (fun k => (wR n B n 0 0 k : Int)))) (-1) k) (n + 1)) from rfl]
  refine List.map_congr_left (fun k hk => ?_)
  have hk := List.mem_range.1 hk
  rw [hits_of]
  refine sumT_congr _ _ _ (fun j hj => ?_)
  unfold shT exfL
  rw [lstH_get (n + 1) _ j hj]
  have e : ((List.range (n + 1)).map (fun k => (wR n B n 0 0 k : Int))).getD j 0 = wR n B n 0 0 j := lstL_get (n + 1) (wR n B n 0 0) j hj
  rw [e, Nat.add_sub_cancel, fct_fN (n - j) (by omega), Int.mul_assoc, sgC_chs j k (by omega) (by omega), Int.mul_comm, Int.natCast_mul]
theorem hits_bd (n : Nat) (B : Nat → Nat → Bool) (hn : n ≤ 6) (j : Nat) (hj : j < n + 1) : Abs 1000000000000 ((lstL (n + 1) (wR n B n 0 0)).getD j 0 * fct (n + 1 - 1 - j)) := by
  rw [lstL_get (n + 1) _ j hj, Nat.add_sub_cancel]
  have h1 := Nat.le_trans (wR_le n hn B n 0 0 j) (pow7 n hn)
  have h2 := fct_bd (n - j) (by omega)
  exact (Abs.mul (a := 117649) (b := 720) (by unfold Abs; omega) (by unfold Abs; omega)).mono (by decide)

/-- What HitNumbers answers. -/
def hitR (r c : Int) (xs : List Int) : LR := if sqB r c xs then ⟨lstL (r.toNat + 1) (pH r.toNat (bt xs) r.toNat 0 0), true⟩ else ⟨[], false⟩
theorem hitR_len (r c : Int) (xs : List Int) : (hitR r c xs).ys.length ≤ 1048576 := by
  unfold hitR
  split
  · rename_i h
    obtain ⟨hg, _⟩ := sq_facts h
    obtain ⟨g1, g2, g3, _⟩ := good_facts hg
    show (lstL _ _).length ≤ _
    rw [lstL_len]; omega
  · simp
def avoidB (r c : Int) (xs : List Int) : R1 := if sqB r c xs then ⟨(pH r.toNat (bt xs) r.toNat 0 0 0 : Nat), true⟩ else ⟨0, false⟩

set_option maxRecDepth 100000 in
set_option maxHeartbeats 1600000 in
theorem specHits_any (r c : Int) (xs : List Int) (w : World) (hx : xs.length ≤ 1048576) (lo : Nat) (s : Value) (hO : Own w lo s xs) :
    Calls Try.prog 47 #[.agg #[.int .i64 r, .int .i64 c, s]] w fun e w' => AnsL (hitR r c xs) w e w' := by
  have L0 := (Law.start w).box (.int .i64 r) (.int .i64 c) s 27
  have HO := Lib.hid hO
  obtain ⟨a, cap, rfl, hr⟩ := hO.reads
  have hr0 := L0.reads hr
  clear hO
  cases hs : sqB r c xs
  · rw [show hitR r c xs = ⟨[], false⟩ by simp [hitR, hs]]
    have HC := Lib.hid (at_boolB (hiGood_any r c xs _ hx a cap hr0) hs)
    clear hs hr0
    go_enter Try.func47, Try.ntmps47
    go_wp2_with fail
    refine HC.out.mono ?_
    rintro e w1 ⟨rfl, hb⟩
    have HB := Lib.hid (L0.kept hb).below
    clear L0 hb
    go_wp2_with fail
    go_ret2
    exact ⟨_, rfl, Own.nil _ _, HB.out⟩
  · obtain ⟨hg, rfl⟩ := sq_facts hs
    obtain ⟨g1, g2, g3, _⟩ := good_facts hg
    obtain ⟨n, rfl⟩ := Int.eq_ofNat_of_zero_le (show 0 ≤ r by omega)
    rw [show hitR n n xs = ⟨lstL (n + 1) (pH n (bt xs) n 0 0), true⟩ by simp [hitR, hs]]
    have HC := Lib.hid (at_boolB (hiGood_any n n xs _ hx a cap hr0) hs)
    have HN := Lib.hid (fun (W : World) (h : Own W lo (.slice a xs.length cap) xs) => hiNumbers_any n xs W hx (by omega) (by omega) (good_cell hg) lo _ h)
    have HL := Lib.hid L0
    clear hs hr0 hg g1 g2 g3 L0
    go_enter Try.func47, Try.ntmps47
    go_wp2_with fail
    refine HC.out.mono ?_
    rintro e w1 ⟨rfl, hb⟩
    have L1 := HL.out.kept hb
    have ⟨_, k0, k1, k2, _⟩ := L1.ownBox
    have HL1 := Lib.hid L1
    clear hb L1 HL
    go_wp2_with fail
    refine (HN.out _ (HO.out.kept HL1.out.below)).mono ?_
    rintro e w2 ⟨g, p, rfl, hO, hb⟩
    have HL2 := Lib.hid (HL1.out.own hb hO)
    clear hO hb HL1 k0 k1 k2
    go_wp2_with fail
    go_ret2
    exact ⟨_, rfl, HL2.out.ownLo, HL2.out.below⟩

set_option maxRecDepth 100000 in
set_option maxHeartbeats 1600000 in
theorem specAvoid_any (r c : Int) (xs : List Int) (w : World) (hx : xs.length ≤ 1048576) (lo : Nat) (s : Value) (hO : Own w lo s xs) :
    Calls Try.prog 58 #[.agg #[.int .i64 r, .int .i64 c, s]] w fun e w' => AnsIO (avoidB r c xs) w e w' := by
  have L0 := (Law.start w).box (.int .i64 r) (.int .i64 c) s 27
  have HO := Lib.hid hO
  obtain ⟨a, cap, rfl, hr⟩ := hO.reads
  have hr0 := L0.reads hr
  clear hO
  cases hs : sqB r c xs
  · rw [show avoidB r c xs = ⟨0, false⟩ by simp [avoidB, hs]]
    have HC := Lib.hid (at_boolB (hiGood_any r c xs _ hx a cap hr0) hs)
    clear hs hr0
    go_enter Try.func58, Try.ntmps58
    go_wp2_with fail
    refine HC.out.mono ?_
    rintro e w1 ⟨rfl, hb⟩
    have HB := Lib.hid (L0.kept hb).below
    clear L0 hb
    go_wp2_with fail
    go_ret2
    exact ⟨rfl, HB.out⟩
  · obtain ⟨hg, rfl⟩ := sq_facts hs
    obtain ⟨g1, g2, g3, _⟩ := good_facts hg
    obtain ⟨n, rfl⟩ := Int.eq_ofNat_of_zero_le (show 0 ≤ r by omega)
    rw [show avoidB n n xs = ⟨(pH n (bt xs) n 0 0 0 : Nat), true⟩ by simp [avoidB, hs]]
    have HC := Lib.hid (at_boolB (hiGood_any n n xs _ hx a cap hr0) hs)
    have HN := Lib.hid (fun (W : World) (h : Own W lo (.slice a xs.length cap) xs) => hiNumbers_any n xs W hx (by omega) (by omega) (good_cell hg) lo _ h)
    have HL := Lib.hid L0
    have hn0 : (0 : Int) < (n : Int) + 1 := by omega
    clear hs hr0 hg g1 g2 g3 L0
    go_enter Try.func58, Try.ntmps58
    go_wp2_with fail
    refine HC.out.mono ?_
    rintro e w1 ⟨rfl, hb⟩
    have L1 := HL.out.kept hb
    have ⟨_, k0, k1, k2, _⟩ := L1.ownBox
    have HL1 := Lib.hid L1
    clear hb L1 HL
    go_wp2_with fail
    refine (HN.out _ (HO.out.kept HL1.out.below)).mono ?_
    rintro e w2 ⟨g, p, rfl, hO, hb⟩
    have L2 := HL1.out.own hb hO
    have hO2 := L2.ownInts
    have y1 := Own.cell (by rw [lstL_len]; exact hO2) 0 (by rw [lstL_len]; omega)
    rw [lstL_get (n + 1) _ 0 (by omega)] at y1
    have HB := Lib.hid L2.below
    clear hO hb HL1 k0 k1 k2 L2 hO2
    go_wp2_with fail
    go_ret2
    exact ⟨rfl, HB.out⟩

theorem below_8 {w w1 : World} {B b : Nat} (h : Below B w w1) (hb : B ≤ b) (u0 u1 u2 u3 u4 u5 u6 u7 : Value) :
    Below B w ((((((((w1.setCell ⟨b, 0, none⟩ u0).setCell ⟨b, 1, none⟩ u1).setCell ⟨b, 2, none⟩ u2).setCell ⟨b, 3, none⟩ u3).setCell ⟨b, 4, none⟩ u4).setCell ⟨b, 5, none⟩ u5).setCell ⟨b, 6, none⟩ u6).setCell ⟨b, 7, none⟩ u7) :=
  (((((((h.setCell hb _).setCell hb _).setCell hb _).setCell hb _).setCell hb _).setCell hb _).setCell hb _).setCell hb _
set_option maxRecDepth 100000 in
set_option maxHeartbeats 1600000 in
theorem squareOf_raw (r c : Int) (a : Option Addr) (n cap : Nat) (R1 C1 : Int) (M1 : Nat → Int) (p : Bool) (w : World)
    (h1 : ∀ w', Below w.heap.size w w' → Calls Try.prog 83 #[.agg #[.int .i64 r, .int .i64 c, .slice a n cap]] w' fun e w'' => e = .returned (.tuple #[gv R1 C1 M1, .bool p]) ∧ Below w'.heap.size w' w'') :
    Calls Try.prog 67 #[.agg #[.int .i64 r, .int .i64 c, .slice a n cap]] w
      fun e w' => e = .returned (.tuple #[gv R1 C1 M1, .bool (p && (R1 == C1))]) ∧ Below w.heap.size w w' := by
  have L0 := ((Law.start w).box (.int .i64 r) (.int .i64 c) (.slice a n cap) 27).has (gl 0 0 fun _ => 0) 67
  simp only [World.size_alloc] at L0
  have H1 := Lib.hid h1
  clear h1
  go_enter Try.func67, Try.ntmps67
  go_wp2_with fail
  refine (H1.out _ L0.below).mono ?_
  rintro e w1 ⟨rfl, hb⟩
  have L1 := (L0.kept hb).has (gl R1 C1 M1) 67
  have hz1 := hb.size
  simp only [World.size_alloc] at hz1
  clear hb L0
  go_upto_region 2 with fail
  rw [show w1.alloc (.cells (gl R1 C1 M1).toArray 67) = w1.alloc (.cells #[.int .i64 R1, .int .i64 C1, .int .i64 (M1 0), .int .i64 (M1 1), .int .i64 (M1 2), .int .i64 (M1 3), .int .i64 (M1 4), .int .i64 (M1 5)] 67) from rfl] at L1
  generalize w1.alloc (.cells #[.int .i64 R1, .int .i64 C1, .int .i64 (M1 0), .int .i64 (M1 1), .int .i64 (M1 2), .int .i64 (M1 3), .int .i64 (M1 4), .int .i64 (M1 5)] 67) = w5 at *
  have ⟨g0, g1, g2, g3, g4, g5, g6, g7, _⟩ := L1.ownHas.eight
  have ⟨f0, f1, f2, f3, f4, f5, f6, f7, fr1⟩ := L1.tl.ownHas.eight
  have HB := Lib.hid L1.below
  clear L1 H1
  cases p
  · go_region
    go_wp2_with fail
    refine bodyPost_ret (v := .tuple #[gv R1 C1 M1, .bool false]) (by simp [results, Try.results67, go_sem, f0, f1, f2, f3, f4, f5, f6, f7]) rfl ⟨rfl, ?_⟩
    exact (below_8 HB.out (by omega) _ _ _ _ _ _ _ _).drew
  · go_region
    go_wp2_with fail
    refine bodyPost_ret (v := .tuple #[gv R1 C1 M1, .bool (R1 == C1)]) (by simp [results, Try.results67, go_sem, f0, f1, f2, f3, f4, f5, f6, f7]) rfl ⟨rfl, ?_⟩
    exact (below_8 HB.out (by omega) _ _ _ _ _ _ _ _).drew
theorem squareOf_any (r c : Int) (a : Option Addr) (cap : Nat) (xs : List Int) (w : World) (hx : xs.length ≤ 1048576) (hr : Reads w a xs.length xs) :
    ∃ R1 C1 M1, (sqB r c xs = true → R1 = r ∧ C1 = c ∧ ∀ k, M1 k = xs.getD k 0) ∧ Calls Try.prog 67 #[.agg #[.int .i64 r, .int .i64 c, .slice a xs.length cap]] w
      fun e w' => e = .returned (.tuple #[gv R1 C1 M1, .bool (sqB r c xs)]) ∧ Below w.heap.size w w' := by
  cases hg : goodB r c xs
  · refine ⟨0, 0, fun _ => 0, fun h => by simp [sqB, hg] at h, ?_⟩
    have := squareOf_raw r c a xs.length cap 0 0 (fun _ => 0) false w (fun w' hb => gridOf_no r c a cap xs w' hx (hr.kept hb) hg)
    rw [show sqB r c xs = false by simp [sqB, hg]]
    exact this
  · refine ⟨r, c, fun k => xs.getD k 0, fun _ => ⟨rfl, rfl, fun _ => rfl⟩, ?_⟩
    have := squareOf_raw r c a xs.length cap r c (fun k => xs.getD k 0) true w (fun w' hb => gridOf_yes r c a cap xs w' hx (hr.kept hb) hg)
    rw [show sqB r c xs = (true && (r == c)) by simp [sqB, hg]]
    exact this
end Go.Proofs.Ytaipcmplpjkebaa
end

section
namespace Go.Proofs.Ytaipcmplpjkebaa
open Go.RowKit Go.WideShapes

set_option maxRecDepth 100000 in
set_option maxHeartbeats 3200000 in
theorem implHits_any (r c : Int) (xs : List Int) (w : World) (hx : xs.length ≤ 1048576) (lo : Nat) (s : Value) (hO : Own w lo s xs) :
    Calls Try.prog 15 #[.agg #[.int .i64 r, .int .i64 c, s]] w fun e w' => AnsL (hitR r c xs) w e w' := by
  have L0 := (Law.start w).box (.int .i64 r) (.int .i64 c) s 27
  obtain ⟨a, cap, rfl, hr⟩ := hO.reads
  have hr0 := L0.reads hr
  clear hO
  obtain ⟨R1, C1, M, hM, hc⟩ := squareOf_any r c a cap xs _ hx hr0
  cases hs : sqB r c xs
  · rw [show hitR r c xs = ⟨[], false⟩ by simp [hitR, hs]]
    rw [hs] at hc
    have HC := Lib.hid hc
    clear hs hr0 hM hc
    go_enter Try.func15, Try.ntmps15
    go_wp2_with fail
    refine HC.out.mono ?_
    rintro e w1 ⟨rfl, hb⟩
    have HB := Lib.hid ((L0.kept hb).kept (below_new (.cells #[.int .i64 R1, .int .i64 C1, .int .i64 (M 0), .int .i64 (M 1), .int .i64 (M 2), .int .i64 (M 3), .int .i64 (M 4), .int .i64 (M 5)] 67))).below
    clear L0 hb
    go_wp2_with fail
    go_ret2
    exact ⟨_, rfl, Own.nil _ _, HB.out⟩
  · rw [hs] at hc
    obtain ⟨rfl, rfl, hMM⟩ := hM hs
    clear hM
    have hM := hMM
    obtain ⟨hg, he⟩ := sq_facts hs
    obtain ⟨g1, g2, g3, _⟩ := good_facts hg
    subst he
    obtain ⟨n, rfl⟩ := Int.eq_ofNat_of_zero_le (show 0 ≤ R1 by omega)
    rw [show hitR n n xs = ⟨lstL (n + 1) (pH n (bt xs) n 0 0), true⟩ by simp [hitR, hs]]
    have hgc : ∀ k, 0 ≤ M k ∧ M k < 64 := fun k => by rw [hM k]; exact good_cell hg k
    have hBM : bM M = bt xs := by funext a b; simp only [bM, bt, hM]
    have hrn := fun W => rookNumbers_any n n M W (by omega) (by omega) (fun k _ => hgc k)
    rw [hBM, Nat.min_self] at hrn
    have HRN := Lib.hid hrn
    have HH := Lib.hid (fun (a : Option Addr) (p : Nat) (W : World) (h : Reads W a (n + 1) (lstL (n + 1) (wR n (bt xs) n 0 0))) => hitsFromRooks_any (n + 1) (lstL (n + 1) (wR n (bt xs) n 0 0)) a p W (by omega) (by omega) (hits_bd n (bt xs) (by omega)) h)
    have HE := Lib.hid (hfr_hits n (by omega) (bt xs))
    have HC := Lib.hid hc
    have HL := Lib.hid L0
    clear hs hr0 hM hMM hc hg g1 g2 g3 hgc hBM hrn L0
    go_enter Try.func15, Try.ntmps15
    go_wp2_with fail
    refine HC.out.mono ?_
    rintro e w1 ⟨rfl, hb⟩
    have L1 := (HL.out.kept hb).has (gl n n M) 67
    rw [show w1.alloc (.cells (gl n n M).toArray 67) = w1.alloc (.cells #[.int .i64 n, .int .i64 n, .int .i64 (M 0), .int .i64 (M 1), .int .i64 (M 2), .int .i64 (M 3), .int .i64 (M 4), .int .i64 (M 5)] 67) from rfl] at L1
    have HL1 := Lib.hid L1
    clear L1 hb HL HC
    go_upto_region 4 with fail
    generalize w1.alloc (.cells #[.int .i64 n, .int .i64 n, .int .i64 (M 0), .int .i64 (M 1), .int .i64 (M 2), .int .i64 (M 3), .int .i64 (M 4), .int .i64 (M 5)] 67) = w5 at *
    have ⟨e0, e1, e2, e3, e4, e5, e6, e7, _⟩ := HL1.out.ownHas.eight
    go_wp2_with fail
    refine (HRN.out _).mono ?_
    rintro e w6 ⟨g, p, rfl, hO, hb⟩
    have L2 := HL1.out.own hb hO
    have hrd : Reads w6 (some ⟨g, 0, none⟩) (n + 1) (lstL (n + 1) (wR n (bt xs) n 0 0)) := by
      obtain ⟨a, q, e, h⟩ := hO.reads
      rw [lstL_len] at e h
      cases e
      exact h
    have HRD := Lib.hid hrd
    have HL2 := Lib.hid L2
    clear hO hb L2 hrd HL1 e0 e1 e2 e3 e4 e5 e6 e7 HRN
    go_wp2_with fail
    refine (HH.out _ _ _ HRD.out).mono ?_
    rintro e w7 ⟨g2, p2, rfl, hO, hb⟩
    rw [HE.out] at hO
    have HL3 := Lib.hid (HL2.out.own hb hO)
    clear hO hb HL2 HRD HH HE
    go_wp2_with fail
    go_ret2
    exact ⟨_, rfl, HL3.out.ownLo, HL3.out.below⟩

set_option maxRecDepth 100000 in
set_option maxHeartbeats 3200000 in
theorem implAvoid_any (r c : Int) (xs : List Int) (w : World) (hx : xs.length ≤ 1048576) (lo : Nat) (s : Value) (hO : Own w lo s xs) :
    Calls Try.prog 52 #[.agg #[.int .i64 r, .int .i64 c, s]] w fun e w' => AnsIO (avoidB r c xs) w e w' := by
  have L0 := (Law.start w).box (.int .i64 r) (.int .i64 c) s 27
  obtain ⟨a, cap, rfl, hr⟩ := hO.reads
  have hr0 := L0.reads hr
  clear hO
  obtain ⟨R1, C1, M, hM, hc⟩ := squareOf_any r c a cap xs _ hx hr0
  cases hs : sqB r c xs
  · rw [show avoidB r c xs = ⟨0, false⟩ by simp [avoidB, hs]]
    rw [hs] at hc
    have HC := Lib.hid hc
    clear hs hr0 hM hc
    go_enter Try.func52, Try.ntmps52
    go_wp2_with fail
    refine HC.out.mono ?_
    rintro e w1 ⟨rfl, hb⟩
    have HB := Lib.hid ((L0.kept hb).kept (below_new (.cells #[.int .i64 R1, .int .i64 C1, .int .i64 (M 0), .int .i64 (M 1), .int .i64 (M 2), .int .i64 (M 3), .int .i64 (M 4), .int .i64 (M 5)] 67))).below
    clear L0 hb
    go_wp2_with fail
    go_ret2
    exact ⟨rfl, HB.out⟩
  · rw [hs] at hc
    obtain ⟨rfl, rfl, hMM⟩ := hM hs
    clear hM
    have hM := hMM
    obtain ⟨hg, he⟩ := sq_facts hs
    obtain ⟨g1, g2, g3, _⟩ := good_facts hg
    subst he
    obtain ⟨n, rfl⟩ := Int.eq_ofNat_of_zero_le (show 0 ≤ R1 by omega)
    rw [show avoidB n n xs = ⟨(pH n (bt xs) n 0 0 0 : Nat), true⟩ by simp [avoidB, hs]]
    have hgc : ∀ k, 0 ≤ M k ∧ M k < 64 := fun k => by rw [hM k]; exact good_cell hg k
    have hBM : bM M = bt xs := by funext a b; simp only [bM, bt, hM]
    have hrn := fun W => rookNumbers_any n n M W (by omega) (by omega) (fun k _ => hgc k)
    rw [hBM, Nat.min_self] at hrn
    have HRN := Lib.hid hrn
    have HH := Lib.hid (fun (a : Option Addr) (p : Nat) (W : World) (h : Reads W a (n + 1) (lstL (n + 1) (wR n (bt xs) n 0 0))) => hitsFromRooks_any (n + 1) (lstL (n + 1) (wR n (bt xs) n 0 0)) a p W (by omega) (by omega) (hits_bd n (bt xs) (by omega)) h)
    have HE := Lib.hid (hfr_hits n (by omega) (bt xs))
    have HC := Lib.hid hc
    have HL := Lib.hid L0
    have hn1 : (0 : Int) < ((n + 1 : Nat) : Int) := by omega
    have hn2 : (0 : Int) < (n : Int) + 1 := by omega
    clear hs hr0 hM hMM hc hg g1 g2 g3 hgc hBM hrn L0
    go_enter Try.func52, Try.ntmps52
    go_wp2_with fail
    refine HC.out.mono ?_
    rintro e w1 ⟨rfl, hb⟩
    have L1 := (HL.out.kept hb).has (gl n n M) 67
    rw [show w1.alloc (.cells (gl n n M).toArray 67) = w1.alloc (.cells #[.int .i64 n, .int .i64 n, .int .i64 (M 0), .int .i64 (M 1), .int .i64 (M 2), .int .i64 (M 3), .int .i64 (M 4), .int .i64 (M 5)] 67) from rfl] at L1
    have HL1 := Lib.hid L1
    clear L1 hb HL HC
    go_upto_region 4 with fail
    generalize w1.alloc (.cells #[.int .i64 n, .int .i64 n, .int .i64 (M 0), .int .i64 (M 1), .int .i64 (M 2), .int .i64 (M 3), .int .i64 (M 4), .int .i64 (M 5)] 67) = w5 at *
    have ⟨e0, e1, e2, e3, e4, e5, e6, e7, _⟩ := HL1.out.ownHas.eight
    go_wp2_with fail
    refine (HRN.out _).mono ?_
    rintro e w6 ⟨g, p, rfl, hO, hb⟩
    have L2 := HL1.out.own hb hO
    have hrd : Reads w6 (some ⟨g, 0, none⟩) (n + 1) (lstL (n + 1) (wR n (bt xs) n 0 0)) := by
      obtain ⟨a, q, e, h⟩ := hO.reads
      rw [lstL_len] at e h
      cases e
      exact h
    have HRD := Lib.hid hrd
    have HL2 := Lib.hid L2
    clear hO hb L2 hrd HL1 e0 e1 e2 e3 e4 e5 e6 e7 HRN
    go_wp2_with fail
    refine (HH.out _ _ _ HRD.out).mono ?_
    rintro e w7 ⟨g2, p2, rfl, hO, hb⟩
    rw [HE.out] at hO
    have L3 := HL2.out.own hb hO
    have hO2 := L3.ownInts
    have y1 := Own.cell (by rw [lstL_len]; exact hO2) 0 (by rw [lstL_len]; omega)
    rw [lstL_get (n + 1) _ 0 (by omega)] at y1
    have HB := Lib.hid L3.below
    clear hO hb HL2 HRD HH HE L3 hO2
    go_wp2_with fail
    go_ret2
    exact ⟨rfl, HB.out⟩
end Go.Proofs.Ytaipcmplpjkebaa
end
