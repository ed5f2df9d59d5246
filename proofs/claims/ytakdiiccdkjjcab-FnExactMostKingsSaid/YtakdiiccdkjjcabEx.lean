/- King numbers and the most kings, in both texts. No condition but the sizes. -/
import Derived.Test.YtakdiiccdkjjcabEn
import Derived.Test.YtakdiiccdkjjcabEs
import Derived.Test.YtakdiiccdkjjcabZ
namespace Go.Proofs.Ytakdiiccdkjjcab
open Go.RowKit Go.WideShapes

def kingR (r c : Int) (xs : List Int) : LR := if goodB r c xs then ⟨kingL (fun k => xs.getD k 0) r.toNat c.toNat, true⟩ else ⟨[], false⟩
def mostKR (r c : Int) (xs : List Int) : R1 := if goodB r c xs then ⟨((kingL (fun k => xs.getD k 0) r.toNat c.toNat).length : Int) - 1, true⟩ else ⟨0, false⟩
theorem kingL_len (M : Nat → Int) (n m : Nat) (hn : n ≤ 6) : (kingL M n m).length ≤ 37 := by
  unfold kingL
  refine Nat.le_trans (sumR_le _ (6 * n + 1) (fun r hr => ?_)) (by omega)
  obtain ⟨T, _, rfl⟩ := List.mem_map.1 hr
  exact kw_len M m n T
theorem kingR_len (r c : Int) (xs : List Int) : (kingR r c xs).ys.length ≤ 1048576 := by
  unfold kingR
  split
  · rename_i h
    obtain ⟨g1, _⟩ := good_facts h
    have := kingL_len (fun k => xs.getD k 0) r.toNat c.toNat (by omega)
    show (kingL _ _ _).length ≤ _
    omega
  · simp
set_option maxHeartbeats 3200000 in
theorem mostKings_any (n m : Nat) (M : Nat → Int) (w : World) (hn : n ≤ 6) (hm : m ≤ 6) (hgc : ∀ k, k < 6 → 0 ≤ M k ∧ M k < 64) :
    Calls Try.prog 58 #[gv n m M] w fun e w' => e = .returned (.int .i64 (((kingL M n m).length : Int) - 1)) ∧ Below w.heap.size w w' := by
  have HK := Lib.hid (fun W => kingNumbers_any n m M W hn hm hgc)
  have hlen := kingL_len M n m hn
  have L0 := (Law.start w).has (gl n m M) 64
  rw [show w.alloc (.cells (gl n m M).toArray 64) = w.alloc (.cells #[.int .i64 n, .int .i64 m, .int .i64 (M 0), .int .i64 (M 1), .int .i64 (M 2), .int .i64 (M 3), .int .i64 (M 4), .int .i64 (M 5)] 64) from rfl] at L0
  have HL := Lib.hid L0
  clear L0 hgc
  generalize kingL M n m = ys at *
  go_enter Try.func58, Try.ntmps58
  go_upto_region 1 with fail
  generalize w.alloc _ = w1 at *
  obtain ⟨e0, e1, e2, e3, e4, e5, e6, e7, _⟩ := HL.out.ownHas.eight
  go_wp2_with fail
  refine (HK.out _).mono ?_
  rintro e w2 ⟨v, rfl, hO, hb⟩
  replace HL := Lib.hid (HL.out.kept hb)
  obtain ⟨a, c, rfl, _⟩ := hO.reads
  clear hb hO e0 e1 e2 e3 e4 e5 e6 e7 HK
  go_wp2_with fail
  go_ret
  exact ⟨rfl, HL.out.below⟩
set_option maxRecDepth 100000 in
set_option maxHeartbeats 3200000 in
theorem specKingNumbers_any (r c : Int) (xs : List Int) (w : World) (hx : xs.length ≤ 1048576) (lo : Nat) (s : Value) (hO : Own w lo s xs) :
    Calls Try.prog 16 #[.agg #[.int .i64 r, .int .i64 c, s]] w fun e w' => AnsL (kingR r c xs) w e w' := by
  have L0 := (Law.start w).box (.int .i64 r) (.int .i64 c) s 28
  have hO0 := hO.kept L0.below
  obtain ⟨a, cap, rfl, hr⟩ := hO.reads
  have hr0 := L0.reads hr
  have HL := Lib.hid L0
  have HO := Lib.hid hO0
  clear hO L0 hr hO0
  have HG := Lib.hid (boGood_any r c a cap xs _ hx hr0)
  clear hr0
  cases hg : goodB r c xs
  · rw [show kingR r c xs = ⟨[], false⟩ by simp [kingR, hg]]
    rw [hg] at HG
    clear hg HO
    go_enter Try.func16, Try.ntmps16
    go_upto_region 1 with fail
    generalize w.alloc _ = w1 at *
    have ⟨_, b0, b1, b2, _⟩ := HL.out.ownBox
    go_wp2_with fail
    refine HG.out.mono ?_
    rintro e w2 ⟨rfl, hb⟩
    replace HL := Lib.hid (HL.out.kept hb)
    clear hb HG b0 b1 b2
    go_wp2_with fail
    go_ret2
    exact ⟨_, rfl, Own.nil _ _, HL.out.below⟩
  · rw [hg] at HG
    have hgc := good_cell hg
    obtain ⟨⟨g1, g2⟩, ⟨g3, g4⟩, g5, _⟩ := good_facts hg
    obtain ⟨n, rfl⟩ := Int.eq_ofNat_of_zero_le (show 0 ≤ r by omega)
    obtain ⟨m, rfl⟩ := Int.eq_ofNat_of_zero_le (show 0 ≤ c by omega)
    rw [show kingR n m xs = ⟨kingL (fun k => xs.getD k 0) n m, true⟩ by simp [kingR, hg]]
    have HK := Lib.hid (fun (W : World) (h : Own W lo (.slice a xs.length cap) xs) => kiNumbers_any n m xs (fun k => xs.getD k 0) W (by omega) (by omega) (by omega) (by omega) (fun _ => rfl) (fun k => hgc k) lo _ h)
    have hlen := kingL_len (fun k => xs.getD k 0) n m (by omega)
    obtain ⟨ys, hys⟩ : ∃ ys, ys = kingL (fun k => xs.getD k 0) n m := ⟨_, rfl⟩
    rw [← hys] at HK hlen ⊢
    clear hg hgc g5 hys
    go_enter Try.func16, Try.ntmps16
    go_upto_region 1 with fail
    generalize w.alloc _ = w1 at *
    have ⟨_, b0, b1, b2, _⟩ := HL.out.ownBox
    go_wp2_with fail
    refine HG.out.mono ?_
    rintro e w2 ⟨rfl, hb⟩
    replace HL := Lib.hid (HL.out.kept hb)
    replace HO := Lib.hid (HO.out.kept hb)
    clear hb HG b0 b1 b2
    have ⟨_, b0, b1, b2, _⟩ := HL.out.ownBox
    go_wp2_with fail
    refine (HK.out _ HO.out).mono ?_
    rintro e w3 ⟨v, rfl, hO, hb⟩
    have HF := Lib.hid (And.intro (hO.lower HL.out.below.size) (below_on HL.out.below hb))
    clear hb hO b0 b1 b2 HL
    go_wp2_with fail
    go_ret2
    exact ⟨_, rfl, HF.out.1, HF.out.2⟩
set_option maxRecDepth 100000 in
set_option maxHeartbeats 3200000 in
theorem specMostKings_any (r c : Int) (xs : List Int) (w : World) (hx : xs.length ≤ 1048576) (lo : Nat) (s : Value) (hO : Own w lo s xs) :
    Calls Try.prog 24 #[.agg #[.int .i64 r, .int .i64 c, s]] w fun e w' => AnsIO (mostKR r c xs) w e w' := by
  have L0 := (Law.start w).box (.int .i64 r) (.int .i64 c) s 28
  have hO0 := hO.kept L0.below
  obtain ⟨a, cap, rfl, hr⟩ := hO.reads
  have hr0 := L0.reads hr
  have HL := Lib.hid L0
  have HO := Lib.hid hO0
  clear hO L0 hr hO0
  have HG := Lib.hid (boGood_any r c a cap xs _ hx hr0)
  clear hr0
  cases hg : goodB r c xs
  · rw [show mostKR r c xs = ⟨0, false⟩ by simp [mostKR, hg]]
    rw [hg] at HG
    clear hg HO
    go_enter Try.func24, Try.ntmps24
    go_upto_region 1 with fail
    generalize w.alloc _ = w1 at *
    have ⟨_, b0, b1, b2, _⟩ := HL.out.ownBox
    go_wp2_with fail
    refine HG.out.mono ?_
    rintro e w2 ⟨rfl, hb⟩
    replace HL := Lib.hid (HL.out.kept hb)
    clear hb HG b0 b1 b2
    go_wp2_with fail
    go_ret2
    exact ⟨rfl, HL.out.below⟩
  · rw [hg] at HG
    have hgc := good_cell hg
    obtain ⟨⟨g1, g2⟩, ⟨g3, g4⟩, g5, _⟩ := good_facts hg
    obtain ⟨n, rfl⟩ := Int.eq_ofNat_of_zero_le (show 0 ≤ r by omega)
    obtain ⟨m, rfl⟩ := Int.eq_ofNat_of_zero_le (show 0 ≤ c by omega)
    rw [show mostKR n m xs = ⟨((kingL (fun k => xs.getD k 0) n m).length : Int) - 1, true⟩ by simp [mostKR, hg]]
    have HK := Lib.hid (fun (W : World) (h : Own W lo (.slice a xs.length cap) xs) => kiNumbers_any n m xs (fun k => xs.getD k 0) W (by omega) (by omega) (by omega) (by omega) (fun _ => rfl) (fun k => hgc k) lo _ h)
    have hlen := kingL_len (fun k => xs.getD k 0) n m (by omega)
    obtain ⟨ys, hys⟩ : ∃ ys, ys = kingL (fun k => xs.getD k 0) n m := ⟨_, rfl⟩
    rw [← hys] at HK hlen ⊢
    clear hg hgc g5 hys
    go_enter Try.func24, Try.ntmps24
    go_upto_region 1 with fail
    generalize w.alloc _ = w1 at *
    have ⟨_, b0, b1, b2, _⟩ := HL.out.ownBox
    go_wp2_with fail
    refine HG.out.mono ?_
    rintro e w2 ⟨rfl, hb⟩
    replace HL := Lib.hid (HL.out.kept hb)
    replace HO := Lib.hid (HO.out.kept hb)
    clear hb HG b0 b1 b2
    have ⟨_, b0, b1, b2, _⟩ := HL.out.ownBox
    go_wp2_with fail
    refine (HK.out _ HO.out).mono ?_
    rintro e w3 ⟨v, rfl, hO, hb⟩
    obtain ⟨a9, c9, hv, _⟩ := hO.reads
    subst hv
    replace HL := Lib.hid (HL.out.kept hb)
    clear hb hO b0 b1 b2
    go_wp2_with fail
    go_ret2
    exact ⟨rfl, HL.out.below⟩
set_option maxRecDepth 100000 in
set_option maxHeartbeats 3200000 in
theorem implKingNumbers_any (r c : Int) (xs : List Int) (w : World) (hx : xs.length ≤ 1048576) (lo : Nat) (s : Value) (hO : Own w lo s xs) :
    Calls Try.prog 18 #[.agg #[.int .i64 r, .int .i64 c, s]] w fun e w' => AnsL (kingR r c xs) w e w' := by
  have L0 := (Law.start w).box (.int .i64 r) (.int .i64 c) s 28
  obtain ⟨a, cap, rfl, hr⟩ := hO.reads
  have hr0 := L0.reads hr
  have HL := Lib.hid L0
  clear hO L0 hr
  cases hg : goodB r c xs
  · rw [show kingR r c xs = ⟨[], false⟩ by simp [kingR, hg]]
    have HC := Lib.hid (gridOf_no r c a cap xs _ hx hr0 hg)
    clear hr0 hg
    go_enter Try.func18, Try.ntmps18
    go_upto_region 1 with fail
    generalize w.alloc _ = w1 at *
    have ⟨_, b0, b1, b2, _⟩ := HL.out.ownBox
    go_wp2_with fail
    refine HC.out.mono ?_
    rintro e w2 ⟨rfl, hb⟩
    replace HL := Lib.hid ((HL.out.kept hb).kept (below_new (.cells #[.int .i64 0, .int .i64 0, .int .i64 0, .int .i64 0, .int .i64 0, .int .i64 0, .int .i64 0, .int .i64 0] 64)))
    clear hb HC b0 b1 b2
    go_wp2_with fail
    go_ret2
    exact ⟨_, rfl, Own.nil _ _, HL.out.below⟩
  · have hgc := good_cell hg
    obtain ⟨⟨g1, g2⟩, ⟨g3, g4⟩, _, _⟩ := good_facts hg
    obtain ⟨n, rfl⟩ := Int.eq_ofNat_of_zero_le (show 0 ≤ r by omega)
    obtain ⟨m, rfl⟩ := Int.eq_ofNat_of_zero_le (show 0 ≤ c by omega)
    rw [show kingR n m xs = ⟨kingL (fun k => xs.getD k 0) n m, true⟩ by simp [kingR, hg]]
    obtain ⟨M, hM, hc⟩ := gridOf_good n m a cap xs _ hx hr0 hg
    have HC := Lib.hid hc
    rw [show (fun k => xs.getD k 0) = M from by funext k; exact (hM k).symm]
    simp only [← hM] at hgc
    have HK := Lib.hid (fun W => kingNumbers_any n m M W (by omega) (by omega) (fun k _ => hgc k))
    clear hg hgc hc hr0 hM
    go_enter Try.func18, Try.ntmps18
    go_upto_region 1 with fail
    generalize w.alloc _ = w1 at *
    have ⟨_, b0, b1, b2, _⟩ := HL.out.ownBox
    go_wp2_with fail
    refine HC.out.mono ?_
    rintro e w2 ⟨rfl, hb⟩
    replace HL := Lib.hid ((HL.out.kept hb).has (gl n m M) 64)
    rw [show w2.alloc (.cells (gl n m M).toArray 64) = w2.alloc (.cells #[.int .i64 n, .int .i64 m, .int .i64 (M 0), .int .i64 (M 1), .int .i64 (M 2), .int .i64 (M 3), .int .i64 (M 4), .int .i64 (M 5)] 64) from rfl] at HL
    clear hb HC b0 b1 b2
    go_upto_region 2 with fail
    generalize w2.alloc _ = w3 at *
    obtain ⟨e0, e1, e2, e3, e4, e5, e6, e7, _⟩ := HL.out.ownHas.eight
    go_wp2_with fail
    refine (HK.out _).mono ?_
    rintro e w4 ⟨v, rfl, hO, hb⟩
    have HF := Lib.hid (And.intro (hO.lower HL.out.below.size) (below_on HL.out.below hb))
    clear hb hO e0 e1 e2 e3 e4 e5 e6 e7 HL
    go_wp2_with fail
    go_ret2
    exact ⟨_, rfl, HF.out.1, HF.out.2⟩
set_option maxRecDepth 100000 in
set_option maxHeartbeats 3200000 in
theorem implMostKings_any (r c : Int) (xs : List Int) (w : World) (hx : xs.length ≤ 1048576) (lo : Nat) (s : Value) (hO : Own w lo s xs) :
    Calls Try.prog 25 #[.agg #[.int .i64 r, .int .i64 c, s]] w fun e w' => AnsIO (mostKR r c xs) w e w' := by
  have L0 := (Law.start w).box (.int .i64 r) (.int .i64 c) s 28
  obtain ⟨a, cap, rfl, hr⟩ := hO.reads
  have hr0 := L0.reads hr
  have HL := Lib.hid L0
  clear hO L0 hr
  cases hg : goodB r c xs
  · rw [show mostKR r c xs = ⟨0, false⟩ by simp [mostKR, hg]]
    have HC := Lib.hid (gridOf_no r c a cap xs _ hx hr0 hg)
    clear hr0 hg
    go_enter Try.func25, Try.ntmps25
    go_upto_region 1 with fail
    generalize w.alloc _ = w1 at *
    have ⟨_, b0, b1, b2, _⟩ := HL.out.ownBox
    go_wp2_with fail
    refine HC.out.mono ?_
    rintro e w2 ⟨rfl, hb⟩
    replace HL := Lib.hid ((HL.out.kept hb).kept (below_new (.cells #[.int .i64 0, .int .i64 0, .int .i64 0, .int .i64 0, .int .i64 0, .int .i64 0, .int .i64 0, .int .i64 0] 64)))
    clear hb HC b0 b1 b2
    go_wp2_with fail
    go_ret2
    exact ⟨rfl, HL.out.below⟩
  · have hgc := good_cell hg
    obtain ⟨⟨g1, g2⟩, ⟨g3, g4⟩, _, _⟩ := good_facts hg
    obtain ⟨n, rfl⟩ := Int.eq_ofNat_of_zero_le (show 0 ≤ r by omega)
    obtain ⟨m, rfl⟩ := Int.eq_ofNat_of_zero_le (show 0 ≤ c by omega)
    rw [show mostKR n m xs = ⟨((kingL (fun k => xs.getD k 0) n m).length : Int) - 1, true⟩ by simp [mostKR, hg]]
    obtain ⟨M, hM, hc⟩ := gridOf_good n m a cap xs _ hx hr0 hg
    have HC := Lib.hid hc
    rw [show (fun k => xs.getD k 0) = M from by funext k; exact (hM k).symm]
    simp only [← hM] at hgc
    have HK := Lib.hid (fun W => mostKings_any n m M W (by omega) (by omega) (fun k _ => hgc k))
    clear hg hgc hc hr0 hM
    go_enter Try.func25, Try.ntmps25
    go_upto_region 1 with fail
    generalize w.alloc _ = w1 at *
    have ⟨_, b0, b1, b2, _⟩ := HL.out.ownBox
    go_wp2_with fail
    refine HC.out.mono ?_
    rintro e w2 ⟨rfl, hb⟩
    replace HL := Lib.hid ((HL.out.kept hb).has (gl n m M) 64)
    rw [show w2.alloc (.cells (gl n m M).toArray 64) = w2.alloc (.cells #[.int .i64 n, .int .i64 m, .int .i64 (M 0), .int .i64 (M 1), .int .i64 (M 2), .int .i64 (M 3), .int .i64 (M 4), .int .i64 (M 5)] 64) from rfl] at HL
    clear hb HC b0 b1 b2
    go_upto_region 2 with fail
    generalize w2.alloc _ = w3 at *
    obtain ⟨e0, e1, e2, e3, e4, e5, e6, e7, _⟩ := HL.out.ownHas.eight
    go_wp2_with fail
    refine (HK.out _).mono ?_
    rintro e w4 ⟨rfl, hb⟩
    replace HL := Lib.hid (HL.out.kept hb)
    clear hb e0 e1 e2 e3 e4 e5 e6 e7
    go_wp2_with fail
    go_ret2
    exact ⟨rfl, HL.out.below⟩

end Go.Proofs.Ytakdiiccdkjjcab
