/- Pieces that are quiet as bishops and as rooks, in both texts. No condition but the sizes. -/
import Derived.Test.YtakdiiccdkjjcabEu
import Derived.Test.YtakdiiccdkjjcabEw
import Derived.Test.YtakdiiccdkjjcabZ
namespace Go.Proofs.Ytakdiiccdkjjcab
open Go.RowKit Go.WideShapes

def bothR (r c : Int) (xs : List Int) (k : Int) : R1 := if goodB r c xs && inB 0 k 12 then ⟨(cqN qD k.toNat (pcL (bt xs) r.toNat c.toNat) : Nat), true⟩ else ⟨0, false⟩
theorem bishopMove_any (d r : Int) (W : World) (hr : -6 ≤ r ∧ r ≤ 6) : Calls Try.prog 118 #[.int .i64 d, .int .i64 r] W fun e w' => e = .returned (.bool (bD d r)) ∧ W = w' := by
  have hn : wrap64 (-r) = -r := IntWalk.wrap64_in _ (by omega)
  unfold bD
  cases h1 : (d == r)
  · cases h2 : (d == -r)
    · go_enter Try.func118, Try.ntmps118
      go_wp2_with fail
      go_ret
      exact ⟨rfl, rfl⟩
    · go_enter Try.func118, Try.ntmps118
      go_wp2_with fail
      go_ret
      exact ⟨rfl, rfl⟩
  · go_enter Try.func118, Try.ntmps118
    go_wp2_with fail
    go_ret
    exact ⟨rfl, rfl⟩
theorem queenMove_any (d r : Int) (W : World) (hr : -6 ≤ r ∧ r ≤ 6) : Calls Try.prog 69 #[.int .i64 d, .int .i64 r] W fun e w' => e = .returned (.bool (qD d r)) ∧ W = w' := by
  have HB := Lib.hid (fun W => bishopMove_any d r W hr)
  show Calls Try.prog 69 #[.int .i64 d, .int .i64 r] W fun e w' => e = .returned (.bool (d == 0 || (r == 0 || bD d r))) ∧ W = w'
  generalize bD d r = b at *
  cases h1 : (d == 0)
  · cases h2 : (r == 0)
    · go_enter Try.func69, Try.ntmps69
      go_wp2_with fail
      refine (HB.out _).mono ?_
      rintro e w2 ⟨rfl, hw⟩
      subst hw
      go_wp2_with fail
      go_ret
      exact ⟨rfl, rfl⟩
    · go_enter Try.func69, Try.ntmps69
      go_wp2_with fail
      go_ret
      exact ⟨rfl, rfl⟩
  · go_enter Try.func69, Try.ntmps69
    go_wp2_with fail
    go_ret
    exact ⟨rfl, rfl⟩
theorem queen_move : MoveF 69 qD := ⟨fun _ _ => by kernel_rfl, fun d r W _ _ h3 h4 => queenMove_any d r W ⟨h3, h4⟩⟩
theorem isPieceCount_any (x : Int) (w : World) : Calls Try.prog 62 #[.int .i64 x] w fun e w' => e = .returned (.bool (inB 0 x 12)) ∧ w = w' := by
  by_cases h1 : 0 ≤ x
  · by_cases h2 : x ≤ 12
    · have HI := Lib.hid (inB_yes h1 h2)
      go_enter Try.func62, Try.ntmps62
      go_wp2
      all_goals go_ret
      all_goals exact ⟨ret_bool HI.out.symm, rfl⟩
    · have HI := Lib.hid (inB_no (lo := 0) (n := x) (hi := 12) (by omega))
      have h3 : 12 < x := by omega
      go_enter Try.func62, Try.ntmps62
      go_wp2
      all_goals go_ret
      all_goals exact ⟨ret_bool (by rw [HI.out]), rfl⟩
  · have HI := Lib.hid (inB_no (lo := 0) (n := x) (hi := 12) (by omega))
    have h3 : x < 0 := by omega
    go_enter Try.func62, Try.ntmps62
    go_wp2
    all_goals go_ret
    all_goals exact ⟨ret_bool (by rw [HI.out]), rfl⟩
set_option maxHeartbeats 3200000 in
theorem biAsked_any (r c : Int) (xs : List Int) (k : Int) (w : World) (hx : xs.length ≤ 1048576) (a : Option Addr) (cap : Nat) (hr : Reads w a xs.length xs) :
    Calls Try.prog 59 #[.agg #[.int .i64 r, .int .i64 c, .slice a xs.length cap], .int .i64 k] w fun e w' => e = .returned (.bool (goodB r c xs && inB 0 k 12)) ∧ Below w.heap.size w w' := by
  have L0 := (Law.start w).box (.int .i64 r) (.int .i64 c) (.slice a xs.length cap) 28
  have HG := Lib.hid (boGood_any r c a cap xs _ hx (L0.reads hr))
  have HC := Lib.hid (fun W => l1In_any k 0 12 W)
  have HL := Lib.hid L0
  clear L0 hr
  cases hg : goodB r c xs
  · rw [Bool.false_and]
    rw [hg] at HG
    clear hg
    go_enter Try.func59, Try.ntmps59
    go_upto_region 1 with fail
    generalize w.alloc _ = w1 at *
    have ⟨_, b0, b1, b2, _⟩ := HL.out.ownBox
    go_wp2_with fail
    refine HG.out.mono ?_
    rintro e w2 ⟨rfl, hb⟩
    replace HL := Lib.hid (HL.out.kept hb)
    clear hb HG b0 b1 b2
    go_wp2_with fail
    go_ret
    exact ⟨rfl, HL.out.below⟩
  · rw [Bool.true_and]
    rw [hg] at HG
    clear hg
    generalize inB 0 k 12 = b at *
    go_enter Try.func59, Try.ntmps59
    go_upto_region 1 with fail
    generalize w.alloc _ = w1 at *
    have ⟨_, b0, b1, b2, _⟩ := HL.out.ownBox
    go_wp2_with fail
    refine HG.out.mono ?_
    rintro e w2 ⟨rfl, hb⟩
    replace HL := Lib.hid (HL.out.kept hb)
    clear hb HG b0 b1 b2
    go_wp2_with fail
    refine (HC.out _).mono ?_
    rintro e w3 ⟨rfl, hw⟩
    subst hw
    go_wp2_with fail
    go_ret
    exact ⟨rfl, HL.out.below⟩
set_option maxRecDepth 100000 in
set_option maxHeartbeats 3200000 in
theorem specBoth_any (r c : Int) (xs : List Int) (k : Int) (w : World) (hx : xs.length ≤ 1048576) (lo : Nat) (s : Value) (hO : Own w lo s xs) :
    Calls Try.prog 35 #[.agg #[.int .i64 r, .int .i64 c, s], .int .i64 k] w fun e w' => AnsIO (bothR r c xs k) w e w' := by
  have L0 := (Law.start w).box (.int .i64 r) (.int .i64 c) s 28
  have hO0 := hO.kept L0.below
  obtain ⟨a, cap, rfl, hr⟩ := hO.reads
  have hr0 := L0.reads hr
  have HL := Lib.hid L0
  have HO := Lib.hid hO0
  clear hO L0 hr hO0
  have HG := Lib.hid (biAsked_any r c xs k _ hx a cap hr0)
  clear hr0
  cases hg : (goodB r c xs && inB 0 k 12)
  · rw [show bothR r c xs k = ⟨0, false⟩ by simp only [bothR, hg]; rfl]
    rw [hg] at HG
    clear hg HO
    go_enter Try.func35, Try.ntmps35
    go_upto_region 1 with fail
    generalize w.alloc _ = w1 at *
    have ⟨_, b0, b1, b2, _⟩ := HL.out.ownBox
    go_wp2_with fail
    refine HG.out.mono ?_
    rintro e w2 ⟨rfl, hb⟩
    replace HL := Lib.hid (HL.out.kept hb)
    clear hb HG b0 b1 b2
    go_wp2_with fail
    go_ret2
    exact ⟨rfl, HL.out.below⟩
  · rw [show bothR r c xs k = ⟨(cqN qD k.toNat (pcL (bt xs) r.toNat c.toNat) : Nat), true⟩ by simp only [bothR, hg]; rfl]
    rw [hg] at HG
    rw [Bool.and_eq_true, inB_iff] at hg
    have hgc := good_cell hg.1
    obtain ⟨⟨g1, g2⟩, ⟨g3, g4⟩, g5, _⟩ := good_facts hg.1
    obtain ⟨n, rfl⟩ := Int.eq_ofNat_of_zero_le (show 0 ≤ r by omega)
    obtain ⟨m, rfl⟩ := Int.eq_ofNat_of_zero_le (show 0 ≤ c by omega)
    obtain ⟨q, rfl⟩ := Int.eq_ofNat_of_zero_le hg.2.1
    rw [show ((n : Nat) : Int).toNat = n from rfl, show ((m : Nat) : Int).toNat = m from rfl, show ((q : Nat) : Int).toNat = q from rfl]
    have HK := Lib.hid (fun (W : World) (h : Own W lo (.slice a xs.length cap) xs) => biCount_any n m xs (by omega) (by omega) hx (by omega) hgc lo _ n 0 q 0 0 0 W (by omega) (by omega) (by decide) (by decide) (by decide) h)
    rw [bcN_all, show ((0 : Nat) : Int) = 0 from rfl] at HK
    obtain ⟨y, hy⟩ : ∃ y, y = cqN qD q (pcL (bt xs) n m) := ⟨_, rfl⟩
    rw [← hy] at HK ⊢
    clear hg hgc g5 hy
    go_enter Try.func35, Try.ntmps35
    go_upto_region 1 with fail
    generalize w.alloc _ = w1 at *
    have ⟨_, b0, b1, b2, _⟩ := HL.out.ownBox
    go_wp2_with fail
    refine HG.out.mono ?_
    rintro e w2 ⟨rfl, hb⟩
    replace HL := Lib.hid (HL.out.kept hb)
    replace HO := Lib.hid (HO.out.kept hb)
    clear hb HG b0 b1 b2
    have ⟨_, b0, b1, b2, _⟩ := HL.out.ownBox
    go_wp2_with fail
    refine (HK.out _ HO.out).mono ?_
    rintro e w3 ⟨rfl, hb⟩
    replace HL := Lib.hid (HL.out.kept hb)
    clear hb b0 b1 b2
    go_wp2_with fail
    go_ret2
    exact ⟨rfl, HL.out.below⟩
set_option maxRecDepth 100000 in
set_option maxHeartbeats 3200000 in
theorem implBoth_any (r c : Int) (xs : List Int) (k : Int) (w : World) (hx : xs.length ≤ 1048576) (lo : Nat) (s : Value) (hO : Own w lo s xs) :
    Calls Try.prog 36 #[.agg #[.int .i64 r, .int .i64 c, s], .int .i64 k] w fun e w' => AnsIO (bothR r c xs k) w e w' := by
  have L0 := (Law.start w).box (.int .i64 r) (.int .i64 c) s 28
  obtain ⟨a, cap, rfl, hr⟩ := hO.reads
  have hr0 := L0.reads hr
  have HL := Lib.hid L0
  clear hO L0 hr
  cases hg : goodB r c xs
  · rw [show bothR r c xs k = ⟨0, false⟩ by simp [bothR, hg]]
    have HC := Lib.hid (gridOf_no r c a cap xs _ hx hr0 hg)
    clear hr0 hg
    go_enter Try.func36, Try.ntmps36
    go_upto_region 1 with fail
    generalize w.alloc _ = w1 at *
    have ⟨_, b0, b1, b2, _⟩ := HL.out.ownBox
    go_wp2_with fail
    refine HC.out.mono ?_
    rintro e w2 ⟨rfl, hb⟩
    replace HL := Lib.hid ((HL.out.kept hb).kept (below_new (.cells #[.int .i64 0, .int .i64 0, .int .i64 0, .int .i64 0, .int .i64 0, .int .i64 0, .int .i64 0, .int .i64 0] 64)))
    clear hb HC b0 b1 b2
    go_wp2_with fail
    go_ret2
    exact ⟨rfl, HL.out.below⟩
  · have hgc := good_cell hg
    obtain ⟨⟨g1, g2⟩, ⟨g3, g4⟩, _, _⟩ := good_facts hg
    obtain ⟨n, rfl⟩ := Int.eq_ofNat_of_zero_le (show 0 ≤ r by omega)
    obtain ⟨m, rfl⟩ := Int.eq_ofNat_of_zero_le (show 0 ≤ c by omega)
    obtain ⟨M, hM, hc⟩ := gridOf_good n m a cap xs _ hx hr0 hg
    have HC := Lib.hid hc
    have HP := Lib.hid (fun W => isPieceCount_any k W)
    simp only [← hM] at hgc
    by_cases hk : 0 ≤ k ∧ k ≤ 12
    · rw [inB_yes hk.1 hk.2] at HP
      obtain ⟨q, rfl⟩ := Int.eq_ofNat_of_zero_le hk.1
      rw [show bothR n m xs q = ⟨(cqN qD q (pcL (bt xs) n m) : Nat), true⟩ by simp [bothR, hg, inB_yes hk.1 hk.2]]
      have HK := Lib.hid (fun W => countQuiet_any n m 69 qD queen_move (by omega) (by omega) q M W (by omega) (fun k _ => hgc k))
      rw [show (fun a b => (M a).toNat.testBit b) = bt xs from by funext a b; rw [hM]] at HK
      obtain ⟨y, hy⟩ : ∃ y, y = cqN qD q (pcL (bt xs) n m) := ⟨_, rfl⟩
      rw [← hy] at HK ⊢
      clear hg hgc hc hr0 hM hk hy
      go_enter Try.func36, Try.ntmps36
      go_upto_region 1 with fail
      generalize w.alloc _ = w1 at *
      have ⟨_, b0, b1, b2, _⟩ := HL.out.ownBox
      go_wp2_with fail
      refine HC.out.mono ?_
      rintro e w2 ⟨rfl, hb⟩
      replace HL := Lib.hid ((HL.out.kept hb).has (gl n m M) 64)
      rw [show w2.alloc (.cells (gl n m M).toArray 64) = w2.alloc (.cells #[.int .i64 n, .int .i64 m, .int .i64 (M 0), .int .i64 (M 1), .int .i64 (M 2), .int .i64 (M 3), .int .i64 (M 4), .int .i64 (M 5)] 64) from rfl] at HL
      clear hb HC b0 b1 b2
      go_upto_region 2 with fail
      generalize w2.alloc _ = w3 at *
      go_wp2_with fail
      refine (HP.out _).mono ?_
      rintro e w4 ⟨rfl, hw⟩
      subst hw
      obtain ⟨e0, e1, e2, e3, e4, e5, e6, e7, _⟩ := HL.out.ownHas.eight
      go_wp2_with fail
      refine (HK.out _).mono ?_
      rintro e w5 ⟨rfl, hb⟩
      replace HL := Lib.hid (HL.out.kept hb)
      clear hb e0 e1 e2 e3 e4 e5 e6 e7
      go_wp2_with fail
      go_ret2
      exact ⟨rfl, HL.out.below⟩
    · rw [inB_no hk] at HP
      rw [show bothR n m xs k = ⟨0, false⟩ by simp [bothR, inB_no hk]]
      clear hg hgc hc hr0 hM hk
      go_enter Try.func36, Try.ntmps36
      go_upto_region 1 with fail
      generalize w.alloc _ = w1 at *
      have ⟨_, b0, b1, b2, _⟩ := HL.out.ownBox
      go_wp2_with fail
      refine HC.out.mono ?_
      rintro e w2 ⟨rfl, hb⟩
      replace HL := Lib.hid ((HL.out.kept hb).has (gl n m M) 64)
      rw [show w2.alloc (.cells (gl n m M).toArray 64) = w2.alloc (.cells #[.int .i64 n, .int .i64 m, .int .i64 (M 0), .int .i64 (M 1), .int .i64 (M 2), .int .i64 (M 3), .int .i64 (M 4), .int .i64 (M 5)] 64) from rfl] at HL
      clear hb HC b0 b1 b2
      go_upto_region 2 with fail
      generalize w2.alloc _ = w3 at *
      go_wp2_with fail
      refine (HP.out _).mono ?_
      rintro e w4 ⟨rfl, hw⟩
      subst hw
      go_wp2_with fail
      go_ret2
      exact ⟨rfl, HL.out.below⟩

end Go.Proofs.Ytakdiiccdkjjcab
