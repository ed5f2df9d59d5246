/- ColumnsOf, in both texts. No condition but the sizes. -/
import Derived.Test.YtdimbnkgomfojabQr
import Derived.Test.YtdimbnkgomfojabQu
import Derived.Test.YtdimbnkgomfojabQx
import Derived.Test.YtdimbnkgomfojabZ
namespace Go.Proofs.Ytdimbnkgomfojab
open Go.RowKit Go.WideShapes

theorem fit_good {n m : Nat} {xs : List Int} (h : goodB n m xs = true) : fitM xs n m := by
  obtain ⟨_, _, h3, h4⟩ := good_facts h
  intro r c hr hb
  have hk := h4 r (by omega)
  apply Classical.byContradiction
  intro hc
  have hp : pw (m : Int) = ((2 ^ m : Nat) : Int) := by unfold pw; simp
  rw [hp] at hk
  have hlt : (xs.getD r 0).toNat < 2 ^ m := by omega
  rw [Nat.testBit_lt_two_pow (Nat.lt_of_lt_of_le hlt (Nat.pow_le_pow_right (by omega) (by omega)))] at hb
  cases hb
def colsR (r c : Int) (xs R : List Int) : LR := if goodB r c xs && riseB R 0 (r - 1) then ⟨colS xs r.toNat c.toNat R false, true⟩ else ⟨[], false⟩
theorem colsR_len (r c : Int) (xs R : List Int) : (colsR r c xs R).ys.length ≤ 1048576 := by
  unfold colsR
  split
  · rename_i h
    rw [Bool.and_eq_true] at h
    have h1 := good_facts h.1
    have h2 := colS_len xs r.toNat c.toNat R false
    show (colS xs r.toNat c.toNat R false).length ≤ _
    omega
  · simp

set_option maxRecDepth 100000 in
set_option maxHeartbeats 1600000 in
theorem specCol_any (r c : Int) (xs R : List Int) (w : World) (hx : xs.length ≤ 1048576) (hp : R.length ≤ 1048576) (lo : Nat) (s : Value) (lo2 : Nat) (s2 : Value) (hO : Own w lo s xs) (hO2 : Own w lo2 s2 R) :
    Calls Try.prog 43 #[.agg #[.int .i64 r, .int .i64 c, s], s2] w fun e w' => AnsL (colsR r c xs R) w e w' := by
  have L0 := (Law.start w).box (.int .i64 r) (.int .i64 c) s 28
  have hO0 := hO.kept L0.below
  obtain ⟨a, cap, rfl, hr⟩ := hO.reads
  obtain ⟨a2, p2, rfl, hr2⟩ := hO2.reads
  have hr0 := L0.reads hr
  clear hO hO2
  cases hg : goodB r c xs
  · rw [show colsR r c xs R = ⟨[], false⟩ by simp [colsR, hg]]
    go_enter Try.func43, Try.ntmps43
    go_wp2_with fail
    refine (at_boolB (boGood_any r c a cap xs _ hx hr0) hg).mono ?_
    rintro e w1 ⟨rfl, hb⟩
    have HB := Lib.hid (L0.kept hb).below
    clear L0 hb hg hr0 hO0
    go_wp2_with fail
    go_ret2
    exact ⟨_, rfl, Own.nil _ _, HB.out⟩
  · obtain ⟨g1, g2, g3, _⟩ := good_facts hg
    obtain ⟨n, rfl⟩ := Int.eq_ofNat_of_zero_le (show 0 ≤ r by omega)
    obtain ⟨m, rfl⟩ := Int.eq_ofNat_of_zero_le (show 0 ≤ c by omega)
    have HC := Lib.hid (at_boolB (boGood_any n m a cap xs _ hx hr0) hg)
    have HP := Lib.hid (fun W (h : Reads W a2 R.length R) => l1Rising_any a2 p2 R 0 ((n : Int) - 1) W hp h)
    have hnw : IntKind.i64.wrap ((n : Int) - 1) = (n : Int) - 1 := IntWalk.i64_in _ (by omega)
    cases hq : riseB R 0 ((n : Int) - 1)
    · rw [show colsR n m xs R = ⟨[], false⟩ by simp [colsR, hq]]
      rw [hq] at HP
      clear hg hr0 hq
      go_enter Try.func43, Try.ntmps43
      go_wp2_with fail
      refine HC.out.mono ?_
      rintro e w1 ⟨rfl, hb⟩
      have L1 := L0.kept hb
      have HR := Lib.hid (L1.reads hr2)
      have ⟨_, k0, k1, k2, _⟩ := L1.ownBox
      have HB := Lib.hid L1.below
      clear L0 L1 hb HC hO0
      go_wp2_with fail
      refine (HP.out _ HR.out).mono ?_
      rintro e w2 ⟨rfl, rfl⟩
      clear k0 k1 k2 HR
      go_wp2_with fail
      go_ret2
      exact ⟨_, rfl, Own.nil _ _, HB.out⟩
    · rw [show colsR n m xs R = ⟨colS xs n m R false, true⟩ by simp [colsR, hq, hg]]
      rw [hq] at HP
      have HCL := Lib.hid (fun (W : World) (h : Own W lo (.slice a xs.length cap) xs) (h2 : Reads W a2 R.length R) => lcColumns_any n m xs R false a2 p2 W hx hp (by omega) (by omega) (by omega) (good_cell hg) lo _ h h2)
      clear hg hr0 hq
      go_enter Try.func43, Try.ntmps43
      go_wp2_with fail
      refine HC.out.mono ?_
      rintro e w1 ⟨rfl, hb⟩
      have L1 := L0.kept hb
      have hO1 := hO0.kept hb
      have HR := Lib.hid (L1.reads hr2)
      have ⟨_, k0, k1, k2, _⟩ := L1.ownBox
      have HL := Lib.hid L1
      clear L0 L1 hb HC hO0
      go_wp2_with fail
      refine (HP.out _ HR.out).mono ?_
      rintro e w2 ⟨rfl, rfl⟩
      go_wp2_with fail
      refine (HCL.out _ hO1 HR.out).mono ?_
      rintro e w3 ⟨v, rfl, hv, hb⟩
      have HV := Lib.hid (And.intro (hv.lower HL.out.below.size) (HL.out.kept hb).below)
      clear HL hO1 HR hv hb k0 k1 k2
      go_wp2_with fail
      go_ret2
      exact ⟨_, rfl, HV.out.1, HV.out.2⟩

set_option maxRecDepth 100000 in
set_option maxHeartbeats 1600000 in
theorem implCol_any (r c : Int) (xs R : List Int) (w : World) (hx : xs.length ≤ 1048576) (hp : R.length ≤ 1048576) (lo : Nat) (s : Value) (lo2 : Nat) (s2 : Value) (hO : Own w lo s xs) (hO2 : Own w lo2 s2 R) :
    Calls Try.prog 45 #[.agg #[.int .i64 r, .int .i64 c, s], s2] w fun e w' => AnsL (colsR r c xs R) w e w' := by
  have L0 := (Law.start w).box (.int .i64 r) (.int .i64 c) s 28
  obtain ⟨a, cap, rfl, hr⟩ := hO.reads
  obtain ⟨a2, p2, rfl, hr2⟩ := hO2.reads
  have hr0 := L0.reads hr
  clear hO hO2
  cases hg : goodB r c xs
  · rw [show colsR r c xs R = ⟨[], false⟩ by simp [colsR, hg]]
    go_enter Try.func45, Try.ntmps45
    go_wp2_with fail
    refine (gridOf_no r c a cap xs _ hx hr0 hg).mono ?_
    rintro e w1 ⟨rfl, hb⟩
    have HB := Lib.hid (((L0.kept hb).kept (below_new (.cells #[.int .i64 0, .int .i64 0, .int .i64 0, .int .i64 0, .int .i64 0, .int .i64 0, .int .i64 0, .int .i64 0] 68))).below)
    clear L0 hb hg hr0
    go_wp2_with fail
    go_ret2
    exact ⟨_, rfl, Own.nil _ _, HB.out⟩
  · obtain ⟨g1, g2, g3, _⟩ := good_facts hg
    obtain ⟨n, rfl⟩ := Int.eq_ofNat_of_zero_le (show 0 ≤ r by omega)
    obtain ⟨m, rfl⟩ := Int.eq_ofNat_of_zero_le (show 0 ≤ c by omega)
    obtain ⟨M, hM, hc⟩ := gridOf_good n m a cap xs _ hx hr0 hg
    have hgc := good_cell hg
    have hMb : ∀ k, k < 6 → 0 ≤ M k ∧ M k < 64 := fun k _ => by rw [hM]; exact hgc k
    have HC := Lib.hid hc
    have HP := Lib.hid (fun W (h : Reads W a2 R.length R) => areIndices_any a2 p2 R n W hp h)
    cases hq : riseB R 0 ((n : Int) - 1)
    · rw [show colsR n m xs R = ⟨[], false⟩ by simp [colsR, hq]]
      rw [hq] at HP
      clear hg hr0 hq hc hM hMb hgc
      go_enter Try.func45, Try.ntmps45
      go_wp2_with fail
      refine HC.out.mono ?_
      rintro e w1 ⟨rfl, hb⟩
      have L1 := (L0.kept hb).has (gl n m M) 68
      rw [show w1.alloc (.cells (gl n m M).toArray 68) = w1.alloc (.cells #[.int .i64 n, .int .i64 m, .int .i64 (M 0), .int .i64 (M 1), .int .i64 (M 2), .int .i64 (M 3), .int .i64 (M 4), .int .i64 (M 5)] 68) from rfl] at L1
      clear L0 hb HC
      go_upto_region 2 with fail
      generalize w1.alloc (.cells #[.int .i64 n, .int .i64 m, .int .i64 (M 0), .int .i64 (M 1), .int .i64 (M 2), .int .i64 (M 3), .int .i64 (M 4), .int .i64 (M 5)] 68) = w5 at *
      have HR := Lib.hid (L1.reads hr2)
      have ⟨e0, _⟩ := L1.ownHas.eight
      have HB := Lib.hid L1.below
      clear L1
      go_wp2_with fail
      refine (HP.out _ HR.out).mono ?_
      rintro e w2 ⟨rfl, rfl⟩
      clear e0 HR
      go_wp2_with fail
      go_ret2
      exact ⟨_, rfl, Own.nil _ _, HB.out⟩
    · rw [show colsR n m xs R = ⟨colS xs n m R false, true⟩ by simp [colsR, hq, hg]]
      rw [hq] at HP
      have hmem : ∀ q ∈ R, 0 ≤ q ∧ q < n := fun q hm => by have := riseB_mem hq q hm; omega
      have hri := rowsIn_of (n := n) (by omega) hmem
      have hci := col_in xs M n m (by omega) (fit_good hg) (fun k _ => hM k) R hmem
      have ho := orM_lt' M hMb R hri R.length (Nat.le_refl _)
      rw [List.take_length] at ho
      have hin := fun W (h : Reads W a2 R.length R) => columnsIn_any n m M a2 p2 R W hp h hri hMb
      have hcm := fun W => columnsOfMask_any (orM M R) W ho
      rw [hci] at hcm
      have HIN := Lib.hid hin
      have HCM := Lib.hid hcm
      clear hg hr0 hq hc hM hMb hgc hmem hri hci hin hcm ho
      generalize orM M R = y at *
      go_enter Try.func45, Try.ntmps45
      go_wp2_with fail
      refine HC.out.mono ?_
      rintro e w1 ⟨rfl, hb⟩
      have L1 := (L0.kept hb).has (gl n m M) 68
      rw [show w1.alloc (.cells (gl n m M).toArray 68) = w1.alloc (.cells #[.int .i64 n, .int .i64 m, .int .i64 (M 0), .int .i64 (M 1), .int .i64 (M 2), .int .i64 (M 3), .int .i64 (M 4), .int .i64 (M 5)] 68) from rfl] at L1
      clear L0 hb HC
      go_upto_region 2 with fail
      generalize w1.alloc (.cells #[.int .i64 n, .int .i64 m, .int .i64 (M 0), .int .i64 (M 1), .int .i64 (M 2), .int .i64 (M 3), .int .i64 (M 4), .int .i64 (M 5)] 68) = w5 at *
      have HR := Lib.hid (L1.reads hr2)
      have ⟨e0, e1, e2, e3, e4, e5, e6, e7, _⟩ := L1.ownHas.eight
      have HL := Lib.hid L1
      clear L1
      go_wp2_with fail
      refine (HP.out _ HR.out).mono ?_
      rintro e w2 ⟨rfl, rfl⟩
      go_wp2_with fail
      refine (HIN.out _ HR.out).mono ?_
      rintro e w3 ⟨rfl, hb⟩
      have HL3 := Lib.hid (HL.out.kept hb)
      clear HL HR hb e0 e1 e2 e3 e4 e5 e6 e7
      go_wp2_with fail
      refine (HCM.out _).mono ?_
      rintro e w4 ⟨v, rfl, hv, hb⟩
      have HV := Lib.hid (And.intro (hv.lower HL3.out.below.size) (HL3.out.kept hb).below)
      clear HL3 hv hb
      go_wp2_with fail
      go_ret2
      exact ⟨_, rfl, HV.out.1, HV.out.2⟩

end Go.Proofs.Ytdimbnkgomfojab
