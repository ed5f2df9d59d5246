/- The value of weights: the whole, in both texts. No condition but the sizes. -/
import Derived.Test.YtakdiiccdkjjcabKn
namespace Go.Proofs.Ytakdiiccdkjjcab
open Go.RowKit Go.WideShapes

def wgtR (xs : List Int) (k q : Int) : R1 := if askW xs k && isQ q then ⟨valW q (wts xs xs.length k.toNat), true⟩ else ⟨0, false⟩

set_option maxRecDepth 100000 in
set_option maxHeartbeats 3200000 in
theorem implWgt_any (xs : List Int) (k q : Int) (w : World) (hx : xs.length ≤ 1048576) (lo : Nat) (s : Value) (hO : Own w lo s xs) :
    Calls Try.prog 48 #[s, .int .i64 k, .int .i64 q] w (AnsIO (wgtR xs k q) w) := by
  obtain ⟨a, p, rfl, hr⟩ := hO.reads
  clear hO
  cases hg : (lenB xs && isQ q)
  · rw [show wgtR xs k q = ⟨0, false⟩ by
      unfold wgtR askW
      rw [if_neg]
      intro h
      simp only [Bool.and_eq_true] at h
      simp [h.1.1, h.2] at hg]
    have HC := Lib.hid (over_no a p xs q w hx hr hg)
    clear hg hr
    go_enter Try.func48, Try.ntmps48
    go_wp2_with fail
    refine HC.out.mono ?_
    rintro e w2 ⟨⟨u, N, F, rfl⟩, hb⟩
    have HB := Lib.hid (below_on hb (below_new (.cells #[.int .i64 u, .int .i64 (N 0), .int .i64 (N 1), .int .i64 (N 2), .int .i64 (N 3), .int .i64 (N 4), .int .i64 (N 5)] 90)))
    clear hb HC
    go_wp2_with fail
    go_ret2
    exact ⟨rfl, HB.out⟩
  · simp only [Bool.and_eq_true] at hg
    obtain ⟨hg, hq⟩ := hg
    obtain ⟨Q, rfl, hQ⟩ := isQ_nat hq
    cases hk : inB 0 k xs.length
    · rw [show wgtR xs k Q = ⟨0, false⟩ by simp [wgtR, askW, hk]]
      have HC := Lib.hid (over_yes a p xs Q w hx hr hg hQ)
      have hkk : k < 0 ∨ (0 ≤ k ∧ (xs.length : Int) < k) := by
        rw [← Bool.not_eq_true, inB_iff] at hk
        omega
      have L0 := Law.start w
      obtain ⟨n, hn⟩ : ∃ n, n = xs.length := ⟨_, rfl⟩
      obtain ⟨M, hM⟩ : ∃ M : Nat → Int, M = fun k => xs.getD k 0 := ⟨_, rfl⟩
      rw [← hM, ← hn] at HC
      rw [← hn] at hkk ⊢
      clear hg hq hQ hk hr hM hn hx
      generalize fV Q = F at *
      rcases hkk with hk1 | ⟨hk1, hk2⟩
      · go_enter Try.func48, Try.ntmps48
        go_wp2_with fail
        refine HC.out.mono ?_
        rintro e w2 ⟨rfl, hb⟩
        have HB := Lib.hid (below_on hb (below_new (.cells #[.int .i64 n, .int .i64 (M 0), .int .i64 (M 1), .int .i64 (M 2), .int .i64 (M 3), .int .i64 (M 4), .int .i64 (M 5)] 90)))
        clear hb HC
        go_wp2_with fail
        go_ret2
        exact ⟨rfl, HB.out⟩
      · go_enter Try.func48, Try.ntmps48
        go_wp2_with fail
        refine HC.out.mono ?_
        rintro e w2 ⟨rfl, hb⟩
        have L2 := (L0.kept hb).has (sl n M) 90
        rw [show w2.alloc (.cells (sl n M).toArray 90) = w2.alloc (.cells #[.int .i64 n, .int .i64 (M 0), .int .i64 (M 1), .int .i64 (M 2), .int .i64 (M 3), .int .i64 (M 4), .int .i64 (M 5)] 90) from rfl] at L2
        have ⟨e0, _⟩ := L2.ownHas.seven
        have HB := Lib.hid L2.below
        clear hb HC L0 L2
        go_upto_region 2 with fail
        generalize w2.alloc _ = w5 at *
        go_wp2_with fail
        go_ret2
        exact ⟨rfl, HB.out⟩
    · have hk2 := inB_iff.1 hk
      obtain ⟨k, rfl⟩ := Int.eq_ofNat_of_zero_le hk2.1
      rw [show wgtR xs k Q = ⟨valW Q (wts xs xs.length k), true⟩ by simp [wgtR, askW, hk, hg, hq]]
      rcases hQ with rfl | rfl
      · exact implWgt_2 xs k w hx a p hr hg (by omega)
      · exact implWgt_3 xs k w hx a p hr hg (by omega)
set_option maxRecDepth 100000 in
set_option maxHeartbeats 3200000 in
theorem specWgt_any (xs : List Int) (k q : Int) (w : World) (hx : xs.length ≤ 1048576) (lo : Nat) (s : Value) (hO : Own w lo s xs) :
    Calls Try.prog 47 #[s, .int .i64 k, .int .i64 q] w (AnsIO (wgtR xs k q) w) := by
  obtain ⟨a, p, rfl, hr⟩ := hO.reads
  clear hO
  have HA := Lib.hid (weAsked_any xs k a p w hx hr)
  have HQ := Lib.hid (weBase_any q)
  cases hk : askW xs k
  · rw [show wgtR xs k q = ⟨0, false⟩ by simp [wgtR, hk]]
    rw [hk] at HA
    clear hk hr
    go_enter Try.func47, Try.ntmps47
    go_wp2_with fail
    refine HA.out.mono ?_
    rintro e w2 ⟨rfl, hb⟩
    have HB := Lib.hid hb
    clear hb
    go_wp2_with fail
    go_ret2
    exact ⟨rfl, HB.out⟩
  · rw [hk] at HA
    cases hq : isQ q
    · rw [show wgtR xs k q = ⟨0, false⟩ by simp [wgtR, hq]]
      rw [hq] at HQ
      clear hk hq hr
      go_enter Try.func47, Try.ntmps47
      go_wp2_with fail
      refine HA.out.mono ?_
      rintro e w2 ⟨rfl, hb⟩
      have HB := Lib.hid hb
      clear hb
      go_wp2_with fail
      refine (HQ.out _).mono ?_
      rintro e w3 ⟨rfl, rfl⟩
      go_wp2_with fail
      go_ret2
      exact ⟨rfl, HB.out⟩
    · rw [hq] at HQ
      obtain ⟨Q, rfl, hQ⟩ := isQ_nat hq
      have hk1 := hk
      simp only [askW, Bool.and_eq_true] at hk1
      obtain ⟨hg, hk2⟩ := hk1
      have hk3 := inB_iff.1 hk2
      obtain ⟨k, rfl⟩ := Int.eq_ofNat_of_zero_le hk3.1
      obtain ⟨l1, l2, l3, _⟩ := len_facts hg
      rw [show wgtR xs k Q = ⟨valW Q (wts xs xs.length k), true⟩ by simp [wgtR, hk, hq]]
      have hwp := valW_parts Q (by omega) xs (fun k => (l3 k).2) xs.length k l2
      have hwl := wts_len xs (fun k => (l3 k).2) xs.length k
      have HW := Lib.hid (fun W h => weAll_any xs a p W l1 l2 l3 h)
      have HV := Lib.hid (fun a2 p2 W h => weAt_any (wts xs xs.length k) Q a2 p2 W (by omega) (by omega) h (fun j hj => by have := hwp j hj; exact IntWalk.wrap64_in _ (by omega)) (fun j hj => by have := hwp j hj; exact IntWalk.wrap64_in _ (by omega)))
      have HZG := Lib.hid (fun h => lstR_get (xs.length + 1) (wts xs xs.length) k h)
      have HZL := Lib.hid (lstR_len (xs.length + 1) (wts xs xs.length))
      have HR := Lib.hid hr
      have hq0 : (0 : Int) ≤ k := by omega
      have hq1 : (k : Int) < (xs.length : Int) + 1 := by omega
      clear hk hq hr hg hk2 hk3 hwp hwl l3 hQ hx
      generalize lstR (xs.length + 1) (wts xs xs.length) = zz at *
      generalize wts xs xs.length k = ys at *
      go_enter Try.func47, Try.ntmps47
      go_wp2_with fail
      refine HA.out.mono ?_
      rintro e w2 ⟨rfl, hb⟩
      have HB := Lib.hid hb
      clear hb
      go_wp2_with fail
      refine (HQ.out _).mono ?_
      rintro e w3 ⟨rfl, rfl⟩
      go_wp2_with fail
      refine (HW.out _ (HR.out.kept HB.out)).mono ?_
      rintro e w4 ⟨g, vs, rfl, hO, hb⟩
      have HL := Lib.hid (((Law.start w).kept HB.out).addM hb hO)
      obtain ⟨a2, p2, hc1, hr2⟩ := rowM_at HL.out HZL.out k (by omega) _ HZG.out
      have HR2 := Lib.hid hr2
      clear hO hb hr2
      go_wp2_with fail
      refine (HV.out _ _ _ HR2.out).mono ?_
      rintro e w5 ⟨rfl, rfl⟩
      go_wp2_with fail
      go_ret2
      exact ⟨rfl, HL.out.below⟩
end Go.Proofs.Ytakdiiccdkjjcab
