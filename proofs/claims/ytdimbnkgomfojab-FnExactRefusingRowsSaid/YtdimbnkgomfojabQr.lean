/- Lists that rise strictly: both texts. No condition but the sizes. -/
import Derived.Test.YtdimbnkgomfojabQp
namespace Go.Proofs.Ytdimbnkgomfojab
open Go.RowKit

set_option maxRecDepth 100000 in
set_option maxHeartbeats 1600000 in
theorem l1Rising_any (a : Option Addr) (cap : Nat) (xs : List Int) (lo hi : Int) (w : World) (hx : xs.length ≤ 1048576) (hr : Reads w a xs.length xs) : Calls Try.prog 68 #[.slice a xs.length cap, .int .i64 lo, .int .i64 hi] w fun e w' => e = .returned (.bool (riseB xs lo hi)) ∧ w = w' := by
  have HB : Hid (riseB xs lo hi = riseU xs lo hi xs.length) := Lib.hid rfl
  go_enter Try.func68, Try.ntmps68
  go_wp2_with fail
  go_loop [11] (fun i => ∃ k : Nat, k ≤ xs.length ∧ i = .int .i64 k ∧ Hid (riseU xs lo hi k = true)) (fun i => xs.length - (intOf i).toNat)
  case atStart => exact ⟨0, Nat.zero_le _, rfl, Lib.hid rfl⟩
  case round =>
    obtain ⟨k, hk, rfl, HW⟩ := hrel
    by_cases hlt : k < xs.length
    · obtain ⟨b, off, rfl, hb, hc⟩ := reads_row hr (by omega)
      have hck := hc k hlt
      have hs := riseU_succ xs lo hi k
      rw [HW.out, Bool.true_and] at hs
      have hno := riseU_no xs lo hi k xs.length
      by_cases hd : lo ≤ xs.getD k 0 ∧ xs.getD k 0 ≤ hi
      · rw [inB_yes hd.1 hd.2, Bool.true_and] at hs hno
        by_cases hk0 : k = 0
        · have HN : Hid (riseU xs lo hi (k + 1) = true) := Lib.hid (by rw [hs]; simp [hk0])
          have hk1 : ¬ (0 : Int) < k := by omega
          clear hs hno hc hk0
          generalize xs.getD k 0 = x at *
          have HD := Lib.hid (inB_yes hd.1 hd.2)
          clear hd
          go_wp2_with (go_at_call 93; refine (l1In_any _ _ _ _).mono ?_; rintro e w' ⟨rfl, rfl⟩; rw [HD.out])
          go_round
          case rel => exact ⟨k + 1, by omega, by go_num, HN⟩
          case measure => simp [intOf]; omega
        · have hkp := hc (k - 1) (by omega)
          have hk1 : (0 : Int) < k := by omega
          have hkw : IntKind.i64.wrap ((k : Int) - 1) = (k : Int) - 1 := IntWalk.i64_in _ (by omega)
          have hkz : (0 : Int) ≤ (k : Int) - 1 := by omega
          have hkl : (k : Int) - 1 < xs.length := by omega
          have hkt : ((k : Int) - 1).toNat = k - 1 := by omega
          rw [show decide (k = 0) = false by simp [hk0], Bool.false_or] at hs hno
          clear hc
          generalize xs.getD k 0 = x at *
          generalize xs.getD (k - 1) 0 = y at *
          by_cases hyx : y < x
          · have HN : Hid (riseU xs lo hi (k + 1) = true) := Lib.hid (by rw [hs]; simp [hyx])
            clear hs hno
            have HD := Lib.hid (inB_yes hd.1 hd.2)
            clear hd
            go_wp2_with (go_at_call 93; refine (l1In_any _ _ _ _).mono ?_; rintro e w' ⟨rfl, rfl⟩; rw [HD.out])
            go_round
            case rel => exact ⟨k + 1, by omega, by go_num, HN⟩
            case measure => simp [intOf]; omega
          · have HN : Hid (riseU xs lo hi xs.length = false) := Lib.hid (hno (by simp [hyx]) hlt)
            clear hs hno
            have HD := Lib.hid (inB_yes hd.1 hd.2)
            clear hd
            go_wp2_with (go_at_call 93; refine (l1In_any _ _ _ _).mono ?_; rintro e w' ⟨rfl, rfl⟩; rw [HD.out])
            go_ret
            exact ⟨ret_bool (by rw [HB.out, HN.out]), rfl⟩
      · rw [inB_no hd, Bool.false_and] at hs hno
        have HN : Hid (riseU xs lo hi xs.length = false) := Lib.hid (hno rfl hlt)
        clear hs hno hc
        generalize xs.getD k 0 = x at *
        have HD := Lib.hid (inB_no hd)
        clear hd
        go_wp2_with (go_at_call 93; refine (l1In_any _ _ _ _).mono ?_; rintro e w' ⟨rfl, rfl⟩; rw [HD.out])
        go_ret
        exact ⟨ret_bool (by rw [HB.out, HN.out]), rfl⟩
    · obtain rfl : k = xs.length := by omega
      go_wp2_with fail
      go_ret
      exact ⟨ret_bool (by rw [HB.out, HW.out]), rfl⟩

set_option maxRecDepth 100000 in
set_option maxHeartbeats 1600000 in
theorem areIndices_any (a : Option Addr) (cap : Nat) (xs : List Int) (c : Int) (w : World) (hx : xs.length ≤ 1048576) (hr : Reads w a xs.length xs) : Calls Try.prog 71 #[.slice a xs.length cap, .int .i64 c] w fun e w' => e = .returned (.bool (riseB xs 0 (c - 1))) ∧ w = w' := by
  have HB : Hid (riseB xs 0 (c - 1) = riseU xs 0 (c - 1) xs.length) := Lib.hid rfl
  go_enter Try.func71, Try.ntmps71
  go_wp2_with fail
  go_loop [9] (fun i => ∃ k : Nat, k ≤ xs.length ∧ i = .int .i64 k ∧ Hid (riseU xs 0 (c - 1) k = true)) (fun i => xs.length - (intOf i).toNat)
  case atStart => exact ⟨0, Nat.zero_le _, rfl, Lib.hid rfl⟩
  case round =>
    obtain ⟨k, hk, rfl, HW⟩ := hrel
    by_cases hlt : k < xs.length
    · obtain ⟨b, off, rfl, hb, hc⟩ := reads_row hr (by omega)
      have hck := hc k hlt
      have hs := riseU_succ xs 0 (c - 1) k
      rw [HW.out, Bool.true_and] at hs
      have hno := riseU_no xs 0 (c - 1) k xs.length
      by_cases hd : 0 ≤ xs.getD k 0 ∧ xs.getD k 0 ≤ (c - 1)
      · rw [inB_yes hd.1 hd.2, Bool.true_and] at hs hno
        by_cases hk0 : k = 0
        · have HN : Hid (riseU xs 0 (c - 1) (k + 1) = true) := Lib.hid (by rw [hs]; simp [hk0])
          have hk1 : ¬ (0 : Int) < k := by omega
          clear hs hno hc hk0
          generalize xs.getD k 0 = x at *
          obtain ⟨hd1, hd2⟩ := hd
          have hd3 : x < c := by omega
          go_wp2_with fail
          go_round
          case rel => exact ⟨k + 1, by omega, by go_num, HN⟩
          case measure => simp [intOf]; omega
        · have hkp := hc (k - 1) (by omega)
          have hk1 : (0 : Int) < k := by omega
          have hkw : IntKind.i64.wrap ((k : Int) - 1) = (k : Int) - 1 := IntWalk.i64_in _ (by omega)
          have hkz : (0 : Int) ≤ (k : Int) - 1 := by omega
          have hkl : (k : Int) - 1 < xs.length := by omega
          have hkt : ((k : Int) - 1).toNat = k - 1 := by omega
          rw [show decide (k = 0) = false by simp [hk0], Bool.false_or] at hs hno
          clear hc
          generalize xs.getD k 0 = x at *
          generalize xs.getD (k - 1) 0 = y at *
          by_cases hyx : y < x
          · have HN : Hid (riseU xs 0 (c - 1) (k + 1) = true) := Lib.hid (by rw [hs]; simp [hyx])
            clear hs hno
            obtain ⟨hd1, hd2⟩ := hd
            have hd3 : x < c := by omega
            go_wp2_with fail
            go_round
            case rel => exact ⟨k + 1, by omega, by go_num, HN⟩
            case measure => simp [intOf]; omega
          · have HN : Hid (riseU xs 0 (c - 1) xs.length = false) := Lib.hid (hno (by simp [hyx]) hlt)
            clear hs hno
            obtain ⟨hd1, hd2⟩ := hd
            have hd3 : x < c := by omega
            go_wp2_with fail
            go_ret
            exact ⟨ret_bool (by rw [HB.out, HN.out]), rfl⟩
      · rw [inB_no hd, Bool.false_and] at hs hno
        have HN : Hid (riseU xs 0 (c - 1) xs.length = false) := Lib.hid (hno rfl hlt)
        clear hs hno hc
        generalize xs.getD k 0 = x at *
        by_cases hx0 : x < 0
        · go_wp2_with fail
          go_ret
          exact ⟨ret_bool (by rw [HB.out, HN.out]), rfl⟩
        · have hxc : c ≤ x := by omega
          have hx1 : 0 ≤ x := by omega
          clear hd
          go_wp2_with fail
          go_ret
          exact ⟨ret_bool (by rw [HB.out, HN.out]), rfl⟩
    · obtain rfl : k = xs.length := by omega
      go_wp2_with fail
      go_ret
      exact ⟨ret_bool (by rw [HB.out, HW.out]), rfl⟩

end Go.Proofs.Ytdimbnkgomfojab
