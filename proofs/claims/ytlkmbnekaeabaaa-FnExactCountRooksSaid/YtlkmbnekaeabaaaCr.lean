/- Rooks counted, in both texts. No condition but the sizes. -/
import Derived.Test.YtlkmbnekaeabaaaSm
namespace Go.Proofs.Ytlkmbnekaeabaaa
open Go.RowKit Go.WideShapes

def rooksB (xs : List Int) : R1 := if decide (xs.length ≤ 6) && within (-1) 5 xs then ⟨rcnt xs, true⟩ else ⟨0, false⟩

set_option maxHeartbeats 800000 in
theorem roCount_any (a : Option Addr) (p : Nat) (xs : List Int) (w : World) (hx : xs.length ≤ 1048576) (hr : Reads w a xs.length xs) :
    Calls Try.prog 53 #[.slice a xs.length p] w fun e w' => e = .returned (.int .i64 (rcnt xs)) ∧ w = w' := by
  go_enter Try.func53, Try.ntmps53
  go_wp2_with fail
  go_loop [3, 8] (fun t i => ∃ k : Nat, k ≤ xs.length ∧ i = .int .i64 k ∧ t = .int .i64 (rcnt (xs.take k) : Nat)) (fun _ i => xs.length - (intOf i).toNat)
  case atStart => exact ⟨0, Nat.zero_le _, rfl, by simp [rcnt]⟩
  case round =>
    obtain ⟨k, hk, rfl, rfl⟩ := hrel
    by_cases hlt : k < xs.length
    · obtain ⟨b, off, rfl, hb, hc⟩ := reads_row hr (by omega)
      have hck := hc k hlt
      have hs := rcnt_succ xs k hlt
      have hl := rcnt_le (xs.take k)
      have hl2 : (xs.take k).length ≤ k := by simp; omega
      generalize xs.getD k 0 = x at *
      generalize rcnt (xs.take k) = y at *
      have hy : y ≤ 1048576 := by omega
      have HS := Lib.hid hs
      by_cases h0 : 0 ≤ x
      · clear hs hl hl2 hc
        go_wp2_with fail
        go_round
        case rel => exact ⟨k + 1, by omega, by go_num, by rw [HS.out, if_pos h0]; go_num⟩
        case measure => simp [intOf]; omega
      · have h1 : x < 0 := by omega
        clear hs hl hl2 hc
        go_wp2_with fail
        go_round
        case rel => exact ⟨k + 1, by omega, by go_num, by rw [HS.out, if_neg h0]; rfl⟩
        case measure => simp [intOf]; omega
    · obtain rfl : k = xs.length := by omega
      go_wp2_with fail
      go_ret
      exact ⟨ret_int (by first | rfl | rw [List.take_length]), rfl⟩

set_option maxHeartbeats 800000 in
theorem specRooks_any (xs : List Int) (w : World) (hx : xs.length ≤ 1048576) (lo : Nat) (s : Value) (hO : Own w lo s xs) :
    Calls Try.prog 21 #[s] w fun e w' => AnsIO (rooksB xs) w e w' := by
  obtain ⟨a, p, rfl, hr⟩ := hO.reads
  clear hO
  have HA := Lib.hid (l1All_any a p xs (-1) 5 w hx hr)
  have HC := Lib.hid (roCount_any a p xs w hx hr)
  by_cases h6 : xs.length ≤ 6
  · have h6' : (xs.length : Int) ≤ 6 := by omega
    cases hw : within (-1) 5 xs
    · rw [show rooksB xs = ⟨0, false⟩ by simp [rooksB, hw]]
      rw [hw] at HA
      clear hw
      go_enter Try.func21, Try.ntmps21
      go_wp2_with fail
      refine HA.out.mono ?_
      rintro e w' ⟨rfl, rfl⟩
      go_wp2_with fail
      go_ret2
      exact ⟨rfl, Below.refl _ _⟩
    · rw [show rooksB xs = ⟨rcnt xs, true⟩ by simp [rooksB, hw, h6]]
      rw [hw] at HA
      clear hw
      go_enter Try.func21, Try.ntmps21
      go_wp2_with fail
      refine HA.out.mono ?_
      rintro e w' ⟨rfl, rfl⟩
      go_wp2_with fail
      refine HC.out.mono ?_
      rintro e w' ⟨rfl, rfl⟩
      go_wp2_with fail
      go_ret2
      exact ⟨rfl, Below.refl _ _⟩
  · rw [show rooksB xs = ⟨0, false⟩ by simp [rooksB, h6]]
    have h6' : (6 : Int) < xs.length := by omega
    go_enter Try.func21, Try.ntmps21
    go_wp2_with fail
    go_ret2
    exact ⟨rfl, Below.refl _ _⟩

set_option maxHeartbeats 800000 in
theorem implRooks_any (xs : List Int) (w : World) (hx : xs.length ≤ 1048576) (lo : Nat) (s : Value) (hO : Own w lo s xs) :
    Calls Try.prog 22 #[s] w fun e w' => AnsIO (rooksB xs) w e w' := by
  obtain ⟨a, p, rfl, hr⟩ := hO.reads
  clear hO
  by_cases h6 : xs.length ≤ 6
  · have h6' : (xs.length : Int) ≤ 6 := by omega
    have HC := Lib.hid (countRooks_any a p xs w hx hr)
    have HD : Hid (rooksB xs = if within (-1) 5 xs then ⟨rcnt xs, true⟩ else ⟨0, false⟩) := Lib.hid (by simp [rooksB, h6])
    go_enter Try.func22, Try.ntmps22
    go_wp2_with fail
    go_loop [11] (fun i => ∃ k : Nat, k ≤ xs.length ∧ i = .int .i64 k ∧ Hid (within (-1) 5 (xs.take k) = true)) (fun i => xs.length - (intOf i).toNat)
    case atStart => exact ⟨0, Nat.zero_le _, rfl, (rfl : within (-1) 5 (xs.take 0) = true)⟩
    case round =>
      obtain ⟨k, hk, rfl, HW⟩ := hrel
      by_cases hlt : k < xs.length
      · obtain ⟨b, off, rfl, hb, hc⟩ := reads_row hr (by omega)
        have hck := hc k hlt
        have hyes := within_upto (-1) 5 xs k hlt HW.out
        have hno := within_no (-1) 5 xs k hlt
        clear hc
        generalize xs.getD k 0 = x at *
        by_cases hd1 : -1 ≤ x
        · by_cases hd2 : x ≤ 5
          · have HN := Lib.hid (hyes ⟨hd1, hd2⟩)
            clear hyes hno HC
            go_wp2_with fail
            go_round
            case rel => exact ⟨k + 1, by omega, by go_num, HN.out⟩
            case measure => simp [intOf]; omega
          · have HN := Lib.hid (hno (by omega))
            have h5 : 6 ≤ x := by omega
            clear hyes hno HC
            go_wp2_with fail
            go_ret2
            exact by rw [HD.out, HN.out]; exact ⟨rfl, Below.refl _ _⟩
        · have HN := Lib.hid (hno (by omega))
          have h5 : x < -1 := by omega
          clear hyes hno HC
          go_wp2_with fail
          go_ret2
          exact by rw [HD.out, HN.out]; exact ⟨rfl, Below.refl _ _⟩
      · obtain rfl : k = xs.length := by omega
        have h := HW.out
        rw [List.take_length] at h
        have HE := Lib.hid h
        clear h HW
        go_wp2_with fail
        refine HC.out.mono ?_
        rintro e w2 ⟨rfl, hb⟩
        have HB := Lib.hid hb
        clear hb
        have HS := Lib.hid (show sumT (one1 xs) xs.length = rcnt xs by
          rw [one1_cnt xs (fun j => (within_get HE.out (by decide) j).1) xs.length (Nat.le_refl _), List.take_length])
        go_wp2_with fail
        go_ret2
        exact by rw [HD.out, HE.out, HS.out]; exact ⟨rfl, HB.out⟩
  · rw [show rooksB xs = ⟨0, false⟩ by simp [rooksB, h6]]
    have h6' : (6 : Int) < xs.length := by omega
    go_enter Try.func22, Try.ntmps22
    go_wp2_with fail
    go_ret2
    exact ⟨rfl, Below.refl _ _⟩
end Go.Proofs.Ytlkmbnekaeabaaa
