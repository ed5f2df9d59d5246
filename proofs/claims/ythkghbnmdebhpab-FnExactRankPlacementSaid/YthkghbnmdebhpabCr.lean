/- Rooks counted, in both texts. No condition but the sizes. -/
import Derived.Test.YthkghbnmdebhpabSm
namespace Go.Proofs.Ythkghbnmdebhpab
open Go.RowKit Go.WideShapes

def rooksB (xs : List Int) : R1 := if decide (xs.length ≤ 6) && within (-1) 5 xs then ⟨rcnt xs, true⟩ else ⟨0, false⟩

set_option maxHeartbeats 800000 in
theorem roCount_any (a : Option Addr) (p : Nat) (xs : List Int) (w : World) (hx : xs.length ≤ 1048576) (hr : Reads w a xs.length xs) :
    Calls Try.prog 72 #[.slice a xs.length p] w fun e w' => e = .returned (.int .i64 (rcnt xs)) ∧ w = w' := by
  go_enter Try.func72, Try.ntmps72
  go_wp2_with fail
  go_loop [3, 8] (fun t i => ∃ k : Nat, k ≤ xs.length ∧ i = .int .i64 k ∧ t = .int .i64 (rcnt (xs.take k) : Nat)) (fun _ i => xs.length - (intOf i).toNat)
  case atStart => exact ⟨0, Nat.zero_le _, rfl, by simp [rcnt]⟩
  case round =>
    obtain ⟨k, hk, rfl, rfl⟩ := hrel
    by_cases hlt : k < xs.length
    · obtain ⟨b, off, rfl, hb, hc⟩ := reads_row hr (by omega)
      have hck := hc k hlt
      have hs := rcnt_succ xs k hlt
      have hl := rcnt_le (xs.take k)
      have hl2 : (xs.take k).length ≤ k := by simp; omega
      generalize xs.getD k 0 = x at *
      generalize rcnt (xs.take k) = y at *
      have hy : y ≤ 1048576 := by omega
      have HS := Lib.hid hs
      by_cases h0 : 0 ≤ x
      · clear hs hl hl2 hc
        go_wp2_with fail
        go_round
        case rel => exact ⟨k + 1, by omega, by go_num, by rw [HS.out, if_pos h0]; go_num⟩
        case measure => simp [intOf]; omega
      · have h1 : x < 0 := by omega
        clear hs hl hl2 hc
        go_wp2_with fail
        go_round
        case rel => exact ⟨k + 1, by omega, by go_num, by rw [HS.out, if_neg h0]; rfl⟩
        case measure => simp [intOf]; omega
    · obtain rfl : k = xs.length := by omega
      go_wp2_with fail
      go_ret
      exact ⟨ret_int (by first | rfl | rw [List.take_length]), rfl⟩


end Go.Proofs.Ythkghbnmdebhpab
