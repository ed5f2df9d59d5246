/- Placements told apart, in both texts. No condition but the sizes. -/
import Derived.Test.YtddmommamcgelabPa
import Derived.Test.YtddmommamcgelabG2
import Derived.Test.YtddmommamcgelabH
namespace Go.Proofs.Ytddmommamcgelab
open Go.RowKit Go.WideShapes

theorem has_upto (xs : List Int) (c : Int) (k : Nat) (hk : k < xs.length) : hasI (xs.take (k + 1)) c = (hasI (xs.take k) c || xs.getD k 0 == c) := by
  rw [take_snoc xs k hk, hasI_snoc]
theorem has_yes (xs : List Int) (c : Int) (k : Nat) (hk : k < xs.length) (h : xs.getD k 0 = c) : hasI xs c = true := by
  have e : xs.getD k 0 = xs[k] := by simp [List.getD, hk]
  rw [e] at h
  rw [hasI_iff]
  rw [← h]
  exact List.getElem_mem hk
set_option maxHeartbeats 800000 in
theorem l1Has_any (a : Option Addr) (k cap : Nat) (xs : List Int) (c : Int) (w : World) (hx : xs.length ≤ 1048576) (hk : xs.length = k) (hr : Reads w a k xs) :
    Calls Try.prog 112 #[.slice a k cap, .int .i64 c] w fun e w' => e = .returned (.bool (hasI xs c)) ∧ w = w' := by
  subst hk
  go_enter Try.func112, Try.ntmps112
  go_wp2_with fail
  go_loop [9] (fun i => ∃ k : Nat, k ≤ xs.length ∧ i = .int .i64 k ∧ Hid (hasI (xs.take k) c = false)) (fun i => xs.length - (intOf i).toNat)
  case atStart => exact ⟨0, Nat.zero_le _, rfl, Lib.hid (hasI_nil c)⟩
  case round =>
    obtain ⟨k, hk, rfl, HW⟩ := hrel
    by_cases hlt : k < xs.length
    · obtain ⟨b, off, rfl, hb, hc⟩ := reads_row hr (by omega)
      have hck := hc k hlt
      have hn := has_upto xs c k hlt
      rw [HW.out, Bool.false_or] at hn
      have hy := has_yes xs c k hlt
      clear hc
      generalize xs.getD k 0 = x at *
      by_cases he : x = c
      · subst he
        have HY := Lib.hid (hy rfl)
        clear hn hy
        go_wp2_with fail
        go_ret
        exact ⟨ret_bool HY.out.symm, rfl⟩
      · have he' : (x == c) = false := by rw [beq_eq_false_iff_ne]; exact he
        rw [he'] at hn
        have HN := Lib.hid hn
        clear hn hy he
        go_wp2_with fail
        go_round
        case rel => exact ⟨k + 1, by omega, by go_num, HN⟩
        case measure => simp [intOf]; omega
    · obtain rfl : k = xs.length := by omega
      go_wp2_with fail
      go_ret
      have h := HW.out
      rw [List.take_length] at h
      exact ⟨ret_bool h.symm, rfl⟩

end Go.Proofs.Ytddmommamcgelab
