/- Is a number in a list; lists without equal numbers. No condition but the sizes. -/
import Derived.Test.YtmhlpaenfknofaaC
namespace Go.Proofs.Ytmhlpaenfknofaa
open Go.RowKit

def hasL (xs : List Int) (n : Int) : Bool := decide (n ∈ xs)
theorem hasL_take_step (xs : List Int) (n : Int) (k : Nat) (hk : k < xs.length) (h : ¬ n ∈ xs.take k) (hx : xs.getD k 0 ≠ n) : ¬ n ∈ xs.take (k + 1) := by
  rw [List.take_succ_eq_append_getElem hk]
  simp only [List.mem_append, List.mem_singleton, not_or]
  exact ⟨h, fun e => hx (by rw [e]; simp [List.getD, hk])⟩
set_option maxHeartbeats 800000 in
theorem l1HasO_any (a : Option Addr) (cap : Nat) (xs : List Int) (n : Int) (w : World) (hx : xs.length ≤ 1048576) (hr : Reads w a xs.length xs) :
    Calls Try.prog 59 #[.slice a xs.length cap, .int .i64 n] w fun e w' => e = .returned (.bool (hasL xs n)) ∧ w = w' := by
  go_enter Try.func59, Try.ntmps59
  go_wp2
  go_loop [9] (fun i => ∃ k : Nat, k ≤ xs.length ∧ i = .int .i64 k ∧ Hid (¬ n ∈ xs.take k)) (fun i => xs.length - (intOf i).toNat)
  case atStart => exact ⟨0, Nat.zero_le _, rfl, Lib.hid (by simp)⟩
  case round =>
    obtain ⟨k, hk, rfl, HE⟩ := hrel
    by_cases hlt : k < xs.length
    · obtain ⟨b, off, rfl, hb, hc⟩ := reads_row hr (by omega)
      have hck := hc k hlt
      clear hc hr
      by_cases he : xs.getD k 0 = n
      · have t1 : (xs.getD k 0 == n) = true := beq_iff_eq.2 he
        have HD := Lib.hid (show hasL xs n = true by unfold hasL; rw [decide_eq_true_eq, ← he]; simp [List.getD, hlt])
        clear he
        generalize xs.getD k 0 = x at *
        go_wp2_with fail
        go_ret
        exact ⟨ret_bool HD.out.symm, rfl⟩
      · have t1 : (xs.getD k 0 == n) = false := beq_eq_false_iff_ne.2 he
        have HN := Lib.hid (hasL_take_step xs n k hlt HE.out he)
        clear he
        generalize xs.getD k 0 = x at *
        go_wp2_with fail
        go_round
        case rel => exact ⟨k + 1, by omega, by go_num, HN⟩
        case measure => simp [intOf]; omega
    · obtain rfl : k = xs.length := by omega
      have HD := Lib.hid (show hasL xs n = false by
        have := HE.out
        rw [List.take_length] at this
        unfold hasL
        rw [decide_eq_false_iff_not]; exact this)
      go_wp2_with fail
      go_ret
      exact ⟨ret_bool HD.out.symm, rfl⟩

theorem nodup_step (xs : List Int) (k : Nat) (hk : k < xs.length) (h : (xs.take k).Nodup) (hn : ¬ xs.getD k 0 ∈ xs.take k) : (xs.take (k + 1)).Nodup := by
  rw [List.take_succ_eq_append_getElem hk, List.nodup_append]
  refine ⟨h, by simp, ?_⟩
  intro a ha b hb
  simp only [List.mem_singleton] at hb
  subst hb
  intro e
  subst e
  apply hn
  simpa [List.getD, hk] using ha
theorem nodup_no (xs : List Int) (k : Nat) (hk : k < xs.length) (hn : xs.getD k 0 ∈ xs.take k) : decide xs.Nodup = false := by
  rw [decide_eq_false_iff_not]
  intro h
  have h2 : (xs.take (k + 1)).Nodup := h.sublist (List.take_sublist _ _)
  rw [List.take_succ_eq_append_getElem hk, List.nodup_append] at h2
  have e : xs.getD k 0 = xs[k] := by simp [List.getD, hk]
  rw [e] at hn
  exact h2.2.2 _ hn _ (by simp) rfl
theorem Reads.takeO {w : World} {a : Option Addr} {len : Nat} {zs : List Int} (h : Reads w a len zs) (k : Nat) (hk : k ≤ len) : Reads w a (zs.take k).length (zs.take k) := by
  obtain ⟨h1, h2⟩ := h
  refine ⟨rfl, ?_⟩
  have hl : (zs.take k).length = k := by simp; omega
  rw [hl]
  by_cases h0 : k = 0
  · exact .inl h0
  · right
    rcases h2 with h2 | ⟨b, off, ha, hlt, hc⟩
    · omega
    · refine ⟨b, off, ha, hlt, fun j hj => ?_⟩
      rw [hc j (by omega)]
      simp [List.getD, hj]

theorem at_boolV {P : Program} {f : FuncId} {args : Array Value} {b c : Bool} {w : World} (h : Calls P f args w fun e w' => e = .returned (.bool b) ∧ w = w') (e : b = c) : Calls P f args w fun e w' => e = .returned (.bool c) ∧ w = w' := by
  subst e
  exact h


end Go.Proofs.Ytmhlpaenfknofaa
