/- The fields of two and of three elements, in the program. No condition. -/
import Derived.Test.YtakdiiccdkjjcabSm
namespace Go.Proofs.Ytakdiiccdkjjcab
open Go.RowKit Go.WideShapes

/-- The field of q elements. -/
def fV (q : Nat) : Value := if q = 3 then .iface 128 (.agg #[]) else .iface 127 (.agg #[])
abbrev fV2 : Value := .iface 127 (.agg #[])
abbrev fV3 : Value := .iface 128 (.agg #[])
/-- 2 or 3. -/
def isQ (q : Int) : Bool := decide (q = 2) || decide (q = 3)
theorem isQ_cases {q : Int} (h : isQ q = true) : q = 2 ∨ q = 3 := by simpa [isQ] using h

theorem fieldOf_no (q : Int) (w : World) (h : isQ q = false) : Calls Try.prog 133 #[.int .i64 q] w fun e w' => e = .returned (.tuple #[.nilIface, .bool false]) ∧ w = w' := by
  have h2 : (q == 2) = false := by rw [beq_eq_false_iff_ne]; intro e; subst e; cases h
  have h3 : (q == 3) = false := by rw [beq_eq_false_iff_ne]; intro e; subst e; cases h
  clear h
  go_enter Try.func133, Try.ntmps133
  go_wp2
  go_ret2
  exact ⟨rfl, rfl⟩
theorem fieldOf_2 (w : World) : Calls Try.prog 133 #[.int .i64 2] w fun e w' => e = .returned (.tuple #[fV2, .bool true]) ∧ w = w' := by
  go_enter Try.func133, Try.ntmps133
  go_wp2
  go_ret2
  exact ⟨rfl, rfl⟩
theorem fieldOf_3 (w : World) : Calls Try.prog 133 #[.int .i64 3] w fun e w' => e = .returned (.tuple #[fV3, .bool true]) ∧ w = w' := by
  go_enter Try.func133, Try.ntmps133
  go_wp2
  go_ret2
  exact ⟨rfl, rfl⟩

theorem size_2 (w : World) : Calls Try.prog 167 #[.agg #[]] w fun e w' => e = .returned (.int .i64 2) ∧ Below w.heap.size w w' := by
  have hb := below_new (w := w) (.cells #[] 127)
  go_enter Try.func167, Try.ntmps167
  go_wp2
  go_ret
  exact ⟨rfl, hb⟩
theorem size_3 (w : World) : Calls Try.prog 171 #[.agg #[]] w fun e w' => e = .returned (.int .i64 3) ∧ Below w.heap.size w w' := by
  have hb := below_new (w := w) (.cells #[] 128)
  go_enter Try.func171, Try.ntmps171
  go_wp2
  go_ret
  exact ⟨rfl, hb⟩
theorem meth_size2 (w : World) : (method 246 127 (.agg #[]) "loop.example/g01125/impl.size").run Try.prog w = .ok (167, .agg #[]) w := by kernel_rfl
theorem meth_size3 (w : World) : (method 246 128 (.agg #[]) "loop.example/g01125/impl.size").run Try.prog w = .ok (171, .agg #[]) w := by kernel_rfl

/-- A power of 2 or 3, of whatever exponent up to 39. -/
theorem pow23_bd : ∀ q : Fin 4, ∀ k : Fin 40, 0 ≤ (((q : Nat) : Int)) ^ (k : Nat) ∧ (((q : Nat) : Int)) ^ (k : Nat) ≤ 4052555153018976267 := by decide +kernel
theorem pow23_in (q k : Nat) (hq : q ≤ 3) (hk : k ≤ 39) : 0 ≤ (q : Int) ^ k ∧ (q : Int) ^ k ≤ 4052555153018976267 := pow23_bd ⟨q, by omega⟩ ⟨k, by omega⟩
set_option maxHeartbeats 800000 in
theorem powerq_any (q : Nat) (hq : q ≤ 3) (k : Nat) (w : World) (hk : k ≤ 39) : Calls Try.prog 104 #[.int .i64 q, .int .i64 k] w fun e w' => e = .returned (.int .i64 ((q : Int) ^ k)) ∧ w' = w := by
  have HX := Lib.hid (fun k hk => pow23_in q k hq hk)
  clear hq
  go_enter Try.func104, Try.ntmps104
  go_wp2_with fail
  go_loop [5, 6] (fun t i => ∃ j : Nat, j ≤ k ∧ i = .int .i64 j ∧ t = .int .i64 ((q : Int) ^ j)) (fun _ i => k - (intOf i).toNat)
  case atStart => exact ⟨0, Nat.zero_le _, rfl, by simp⟩
  case round =>
    obtain ⟨j, hj, rfl, rfl⟩ := hrel
    by_cases hlt : j < k
    · have h1 := HX.out (j + 1) (by omega)
      have hm : wrap64 ((q : Int) ^ j * q) = (q : Int) ^ (j + 1) := by rw [show (q : Int) ^ j * q = (q : Int) ^ (j + 1) from (Int.pow_succ _ j).symm]; exact IntWalk.wrap64_in _ (by omega)
      clear h1
      go_wp2_with fail
      go_round
      case rel => exact ⟨j + 1, by omega, by go_num, by first | rfl | rw [hm]⟩
      case measure => simp [intOf]; omega
    · obtain rfl : j = k := by omega
      go_wp2_with fail
      go_ret
      exact ⟨rfl, rfl⟩
/-- .. and of a negative one. -/
theorem power_neg (x k : Int) (w : World) (hk : k ≤ 0) : Calls Try.prog 104 #[.int .i64 x, .int .i64 k] w fun e w' => e = .returned (.int .i64 1) ∧ w' = w := by
  have hk' : ¬ (0 : Int) < k := by omega
  go_enter Try.func104, Try.ntmps104
  go_wp2_with fail
  go_loop [5, 6] (fun t i => i = .int .i64 0 ∧ t = .int .i64 1) (fun _ _ => 0)
  case atStart => exact ⟨rfl, rfl⟩
  case round =>
    obtain ⟨rfl, rfl⟩ := hrel
    go_wp2_with fail
    go_ret
    exact ⟨rfl, rfl⟩

set_option maxRecDepth 100000 in
theorem bracket1_any (q : Nat) (hq : q = 2 ∨ q = 3) (b k : Nat) (w : World) (hk : k ≤ 39) (hb : w.cell? ⟨b, 0, none⟩ = some (fV q)) :
    Calls Try.prog 145 (#[.int .i64 k] ++ #[.pointer (some ⟨b, 0, none⟩)]) w fun e w' => e = .returned (.int .i64 ((q : Int) ^ k)) ∧ Below w.heap.size w w' := by
  have HP := Lib.hid (fun W => powerq_any q (by omega) k W hk)
  rcases hq with rfl | rfl
  · rw [show fV 2 = fV2 from rfl] at hb
    have hm := fun w => meth_size2 w
    have HS := Lib.hid size_2
    simp only [show ((2 : Nat) : Int) = 2 from rfl] at HP ⊢
    go_enter Try.func145, Try.ntmps145
    go_wp2_with fail
    refine (HS.out _).mono ?_
    rintro e w1 ⟨rfl, hb1⟩
    have HB := Lib.hid hb1
    clear hb1 hb
    go_wp2_with fail
    refine (HP.out _).mono ?_
    rintro e w' ⟨rfl, hww⟩
    subst hww
    go_wp2_with fail
    go_ret
    exact ⟨rfl, HB.out⟩
  · rw [show fV 3 = fV3 from rfl] at hb
    have hm := fun w => meth_size3 w
    have HS := Lib.hid size_3
    simp only [show ((3 : Nat) : Int) = 3 from rfl] at HP ⊢
    go_enter Try.func145, Try.ntmps145
    go_wp2_with fail
    refine (HS.out _).mono ?_
    rintro e w1 ⟨rfl, hb1⟩
    have HB := Lib.hid hb1
    clear hb1 hb
    go_wp2_with fail
    refine (HP.out _).mono ?_
    rintro e w' ⟨rfl, hww⟩
    subst hww
    go_wp2_with fail
    go_ret
    exact ⟨rfl, HB.out⟩
end Go.Proofs.Ytakdiiccdkjjcab
