/- Pieces that disturb each other, in the specification. No condition but the sizes. -/
import Derived.Test.YtakdiiccdkjjcaaEr
import Derived.Test.YtakdiiccdkjjcaaEe
import Derived.BigQuiet
namespace Go.Proofs.Ytakdiiccdkjjcaa
open Go.RowKit Go.WideShapes

theorem l1Abs_any (x : Int) (w : World) (hx : -100 ≤ x ∧ x ≤ 100) : Calls Try.prog 130 #[.int .i64 x] w fun e w' => e = .returned (.int .i64 (absI x)) ∧ w' = w := by
  have hn : wrap64 (-x) = -x := IntWalk.wrap64_in _ (by omega)
  have HM : Hid (∀ W, Calls Try.prog 131 #[.int .i64 x, .int .i64 (-x)] W fun e w' => e = .returned (.int .i64 (absI x)) ∧ w' = W) := Lib.hid (fun W => by
    unfold absI
    by_cases h : x > -x
    · rw [if_pos h]
      go_enter Try.func131, Try.ntmps131
      go_wp2_with fail
      go_ret
      exact ⟨rfl, rfl⟩
    · rw [if_neg h]
      go_enter Try.func131, Try.ntmps131
      go_wp2_with fail
      go_ret
      exact ⟨rfl, rfl⟩)
  generalize absI x = y at *
  go_enter Try.func130, Try.ntmps130
  go_wp2_with fail
  refine (HM.out _).mono ?_
  rintro e w' ⟨rfl, rfl⟩
  go_wp2_with fail
  go_ret
  exact ⟨rfl, rfl⟩
set_option maxRecDepth 100000 in
set_option maxHeartbeats 3200000 in
theorem biAttack_any (g1 c1 g2 c2 : Nat) (x0 x1 y0 y1 : Int) (w : World) (hx : (0 ≤ x0 ∧ x0 < 6) ∧ (0 ≤ x1 ∧ x1 < 6)) (hy : (0 ≤ y0 ∧ y0 < 6) ∧ (0 ≤ y1 ∧ y1 < 6))
    (h1 : w.cell? ⟨g1, 0, none⟩ = some (.int .i64 x0)) (h2 : w.cell? ⟨g1, 1, none⟩ = some (.int .i64 x1)) (h3 : w.cell? ⟨g2, 0, none⟩ = some (.int .i64 y0)) (h4 : w.cell? ⟨g2, 1, none⟩ = some (.int .i64 y1)) :
    Calls Try.prog 123 #[.slice (some ⟨g1, 0, none⟩) 2 c1, .slice (some ⟨g2, 0, none⟩) 2 c2] w fun e w' => e = .returned (.bool (bD (x0 - y0) (x1 - y1))) ∧ ∃ n, w' = w.drewN n := by
  have HE := Lib.hid (bD_abs (x0 - y0) (x1 - y1))
  have HA0 := Lib.hid (fun W => l1Abs_any (x0 - y0) W (by omega))
  have HA1 := Lib.hid (fun W => l1Abs_any (x1 - y1) W (by omega))
  have hw0 : IntKind.i64.wrap (x0 - y0) = x0 - y0 := IntWalk.i64_in _ (by omega)
  have hw1 : IntKind.i64.wrap (x1 - y1) = x1 - y1 := IntWalk.i64_in _ (by omega)
  have hv0 : wrap64 (x0 - y0) = x0 - y0 := IntWalk.wrap64_in _ (by omega)
  have hv1 : wrap64 (x1 - y1) = x1 - y1 := IntWalk.wrap64_in _ (by omega)
  clear hx hy
  rw [← HE.out]
  generalize absI (x0 - y0) = a0 at *
  generalize absI (x1 - y1) = a1 at *
  go_enter Try.func123, Try.ntmps123
  go_wp2_with fail
  go_quiet ((first | (go_at_call 130; with_reducible exact Calls.quiet_of_same (HA0.out _)) | (go_at_call 130; with_reducible exact Calls.quiet_of_same (HA1.out _))))
  go_wp2_with fail
  go_ret
  exact ⟨rfl, _, rfl⟩
set_option maxRecDepth 100000 in
set_option maxHeartbeats 3200000 in
theorem biDisturb2_any (g1 c1 g2 c2 : Nat) (x0 x1 y0 y1 : Int) (w : World) (hx : (0 ≤ x0 ∧ x0 < 6) ∧ (0 ≤ x1 ∧ x1 < 6)) (hy : (0 ≤ y0 ∧ y0 < 6) ∧ (0 ≤ y1 ∧ y1 < 6))
    (h1 : w.cell? ⟨g1, 0, none⟩ = some (.int .i64 x0)) (h2 : w.cell? ⟨g1, 1, none⟩ = some (.int .i64 x1)) (h3 : w.cell? ⟨g2, 0, none⟩ = some (.int .i64 y0)) (h4 : w.cell? ⟨g2, 1, none⟩ = some (.int .i64 y1)) :
    Calls Try.prog 115 #[.slice (some ⟨g1, 0, none⟩) 2 c1, .slice (some ⟨g2, 0, none⟩) 2 c2, .int .i64 2] w fun e w' => e = .returned (.bool (bD (x0 - y0) (x1 - y1) || (x0 == y0 || x1 == y1))) ∧ ∃ n, w' = w.drewN n := by
  have HAT := Lib.hid (fun n => biAttack_any g1 c1 g2 c2 x0 x1 y0 y1 (w.drewN n) hx hy (by simpa using h1) (by simpa using h2) (by simpa using h3) (by simpa using h4))
  clear hx hy
  cases hd : bD (x0 - y0) (x1 - y1)
  · rw [hd] at HAT
    cases he : (x0 == y0)
    · cases hf : (x1 == y1)
      · clear hd
        go_enter Try.func115, Try.ntmps115
        go_wp2_with fail
        go_quiet ((go_at_call 123; with_reducible exact Calls.quiet_of (HAT.out _)))
        go_wp2_with fail
        go_ret
        exact ⟨rfl, _, rfl⟩
      · clear hd
        go_enter Try.func115, Try.ntmps115
        go_wp2_with fail
        go_quiet ((go_at_call 123; with_reducible exact Calls.quiet_of (HAT.out _)))
        go_wp2_with fail
        go_ret
        exact ⟨rfl, _, rfl⟩
    · clear hd
      go_enter Try.func115, Try.ntmps115
      go_wp2_with fail
      go_quiet ((go_at_call 123; with_reducible exact Calls.quiet_of (HAT.out _)))
      go_wp2_with fail
      go_ret
      exact ⟨rfl, _, rfl⟩
  · rw [hd] at HAT
    clear hd
    go_enter Try.func115, Try.ntmps115
    go_wp2_with fail
    go_quiet ((go_at_call 123; with_reducible exact Calls.quiet_of (HAT.out _)))
    go_wp2_with fail
    go_ret
    exact ⟨rfl, _, rfl⟩

end Go.Proofs.Ytakdiiccdkjjcaa
