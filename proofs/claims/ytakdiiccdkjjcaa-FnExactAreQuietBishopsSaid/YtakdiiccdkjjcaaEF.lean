/- Kings that are near each other; pieces that disturb each other, of the first two kinds. No condition but the sizes. -/
import Derived.Test.YtakdiiccdkjjcaaEC
namespace Go.Proofs.Ytakdiiccdkjjcaa
open Go.RowKit Go.WideShapes

set_option maxRecDepth 100000 in
set_option maxHeartbeats 3200000 in
theorem biNear_any (g1 c1 g2 c2 : Nat) (x0 x1 y0 y1 : Int) (w : World) (hx : (0 ≤ x0 ∧ x0 < 6) ∧ (0 ≤ x1 ∧ x1 < 6)) (hy : (0 ≤ y0 ∧ y0 < 6) ∧ (0 ≤ y1 ∧ y1 < 6))
    (h1 : w.cell? ⟨g1, 0, none⟩ = some (.int .i64 x0)) (h2 : w.cell? ⟨g1, 1, none⟩ = some (.int .i64 x1)) (h3 : w.cell? ⟨g2, 0, none⟩ = some (.int .i64 y0)) (h4 : w.cell? ⟨g2, 1, none⟩ = some (.int .i64 y1)) :
    Calls Try.prog 124 #[.slice (some ⟨g1, 0, none⟩) 2 c1, .slice (some ⟨g2, 0, none⟩) 2 c2] w fun e w' => e = .returned (.bool (kD (x0 - y0) (x1 - y1))) ∧ ∃ n, w' = w.drewN n := by
  have HE := Lib.hid (kD_abs (x0 - y0) (x1 - y1))
  have HA0 := Lib.hid (fun W => l1Abs_any (x0 - y0) W (by omega))
  have HA1 := Lib.hid (fun W => l1Abs_any (x1 - y1) W (by omega))
  have hw0 : IntKind.i64.wrap (x0 - y0) = x0 - y0 := IntWalk.i64_in _ (by omega)
  have hw1 : IntKind.i64.wrap (x1 - y1) = x1 - y1 := IntWalk.i64_in _ (by omega)
  have hv0 : wrap64 (x0 - y0) = x0 - y0 := IntWalk.wrap64_in _ (by omega)
  have hv1 : wrap64 (x1 - y1) = x1 - y1 := IntWalk.wrap64_in _ (by omega)
  clear hx hy
  rw [← HE.out]
  generalize absI (x0 - y0) = a0 at *
  generalize absI (x1 - y1) = a1 at *
  cases k0 : decide (a0 ≤ 1)
  · go_enter Try.func124, Try.ntmps124
    go_wp2_with fail
    go_quiet ((first | (go_at_call 130; with_reducible exact Calls.quiet_of_same (HA0.out _)) | (go_at_call 130; with_reducible exact Calls.quiet_of_same (HA1.out _))))
    go_wp2_with fail
    go_ret
    exact ⟨rfl, _, rfl⟩
  · cases k1 : decide (a1 ≤ 1)
    · go_enter Try.func124, Try.ntmps124
      go_wp2_with fail
      go_quiet ((first | (go_at_call 130; with_reducible exact Calls.quiet_of_same (HA0.out _)) | (go_at_call 130; with_reducible exact Calls.quiet_of_same (HA1.out _))))
      go_wp2_with fail
      go_ret
      exact ⟨rfl, _, rfl⟩
    · go_enter Try.func124, Try.ntmps124
      go_wp2_with fail
      go_quiet ((first | (go_at_call 130; with_reducible exact Calls.quiet_of_same (HA0.out _)) | (go_at_call 130; with_reducible exact Calls.quiet_of_same (HA1.out _))))
      go_wp2_with fail
      go_ret
      exact ⟨rfl, _, rfl⟩
set_option maxRecDepth 100000 in
set_option maxHeartbeats 3200000 in
theorem biDisturb0_any (g1 c1 g2 c2 : Nat) (x0 x1 y0 y1 : Int) (w : World) (hx : (0 ≤ x0 ∧ x0 < 6) ∧ (0 ≤ x1 ∧ x1 < 6)) (hy : (0 ≤ y0 ∧ y0 < 6) ∧ (0 ≤ y1 ∧ y1 < 6))
    (h1 : w.cell? ⟨g1, 0, none⟩ = some (.int .i64 x0)) (h2 : w.cell? ⟨g1, 1, none⟩ = some (.int .i64 x1)) (h3 : w.cell? ⟨g2, 0, none⟩ = some (.int .i64 y0)) (h4 : w.cell? ⟨g2, 1, none⟩ = some (.int .i64 y1)) :
    Calls Try.prog 115 #[.slice (some ⟨g1, 0, none⟩) 2 c1, .slice (some ⟨g2, 0, none⟩) 2 c2, .int .i64 0] w fun e w' => e = .returned (.bool (bD (x0 - y0) (x1 - y1))) ∧ ∃ n, w' = w.drewN n := by
  have HAT := Lib.hid (biAttack_any g1 c1 g2 c2 x0 x1 y0 y1 w hx hy h1 h2 h3 h4)
  clear hx hy
  generalize bD (x0 - y0) (x1 - y1) = b at *
  go_enter Try.func115, Try.ntmps115
  go_wp2_with fail
  refine HAT.out.mono ?_
  rintro e w2 ⟨rfl, n, hw⟩
  subst hw
  go_wp2_with fail
  go_ret
  exact ⟨rfl, _, rfl⟩
set_option maxRecDepth 100000 in
set_option maxHeartbeats 3200000 in
theorem biDisturb1_any (g1 c1 g2 c2 : Nat) (x0 x1 y0 y1 : Int) (w : World) (hx : (0 ≤ x0 ∧ x0 < 6) ∧ (0 ≤ x1 ∧ x1 < 6)) (hy : (0 ≤ y0 ∧ y0 < 6) ∧ (0 ≤ y1 ∧ y1 < 6))
    (h1 : w.cell? ⟨g1, 0, none⟩ = some (.int .i64 x0)) (h2 : w.cell? ⟨g1, 1, none⟩ = some (.int .i64 x1)) (h3 : w.cell? ⟨g2, 0, none⟩ = some (.int .i64 y0)) (h4 : w.cell? ⟨g2, 1, none⟩ = some (.int .i64 y1)) :
    Calls Try.prog 115 #[.slice (some ⟨g1, 0, none⟩) 2 c1, .slice (some ⟨g2, 0, none⟩) 2 c2, .int .i64 1] w fun e w' => e = .returned (.bool (kD (x0 - y0) (x1 - y1))) ∧ ∃ n, w' = w.drewN n := by
  have HAT := Lib.hid (biNear_any g1 c1 g2 c2 x0 x1 y0 y1 w hx hy h1 h2 h3 h4)
  clear hx hy
  generalize kD (x0 - y0) (x1 - y1) = b at *
  go_enter Try.func115, Try.ntmps115
  go_wp2_with fail
  refine HAT.out.mono ?_
  rintro e w2 ⟨rfl, n, hw⟩
  subst hw
  go_wp2_with fail
  go_ret
  exact ⟨rfl, _, rfl⟩

end Go.Proofs.Ytakdiiccdkjjcaa
