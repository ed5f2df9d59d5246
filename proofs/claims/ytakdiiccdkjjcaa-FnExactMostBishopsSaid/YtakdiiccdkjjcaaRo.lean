/- One rook number, lists without zeros at their end, in both texts. No condition but the sizes. -/
import Derived.Test.YtakdiiccdkjjcaaRn
namespace Go.Proofs.Ytakdiiccdkjjcaa
open Go.RowKit Go.WideShapes

theorem Own.capLe {w : World} {lo g L p : Nat} {xs : List Int} (h : Own w lo (.slice (some ⟨g, 0, none⟩) L p) xs) : L ≤ p := by
  rcases h.cases with ⟨h0, _⟩ | ⟨g', p', h0, _, _, h1, _⟩
  · cases h0
  · injection h0 with _ h2 h3
    omega

def sliceLen : Value → Nat
  | .slice _ n _ => n
  | _ => 0

set_option maxHeartbeats 800000 in
theorem roShort_any (g L p : Nat) (xs : List Int) (w : World) (hx : L ≤ 1048576) (hp : L ≤ p) (hL : xs.length = L) (lo : Nat) (hO : Own w lo (.slice (some ⟨g, 0, none⟩) L p) xs) :
    Calls Try.prog 105 #[.slice (some ⟨g, 0, none⟩) L p] w fun e w' => e = .returned (.slice (some ⟨g, 0, none⟩) (shK xs L) p) ∧ w = w' := by
  have hc : ∀ k, k < L → w.cell? ⟨g, k, none⟩ = some (.int .i64 (xs.getD k 0)) := fun k hk => by
    subst hL
    exact hO.cell k hk
  have HC := Lib.hid hc
  clear hc hO hL
  go_enter Try.func105, Try.ntmps105
  go_wp2_with fail
  go_loop [3] (fun i => ∃ k : Nat, k ≤ L ∧ i = .int .i64 k ∧ Hid (shK xs k = shK xs L)) (fun i => (intOf i).toNat)
  case atStart => exact ⟨L, Nat.le_refl _, rfl, Lib.hid rfl⟩
  case round =>
    obtain ⟨k, hk, rfl, HK⟩ := hrel
    cases k with
    | zero =>
      rw [show ((0 : Nat) : Int) = 0 from rfl]
      have hr := HK.out
      rw [shK] at hr
      have HR := Lib.hid hr
      clear hr HK
      have hp0 : (0 : Int) ≤ p := by omega
      go_wp2_with fail
      go_ret
      exact ⟨congrArg (fun n => Ending.returned (.slice (some ⟨g, 0, none⟩) n p)) HR.out, rfl⟩
    | succ j =>
      have hcj := HC.out j (by omega)
      have hr := HK.out
      rw [shK] at hr
      have hj1 : IntKind.i64.wrap (((j + 1 : Nat) : Int) - 1) = j := by rw [show ((j + 1 : Nat) : Int) - 1 = j by omega]; exact IntWalk.i64_in _ (by omega)
      have hj2 : (0 : Int) ≤ j := by omega
      have hj3 : (j : Int) < L := by omega
      by_cases h0 : xs.getD j 0 = 0
      · rw [if_pos h0] at hr
        rw [h0] at hcj
        have HR := Lib.hid hr
        clear hr HK h0
        go_wp2_with fail
        go_round
        case rel => exact ⟨j, by omega, rfl, HR⟩
        case measure => simp [intOf] <;> omega
      · rw [if_neg h0] at hr
        have HR := Lib.hid hr
        have h0' : (xs.getD j 0 == 0) = false := by rw [beq_eq_false_iff_ne]; exact h0
        have hjp : (j : Int) + 1 ≤ p := by omega
        generalize xs.getD j 0 = x at *
        clear hr HK h0
        go_wp2_with fail
        go_ret
        exact ⟨congrArg (fun n => Ending.returned (.slice (some ⟨g, 0, none⟩) n p)) HR.out, rfl⟩

set_option maxHeartbeats 800000 in
theorem withoutLast_any (g L p : Nat) (xs : List Int) (w : World) (hx : L ≤ 1048576) (hp : L ≤ p) (hL : xs.length = L) (lo : Nat) (hO : Own w lo (.slice (some ⟨g, 0, none⟩) L p) xs) :
    Calls Try.prog 108 #[.slice (some ⟨g, 0, none⟩) L p] w fun e w' => e = .returned (.slice (some ⟨g, 0, none⟩) (shK xs L) p) ∧ w = w' := by
  have hc : ∀ k, k < L → w.cell? ⟨g, k, none⟩ = some (.int .i64 (xs.getD k 0)) := fun k hk => by
    subst hL
    exact hO.cell k hk
  have HC := Lib.hid hc
  clear hc hO hL
  go_enter Try.func108, Try.ntmps108
  go_wp2_with fail
  go_loop [0] (fun i => ∃ k : Nat, k ≤ L ∧ i = .slice (some ⟨g, 0, none⟩) k p ∧ Hid (shK xs k = shK xs L)) (fun i => sliceLen i)
  case atStart => exact ⟨L, Nat.le_refl _, rfl, Lib.hid rfl⟩
  case round =>
    obtain ⟨k, hk, rfl, HK⟩ := hrel
    cases k with
    | zero =>
      have hr := HK.out
      rw [shK] at hr
      have HR := Lib.hid hr
      clear hr HK
      go_wp2_with fail
      go_ret
      exact ⟨congrArg (fun n => Ending.returned (.slice (some ⟨g, 0, none⟩) n p)) HR.out, rfl⟩
    | succ j =>
      have hcj := HC.out j (by omega)
      have hr := HK.out
      rw [shK] at hr
      have hj1 : IntKind.i64.wrap (((j + 1 : Nat) : Int) - 1) = j := by rw [show ((j + 1 : Nat) : Int) - 1 = j by omega]; exact IntWalk.i64_in _ (by omega)
      have hj2 : (0 : Int) ≤ j := by omega
      have hj3 : (j : Int) < L := by omega
      have hjp : (j : Int) ≤ p := by omega
      by_cases h0 : xs.getD j 0 = 0
      · rw [if_pos h0] at hr
        rw [h0] at hcj
        have HR := Lib.hid hr
        clear hr HK h0
        go_wp2_with fail
        go_round
        case rel => exact ⟨j, by omega, rfl, HR⟩
        case measure => simp [sliceLen]
      · rw [if_neg h0] at hr
        have HR := Lib.hid hr
        have h0' : (xs.getD j 0 == 0) = false := by rw [beq_eq_false_iff_ne]; exact h0
        generalize xs.getD j 0 = x at *
        clear hr HK h0
        go_wp2_with fail
        go_ret
        exact ⟨congrArg (fun n => Ending.returned (.slice (some ⟨g, 0, none⟩) n p)) HR.out, rfl⟩


end Go.Proofs.Ytakdiiccdkjjcaa
