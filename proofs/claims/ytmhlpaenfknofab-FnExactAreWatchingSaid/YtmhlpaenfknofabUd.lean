/- Pairs of rows that attack each other, in both texts. No condition but the sizes. -/
import Derived.Test.YtmhlpaenfknofabUc
import Derived.Test.YtmhlpaenfknofabMf
import Derived.Test.YtmhlpaenfknofabSa
namespace Go.Proofs.Ytmhlpaenfknofab
open Go.RowKit Go.WideShapes

theorem own_twoQ (w : World) (x y : Int) : Own (w.alloc (.cells #[.int .i64 x, .int .i64 y] 3)) w.heap.size (.slice (some ⟨w.heap.size, 0, none⟩) 2 2) [x, y] :=
  own_of_has (n := 2) (xs := [x, y]) (Has.new w [.int .i64 x, .int .i64 y] 3) (Nat.le_refl _) rfl (by unfold maxLen; omega)
theorem meets_eight (P : Nat → Nat → Bool) (c k : Nat) (hc : c ≤ 8) (hk : k ≤ 8) : (meets P c k).length ≤ 64 :=
  Nat.le_trans (meets_len P c k) (Nat.le_trans (Nat.mul_le_mul hk hc) (Nat.le_refl _))

theorem l1AbsQ_any (x : Int) (w : World) (hx : -100 ≤ x ∧ x ≤ 100) : Calls Try.prog 78 #[.int .i64 x] w fun e w' => e = .returned (.int .i64 (absQ x)) ∧ w = w' := by
  have hn : wrap64 (-x) = -x := IntWalk.wrap64_in _ (by omega)
  have HM : Hid (∀ W, Calls Try.prog 107 #[.int .i64 x, .int .i64 (-x)] W fun e w' => e = .returned (.int .i64 (absQ x)) ∧ w' = W) := Lib.hid (fun W => by
    unfold absQ
    by_cases h : x > -x
    · rw [if_pos h]
      go_enter Try.func107, Try.ntmps107
      go_wp2_with fail
      go_ret
      exact ⟨rfl, rfl⟩
    · rw [if_neg h]
      go_enter Try.func107, Try.ntmps107
      go_wp2_with fail
      go_ret
      exact ⟨rfl, rfl⟩)
  generalize absQ x = y at *
  go_enter Try.func78, Try.ntmps78
  go_wp2_with fail
  refine (HM.out _).mono ?_
  rintro e w' ⟨rfl, hw⟩
  subst hw
  go_wp2_with fail
  go_ret
  exact ⟨rfl, rfl⟩

end Go.Proofs.Ytmhlpaenfknofab
