/- The greater of two numbers, in the specification. No condition. -/
import Derived.Test.YtdimbnkgomfojabBase
namespace Go.Proofs.Ytdimbnkgomfojab
open Go.RowKit

theorem l1Most_any (x y : Int) (w : World) : Calls Try.prog 85 #[.int .i64 x, .int .i64 y] w fun e w' => e = .returned (.int .i64 (max x y)) ∧ w' = w := by
  by_cases h : y < x
  · have HM := Lib.hid (show max x y = x by omega)
    rw [HM.out]
    go_enter Try.func85, Try.ntmps85
    go_wp2_with fail
    go_ret
    exact ⟨rfl, rfl⟩
  · have HM := Lib.hid (show max x y = y by omega)
    rw [HM.out]
    go_enter Try.func85, Try.ntmps85
    go_wp2_with fail
    go_ret
    exact ⟨rfl, rfl⟩

end Go.Proofs.Ytdimbnkgomfojab
