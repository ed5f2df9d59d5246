/- The diagonals of a colour, in the specification. No condition but the sizes. -/
import Derived.Test.YtakdiiccdkjjcabEb
import Derived.Test.YtakdiiccdkjjcabEc
import Derived.Test.YtakdiiccdkjjcabGp
namespace Go.Proofs.Ytakdiiccdkjjcab
open Go.RowKit Go.WideShapes

theorem put_step {w0 w w' : World} {ts1 ts2 : List Thing} {v u : Value} {A : List Int} {x : Int} (L : Law w0 (ts1 ++ tOwn v A :: ts2) w) (hb : Below w.heap.size w w')
    (h : (putI A x = A ∧ u = v) ∨ Own w' w.heap.size u (putI A x)) : Law w0 (ts1 ++ tOwn u (putI A x) :: ts2) w' := by
  rcases h with ⟨h1, rfl⟩ | h
  · rw [h1]; exact L.kept hb
  · refine Law.perm ?_ List.perm_middle.symm
    refine Law.sub (L.own hb h) ?_
    refine List.Sublist.cons_cons _ ?_
    exact List.Sublist.append (List.Sublist.refl _) (List.sublist_cons_self _ _)

set_option maxRecDepth 100000 in
set_option maxHeartbeats 3200000 in
theorem biDiag_any (r : Int) (m : Nat) (s : Value) (i j : Nat) (w : World) (hm : m ≤ 6) (hi : i < 6) (hj : j < 6) :
    Calls Try.prog 117 #[.agg #[.int .i64 r, .int .i64 m, s], .int .i64 i, .int .i64 j] w fun e w' => e = .returned (.tuple #[.int .i64 ((i : Int) + j), .int .i64 ((i : Int) - j + m - 1)]) ∧ Below w.heap.size w w' := by
  have L0 := (Law.start w).box (.int .i64 r) (.int .i64 m) s 28
  have HL := Lib.hid L0
  clear L0
  go_enter Try.func117, Try.ntmps117
  go_upto_region 1 with fail
  generalize w.alloc _ = w1 at *
  have ⟨_, b0, b1, b2, _⟩ := HL.out.ownBox
  replace HL := Lib.hid HL.out.drew
  go_wp2_with fail
  go_region
  clear b0 b1 b2
  go_wp2_with fail
  go_ret2
  exact ⟨rfl, HL.out.below⟩

end Go.Proofs.Ytakdiiccdkjjcab
