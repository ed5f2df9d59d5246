/- How many lengths are alike: the program. No condition but the sizes. -/
import Derived.Test.YthkghbnmdebhpabGi
import Derived.Test.YthkghbnmdebhpabGc
namespace Go.Proofs.Ythkghbnmdebhpab
open Go.RowKit Go.WideShapes

set_option maxRecDepth 100000 in
theorem implCcl_any (xs : List Int) (w : World) (hx : xs.length ≤ 1048576) (lo : Nat) (s : Value) (hO : Own w lo s xs) :
    Calls Try.prog 30 #[s] w fun e w' => AnsIO (cclR xs) w e w' := by
  obtain ⟨a, p, rfl, hr⟩ := hO.reads
  clear hO
  cases hg : lenB xs
  · rw [show cclR xs = ⟨0, false⟩ by simp [cclR, hg]]
    have HC := Lib.hid (lengthsOf_no a p xs w hx hr hg)
    clear hg
    go_enter Try.func30, Try.ntmps30
    go_wp2_with fail
    refine HC.out.mono ?_
    rintro e w2 ⟨rfl, hb⟩
    go_wp2_with fail
    go_ret2
    exact ⟨rfl, below_on hb (below_new _)⟩
  · rw [show cclR xs = ⟨(clsL xs.length (facs xs)).length, true⟩ by simp [cclR, hg]]
    obtain ⟨l1, l2, _⟩ := len_facts hg
    have HC := Lib.hid (lengthsOf_yes a p xs w hx hr hg)
    have HK := Lib.hid (fun W => classOf_any xs W l1 l2 (len_bd hg) (fun k => by have := facs_bd hg k; omega))
    clear hg l1 l2
    generalize clsL xs.length (facs xs) = R at *
    obtain ⟨M, hM⟩ : ∃ M : Nat → Int, M = fun k => xs.getD k 0 := ⟨_, rfl⟩
    rw [show fl xs = M from hM.symm] at HK
    rw [← hM] at HC
    clear hM
    go_enter Try.func30, Try.ntmps30
    go_wp2_with fail
    refine HC.out.mono ?_
    rintro e w2 ⟨rfl, hb⟩
    have HB := Lib.hid (below_on hb (below_new (.cells #[.int .i64 xs.length, .int .i64 (M 0), .int .i64 (M 1), .int .i64 (M 2), .int .i64 (M 3), .int .i64 (M 4), .int .i64 (M 5)] 64)))
    clear hb
    go_wp2_with fail
    refine (HK.out _).mono ?_
    rintro e w3 ⟨v, rfl, hO, hb3⟩
    obtain ⟨va, vp, rfl⟩ := hO.form
    have HB3 := Lib.hid (below_on HB.out hb3)
    clear hO hb3
    go_wp2_with fail
    go_ret2
    exact ⟨rfl, HB3.out⟩

end Go.Proofs.Ythkghbnmdebhpab
