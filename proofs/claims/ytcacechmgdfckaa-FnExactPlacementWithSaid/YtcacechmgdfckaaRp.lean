/- The most rooks, and permanents: both texts. No condition but the sizes. -/
import Derived.Test.YtcacechmgdfckaaRo
namespace Go.Proofs.Ytcacechmgdfckaa
open Go.RowKit Go.WideShapes

def mostB (r c : Int) (xs : List Int) : R1 := if goodB r c xs then ⟨(shK (numL r.toNat c.toNat (bt xs)) (min r.toNat c.toNat + 1) : Int) - 1, true⟩ else ⟨0, false⟩
/-- As many rows as columns? -/
def sqB (r c : Int) (xs : List Int) : Bool := goodB r c xs && (r == c)
def permB (r c : Int) (xs : List Int) : R1 := if sqB r c xs then ⟨(numL r.toNat r.toNat (bt xs)).getD r.toNat 0, true⟩ else ⟨0, false⟩



theorem sq_facts {r c : Int} {xs : List Int} (h : sqB r c xs = true) : goodB r c xs = true ∧ r = c := by
  rw [sqB, Bool.and_eq_true, beq_iff_eq] at h
  exact h

set_option maxRecDepth 100000 in
set_option maxHeartbeats 1600000 in
theorem roSquare_any (r c : Int) (xs : List Int) (w : World) (hx : xs.length ≤ 1048576) (a : Option Addr) (cap : Nat) (hr : Reads w a xs.length xs) :
    Calls Try.prog 35 #[.agg #[.int .i64 r, .int .i64 c, .slice a xs.length cap]] w fun e w' => e = .returned (.bool (sqB r c xs)) ∧ Below w.heap.size w w' := by
  have L0 := (Law.start w).box (.int .i64 r) (.int .i64 c) (.slice a xs.length cap) 29
  have hr0 := L0.reads hr
  cases hg : goodB r c xs
  · rw [show sqB r c xs = false by simp [sqB, hg]]
    go_enter Try.func35, Try.ntmps35
    go_wp2_with fail
    refine (at_boolB (boGood_any r c a cap xs _ hx hr0) hg).mono ?_
    rintro e w1 ⟨rfl, hb⟩
    have HB := Lib.hid (L0.kept hb).below
    clear L0 hb hg hr0
    go_wp2_with fail
    go_ret
    exact ⟨rfl, HB.out⟩
  · rw [show sqB r c xs = (r == c) by simp [sqB, hg]]
    go_enter Try.func35, Try.ntmps35
    go_wp2_with fail
    refine (at_boolB (boGood_any r c a cap xs _ hx hr0) hg).mono ?_
    rintro e w1 ⟨rfl, hb⟩
    have HB := Lib.hid (L0.kept hb).below
    have ⟨_, k0, k1, k2, _⟩ := (L0.kept hb).ownBox
    clear L0 hb hg hr0
    go_wp2_with fail
    go_ret
    exact ⟨rfl, HB.out⟩


end Go.Proofs.Ytcacechmgdfckaa
