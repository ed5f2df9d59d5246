/- Two boards at once: their grids, and whether they fit. No condition but the sizes. -/
import Derived.Test.YtjmefcebldifaaaQ
namespace Go.Proofs.Ytjmefcebldifaaa
open Go.RowKit Go.WideShapes

/-- A grid's numbers, all 0 where the board is none. -/
def gn (g : Bool) (r : Int) : Int := if g then r else 0
def gm (g : Bool) (xs : List Int) (k : Nat) : Int := if g then xs.getD k 0 else 0

theorem gridOf_any (r c : Int) (a : Option Addr) (cap : Nat) (xs : List Int) (g : Bool) (w : World) (hx : xs.length ≤ 1048576) (hr : Reads w a xs.length xs) (hg : goodB r c xs = g) :
    Calls Try.prog 50 #[.agg #[.int .i64 r, .int .i64 c, .slice a xs.length cap]] w
      fun e w' => e = .returned (.tuple #[gv (gn g r) (gn g c) (gm g xs), .bool g]) ∧ Below w.heap.size w w' := by
  cases g
  · exact gridOf_no r c a cap xs w hx hr hg
  · exact gridOf_yes r c a cap xs w hx hr hg

theorem below_eight {w w1 : World} {B b : Nat} (h : Below B w w1) (hb : B ≤ b) (u0 u1 u2 u3 u4 u5 u6 u7 : Value) :
    Below B w ((((((((w1.setCell ⟨b, 0, none⟩ u0).setCell ⟨b, 1, none⟩ u1).setCell ⟨b, 2, none⟩ u2).setCell ⟨b, 3, none⟩ u3).setCell ⟨b, 4, none⟩ u4).setCell ⟨b, 5, none⟩ u5).setCell ⟨b, 6, none⟩ u6).setCell ⟨b, 7, none⟩ u7) :=
  (((((((h.setCell hb _).setCell hb _).setCell hb _).setCell hb _).setCell hb _).setCell hb _).setCell hb _).setCell hb _

set_option maxHeartbeats 1600000 in
theorem gridsOf_raw (r c r2 c2 : Int) (a a2 : Option Addr) (n n2 cap cap2 : Nat) (R1 C1 R2 C2 : Int) (M1 M2 : Nat → Int) (p q : Bool) (w : World)
    (h1 : ∀ w', Below w.heap.size w w' → Calls Try.prog 50 #[.agg #[.int .i64 r, .int .i64 c, .slice a n cap]] w' fun e w'' => e = .returned (.tuple #[gv R1 C1 M1, .bool p]) ∧ Below w'.heap.size w' w'')
    (h2 : ∀ w', Below w.heap.size w w' → Calls Try.prog 50 #[.agg #[.int .i64 r2, .int .i64 c2, .slice a2 n2 cap2]] w' fun e w'' => e = .returned (.tuple #[gv R2 C2 M2, .bool q]) ∧ Below w'.heap.size w' w'') :
    Calls Try.prog 71 #[.agg #[.int .i64 r, .int .i64 c, .slice a n cap], .agg #[.int .i64 r2, .int .i64 c2, .slice a2 n2 cap2]] w
      fun e w' => e = .returned (.tuple #[gv R1 C1 M1, gv R2 C2 M2, .bool (p && q)]) ∧ Below w.heap.size w w' := by
  have L0 := ((((Law.start w).box (.int .i64 r) (.int .i64 c) (.slice a n cap) 28).box (.int .i64 r2) (.int .i64 c2) (.slice a2 n2 cap2) 28).has (gl 0 0 fun _ => 0) 53).has (gl 0 0 fun _ => 0) 53
  simp only [World.size_alloc] at L0
  have H1 := Lib.hid h1; have H2 := Lib.hid h2
  clear h1 h2
  go_enter Try.func71, Try.ntmps71
  go_wp2_with fail
  refine (H1.out _ L0.below).mono ?_
  rintro e w1 ⟨rfl, hb⟩
  have L1 := (L0.kept hb).has (gl R1 C1 M1) 53
  have ⟨kl, k0, k1, k2, _⟩ := (L0.kept hb).tl.tl.ownBox
  have hz1 := hb.size
  simp only [World.size_alloc] at hz1
  clear hb L0
  go_wp2_with fail
  refine (H2.out _ L1.below).mono ?_
  rintro e w2 ⟨rfl, hb⟩
  have L2 := (L1.kept hb).has (gl R2 C2 M2) 53
  have hz2 := hb.size
  simp only [World.size_alloc] at hz2
  clear hb L1 k0 k1 k2 kl
  go_wp2_with fail
  rw [show w2.alloc (.cells (gl R2 C2 M2).toArray 53) = w2.alloc (.cells #[.int .i64 R2, .int .i64 C2, .int .i64 (M2 0), .int .i64 (M2 1), .int .i64 (M2 2), .int .i64 (M2 3), .int .i64 (M2 4), .int .i64 (M2 5)] 53) from rfl] at L2
  generalize w2.alloc (.cells #[.int .i64 R2, .int .i64 C2, .int .i64 (M2 0), .int .i64 (M2 1), .int .i64 (M2 2), .int .i64 (M2 3), .int .i64 (M2 4), .int .i64 (M2 5)] 53) = w5 at *
  have ⟨g0, g1, g2, g3, g4, g5, g6, g7, _⟩ := L2.ownHas.eight
  have ⟨e0, e1, e2, e3, e4, e5, e6, e7, _⟩ := L2.tl.ownHas.eight
  have ⟨f0, f1, f2, f3, f4, f5, f6, f7, fr1⟩ := L2.tl.tl.ownHas.eight
  have ⟨d0, d1, d2, d3, d4, d5, d6, d7, fr2⟩ := L2.tl.tl.tl.ownHas.eight
  have HB := Lib.hid L2.below
  clear L2 H1 H2
  cases p <;> cases q
  · go_region
    go_wp2_with fail
    refine bodyPost_ret (v := .tuple #[gv R1 C1 M1, gv R2 C2 M2, .bool false]) (by simp [results, Try.results71, go_sem, f0, f1, f2, f3, f4, f5, f6, f7, d0, d1, d2, d3, d4, d5, d6, d7]) rfl ⟨rfl, ?_⟩
    exact (below_eight (below_eight HB.out (by omega) _ _ _ _ _ _ _ _) (by omega) _ _ _ _ _ _ _ _).drew
  · go_region
    go_wp2_with fail
    refine bodyPost_ret (v := .tuple #[gv R1 C1 M1, gv R2 C2 M2, .bool false]) (by simp [results, Try.results71, go_sem, f0, f1, f2, f3, f4, f5, f6, f7, d0, d1, d2, d3, d4, d5, d6, d7]) rfl ⟨rfl, ?_⟩
    exact (below_eight (below_eight HB.out (by omega) _ _ _ _ _ _ _ _) (by omega) _ _ _ _ _ _ _ _).drew
  · go_region
    go_wp2_with fail
    refine bodyPost_ret (v := .tuple #[gv R1 C1 M1, gv R2 C2 M2, .bool false]) (by simp [results, Try.results71, go_sem, f0, f1, f2, f3, f4, f5, f6, f7, d0, d1, d2, d3, d4, d5, d6, d7]) rfl ⟨rfl, ?_⟩
    exact (below_eight (below_eight HB.out (by omega) _ _ _ _ _ _ _ _) (by omega) _ _ _ _ _ _ _ _).drew
  · go_region
    go_wp2_with fail
    refine bodyPost_ret (v := .tuple #[gv R1 C1 M1, gv R2 C2 M2, .bool true]) (by simp [results, Try.results71, go_sem, f0, f1, f2, f3, f4, f5, f6, f7, d0, d1, d2, d3, d4, d5, d6, d7]) rfl ⟨rfl, ?_⟩
    exact (below_eight (below_eight HB.out (by omega) _ _ _ _ _ _ _ _) (by omega) _ _ _ _ _ _ _ _).drew

theorem gridsOf_any (r c r2 c2 : Int) (a a2 : Option Addr) (cap cap2 : Nat) (xs ys : List Int) (p q : Bool) (w : World) (hx : xs.length ≤ 1048576) (hy : ys.length ≤ 1048576) (hr : Reads w a xs.length xs) (hr2 : Reads w a2 ys.length ys)
    (hp : goodB r c xs = p) (hq : goodB r2 c2 ys = q) :
    Calls Try.prog 71 #[.agg #[.int .i64 r, .int .i64 c, .slice a xs.length cap], .agg #[.int .i64 r2, .int .i64 c2, .slice a2 ys.length cap2]] w
      fun e w' => e = .returned (.tuple #[gv (gn p r) (gn p c) (gm p xs), gv (gn q r2) (gn q c2) (gm q ys), .bool (p && q)]) ∧ Below w.heap.size w w' :=
  gridsOf_raw r c r2 c2 a a2 xs.length ys.length cap cap2 _ _ _ _ _ _ p q w (fun w' hb => gridOf_any r c a cap xs p w' hx (hr.kept hb) hp) (fun w' hb => gridOf_any r2 c2 a2 cap2 ys q w' hy (hr2.kept hb) hq)

/-- Have they as many rows and columns? -/
def fitB (r1 c1 r2 c2 : Int) : Bool := decide (r1 = r2 ∧ c1 = c2)
theorem fitB_yes {r c r2 c2 : Int} (h : r = r2) (h2 : c = c2) : fitB r c r2 c2 = true := by simp [fitB, h, h2]
theorem fitB_no {r c r2 c2 : Int} (h : ¬ (r = r2 ∧ c = c2)) : fitB r c r2 c2 = false := by simp only [fitB, decide_eq_false_iff_not]; exact h

end Go.Proofs.Ytjmefcebldifaaa
