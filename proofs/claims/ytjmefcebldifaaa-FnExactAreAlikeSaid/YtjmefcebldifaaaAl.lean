/- Equal lists; boards that are alike: both texts. No condition but the sizes. -/
import Derived.Test.YtjmefcebldifaaaRp
import Derived.Test.YtjmefcebldifaaaPa
import Derived.Test.YtjmefcebldifaaaU
import Derived.Deep.RegionWith
import Derived.Test.YtjmefcebldifaaaT2
import Derived.Test.YtjmefcebldifaaaSa
namespace Go.Proofs.Ytjmefcebldifaaa
open Go.RowKit Go.WideShapes

/-- A list without the zeros at its end. -/
def shL (ys : List Int) (L : Nat) : List Int := ys.take (shK ys L)
theorem shL_len (ys : List Int) (L : Nat) (h : ys.length = L) : (shL ys L).length = shK ys L := by
  have := shK_le ys L
  simp [shL]
  omega
def alikeB (r c : Int) (xs : List Int) (r2 c2 : Int) (ys : List Int) : R2 := if goodB r c xs && goodB r2 c2 ys then ⟨decide (shL (numL r.toNat c.toNat (bt xs)) (min r.toNat c.toNat + 1) = shL (numL r2.toNat c2.toNat (bt ys)) (min r2.toNat c2.toNat + 1)), true⟩ else ⟨false, false⟩
theorem own_readsSh {w : World} {lo g L p : Nat} {ys : List Int} (h : Own w lo (.slice (some ⟨g, 0, none⟩) L p) ys) (hl : ys.length = L) : Reads w (some ⟨g, 0, none⟩) (shK ys L) (shL ys L) := by
  obtain ⟨a, p', e, hr⟩ := h.reads
  injection e with e1 e2 e3
  subst e1
  exact hr.take (shK ys L) (by have := shK_le ys L; omega)

set_option maxRecDepth 100000 in
set_option maxHeartbeats 12800000 in
theorem specAlike_any (r c : Int) (xs : List Int) (r2 c2 : Int) (ys : List Int) (w : World) (hx : xs.length ≤ 1048576) (hy : ys.length ≤ 1048576) (lo : Nat) (s : Value) (lo2 : Nat) (s2 : Value) (hO : Own w lo s xs) (hO2 : Own w lo2 s2 ys) :
    Calls Try.prog 35 #[.agg #[.int .i64 r, .int .i64 c, s], .agg #[.int .i64 r2, .int .i64 c2, s2]] w fun e w' => AnsOO (alikeB r c xs r2 c2 ys) w e w' := by
  have L0 := ((Law.start w).box (.int .i64 r) (.int .i64 c) s 28).box (.int .i64 r2) (.int .i64 c2) s2 28
  simp only [World.size_alloc] at L0
  have hOa := hO.kept L0.below
  have hOb := hO2.kept L0.below
  obtain ⟨a, cap, rfl, hr⟩ := hO.reads
  obtain ⟨a2, cap2, rfl, hr2⟩ := hO2.reads
  have hr0 := L0.reads hr
  clear hO hO2
  cases hg : goodB r c xs
  · rw [show alikeB r c xs r2 c2 ys = ⟨false, false⟩ by simp [alikeB, hg]]
    go_enter Try.func35, Try.ntmps35
    go_wp2_with fail
    refine (at_boolB (boGood_any r c a cap xs _ hx hr0) hg).mono ?_
    rintro e w1 ⟨rfl, hb⟩
    have HB := Lib.hid (L0.kept hb).below
    clear L0 hb hg hr0 hOa hOb
    go_wp2_with fail
    go_ret2
    exact ⟨rfl, HB.out⟩
  · have HC := Lib.hid (at_boolB (boGood_any r c a cap xs _ hx hr0) hg)
    cases hg2 : goodB r2 c2 ys
    · rw [show alikeB r c xs r2 c2 ys = ⟨false, false⟩ by simp [alikeB, hg2]]
      clear hg hr0
      go_enter Try.func35, Try.ntmps35
      go_wp2_with fail
      refine HC.out.mono ?_
      rintro e w1 ⟨rfl, hb⟩
      have L1 := L0.kept hb
      have ⟨_, k0, k1, k2, _⟩ := L1.ownBox
      have hr1 := L1.reads hr2
      have HL := Lib.hid L1
      clear L0 hb L1 hOa hOb HC
      go_wp2_with fail
      refine (at_boolB (boGood_any r2 c2 a2 cap2 ys _ hy hr1) hg2).mono ?_
      rintro e w2 ⟨rfl, hb⟩
      have HB := Lib.hid (HL.out.kept hb).below
      clear HL hb hg2 hr1 k0 k1 k2
      go_wp2_with fail
      go_ret2
      exact ⟨rfl, HB.out⟩
    · obtain ⟨g1, g2, g3, _⟩ := good_facts hg
      obtain ⟨g4, g5, g6, _⟩ := good_facts hg2
      obtain ⟨n, rfl⟩ := Int.eq_ofNat_of_zero_le (show 0 ≤ r by omega)
      obtain ⟨m, rfl⟩ := Int.eq_ofNat_of_zero_le (show 0 ≤ c by omega)
      obtain ⟨n2, rfl⟩ := Int.eq_ofNat_of_zero_le (show 0 ≤ r2 by omega)
      obtain ⟨m2, rfl⟩ := Int.eq_ofNat_of_zero_le (show 0 ≤ c2 by omega)
      rw [show alikeB n m xs n2 m2 ys = ⟨decide (shL (numL n m (bt xs)) (min n m + 1) = shL (numL n2 m2 (bt ys)) (min n2 m2 + 1)), true⟩ by simp [alikeB, hg, hg2]]
      have HC2 := Lib.hid (fun W (h : Reads W a2 ys.length ys) => at_boolB (boGood_any n2 m2 a2 cap2 ys W hy h) hg2)
      have HN1 := Lib.hid (fun (W : World) (hO : Own W lo (.slice a xs.length cap) xs) => roNumbers_any n m xs W hx (by omega) (by omega) (by omega) (good_cell hg) lo _ hO)
      have HN2 := Lib.hid (fun (W : World) (hO : Own W lo2 (.slice a2 ys.length cap2) ys) => roNumbers_any n2 m2 ys W hy (by omega) (by omega) (by omega) (good_cell hg2) lo2 _ hO)
      have HK1 := Lib.hid (numL_len n m (bt xs))
      have HK2 := Lib.hid (numL_len n2 m2 (bt ys))
      have hq1 : min n m ≤ 6 := by omega
      have hq2 : min n2 m2 ≤ 6 := by omega
      clear hg hg2 hr0 g1 g2 g3 g4 g5 g6
      generalize numL n m (bt xs) = us at *
      generalize numL n2 m2 (bt ys) = vs at *
      generalize min n m = q1 at *
      generalize min n2 m2 = q2 at *
      go_enter Try.func35, Try.ntmps35
      go_wp2_with fail
      refine HC.out.mono ?_
      rintro e w1 ⟨rfl, hb⟩
      have L1 := L0.kept hb
      have hOa1 := hOa.kept hb
      have hOb1 := hOb.kept hb
      have ⟨_, k0, k1, k2, _⟩ := L1.ownBox
      have hr1 := L1.reads hr2
      have HL := Lib.hid L1
      clear L0 hb L1 hOa hOb HC
      go_wp2_with fail
      refine (HC2.out _ hr1).mono ?_
      rintro e w2 ⟨rfl, hb⟩
      have L2 := (HL.out.kept hb).drew
      have HA := Lib.hid ((hOa1.kept hb).kept (Below.refl _ _).drew)
      have HB := Lib.hid ((hOb1.kept hb).kept (Below.refl _ _).drew)
      clear k0 k1 k2 HL hb hr1 hOa1 hOb1
      have ⟨_, j0, j1, j2, _⟩ := L2.ownBox
      have ⟨_, i0, i1, i2, _⟩ := L2.tl.ownBox
      have HL := Lib.hid L2
      clear L2
      go_wp2_with fail
      go_region_with ((first
        | (go_at_call 49; ((with_reducible refine (HN1.out _ HA.out).mono ?_); rintro e wA ⟨gA, pA, rfl, hOA, hbA⟩; replace HL := Lib.hid (HL.out.own hbA hOA); replace HA := Lib.hid (HA.out.kept hbA); replace HB := Lib.hid (HB.out.kept hbA); have hcA := hOA.capLe; clear hOA hbA; have ⟨_, j0, j1, j2, _⟩ := HL.out.boxOf (n := w.heap.size + 1) (x := .int .i64 n2) (y := .int .i64 m2) (z := .slice a2 ys.length cap2) (by simp); have ⟨_, i0, i1, i2, _⟩ := HL.out.boxOf (n := w.heap.size) (x := .int .i64 n) (y := .int .i64 m) (z := .slice a xs.length cap) (by simp)))
        | (go_at_call 49; ((with_reducible refine (HN2.out _ HB.out).mono ?_); rintro e wB ⟨gB, pB, rfl, hOB, hbB⟩; replace HL := Lib.hid (HL.out.own hbB hOB); replace HA := Lib.hid (HA.out.kept hbB); replace HB := Lib.hid (HB.out.kept hbB); have hcB := hOB.capLe; clear hOB hbB; have ⟨_, j0, j1, j2, _⟩ := HL.out.boxOf (n := w.heap.size + 1) (x := .int .i64 n2) (y := .int .i64 m2) (z := .slice a2 ys.length cap2) (by simp); have ⟨_, i0, i1, i2, _⟩ := HL.out.boxOf (n := w.heap.size) (x := .int .i64 n) (y := .int .i64 m) (z := .slice a xs.length cap) (by simp)))
        | (go_at_call 52; ((with_reducible refine (roShort_any gA (q1 + 1) pA us _ (by omega) hcA HK1.out 0 (HL.out.ownOf (by simp))).mono ?_); rintro e w' ⟨rfl, rfl⟩))
        | (go_at_call 52; ((with_reducible refine (roShort_any gB (q2 + 1) pB vs _ (by omega) hcB HK2.out 0 (HL.out.ownOf (by simp))).mono ?_); rintro e w' ⟨rfl, rfl⟩))
        | (go_at_call 70; ((with_reducible refine (l1Same_any (some ⟨gA, 0, none⟩) (some ⟨gB, 0, none⟩) (shK us (q1 + 1)) (shK vs (q2 + 1)) pA pB (shL us (q1 + 1)) (shL vs (q2 + 1)) _ (by rw [shL_len _ _ HK1.out]; have := shK_le us (q1 + 1); omega) (shL_len _ _ HK1.out) (shL_len _ _ HK2.out) (own_readsSh (p := pA) (HL.out.ownOf (by simp)) HK1.out) (own_readsSh (p := pB) (HL.out.ownOf (by simp)) HK2.out)).mono ?_); rintro e wE ⟨rfl, hdE⟩; have HE := Lib.hid (HL.out.kept hdE.below).below; clear hdE))))
      all_goals
        go_wp2_with fail
        go_ret2
        exact ⟨rfl, HE.out⟩

end Go.Proofs.Ytjmefcebldifaaa
