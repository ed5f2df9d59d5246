import Derived.Test.YtjmefcebldifaabFold24
import Derived.Test.YtjmefcebldifaabFold25
import Derived.Test.YtjmefcebldifaabFold16
namespace Go.Proofs.Ytjmefcebldifaab
open Go.RowKit Go.WideShapes

theorem fct_fN (k : Nat) (hk : k ≤ 12) : fct k = fN k := by
  have key : ∀ k : Fin 13, fct (k : Nat) = fN k := by decide +kernel
  exact key ⟨k, by omega⟩
theorem sgC_chs (j k : Nat) (hj : j ≤ 12) (hk : k ≤ 12) : ((chs j k : Nat) : Int) * (-1) ^ (j - k) = sgC j k := by
  have key : ∀ j : Fin 13, ∀ k : Fin 13, ((chs (j : Nat) k : Nat) : Int) * (-1) ^ ((j : Nat) - (k : Nat)) = sgC j k := by decide +kernel
  exact key ⟨j, by omega⟩ ⟨k, by omega⟩
/-- Hit numbers off the rook numbers of a square board. -/
theorem hfr_hits (n : Nat) (hn : n ≤ 12) (B : Nat → Nat → Bool) : hfrL (n + 1) (lstL (n + 1) (wR n B n 0 0)) = lstL (n + 1) (pH n B n 0 0) := by
  unfold hfrL shfL lstL
  rw [show lstH (n + 1) (fun k => sumT (shT (exfL (n + 1) ((List.range (n + 1)).map (fun k => (wR n B n 0 0 k : Int)))) (-1) k) (n + 1)) = (List.range (n + 1)).map (fun k => sumT (shT (exfL (n + 1) ((List.range (n + 1)).map (fun k => (wR n B n 0 0 k : Int)))) (-1) k) (n + 1)) from rfl]
  refine List.map_congr_left (fun k hk => ?_)
  have hk := List.mem_range.1 hk
  rw [hits_of]
  refine sumT_congr _ _ _ (fun j hj => ?_)
  unfold shT exfL
  rw [lstH_get (n + 1) _ j hj]
  have e : ((List.range (n + 1)).map (fun k => (wR n B n 0 0 k : Int))).getD j 0 = wR n B n 0 0 j := lstL_get (n + 1) (wR n B n 0 0) j hj
  rw [e, Nat.add_sub_cancel, fct_fN (n - j) (by omega), Int.mul_assoc, sgC_chs j k (by omega) (by omega), Int.mul_comm, Int.natCast_mul]
theorem hits_bd (n : Nat) (B : Nat → Nat → Bool) (hn : n ≤ 6) (j : Nat) (hj : j < n + 1) : Abs 1000000000000 ((lstL (n + 1) (wR n B n 0 0)).getD j 0 * fct (n + 1 - 1 - j)) := by
  rw [lstL_get (n + 1) _ j hj, Nat.add_sub_cancel]
  have h1 := Nat.le_trans (wR_le n hn B n 0 0 j) (pow7 n hn)
  have h2 := fct_bd (n - j) (by omega)
  exact (Abs.mul (a := 117649) (b := 720) (by unfold Abs; omega) (by unfold Abs; omega)).mono (by decide)

/-- What HitNumbers answers. -/
def hitR (r c : Int) (xs : List Int) : LR := if sqB r c xs then ⟨lstL (r.toNat + 1) (pH r.toNat (bt xs) r.toNat 0 0), true⟩ else ⟨[], false⟩
theorem hitR_len (r c : Int) (xs : List Int) : (hitR r c xs).ys.length ≤ 1048576 := by
  unfold hitR
  split
  · rename_i h
    obtain ⟨hg, _⟩ := sq_facts h
    obtain ⟨g1, g2, g3, _⟩ := good_facts hg
    show (lstL _ _).length ≤ _
    rw [lstL_len]; omega
  · simp
def avoidB (r c : Int) (xs : List Int) : R1 := if sqB r c xs then ⟨(pH r.toNat (bt xs) r.toNat 0 0 0 : Nat), true⟩ else ⟨0, false⟩



theorem below_8 {w w1 : World} {B b : Nat} (h : Below B w w1) (hb : B ≤ b) (u0 u1 u2 u3 u4 u5 u6 u7 : Value) :
    Below B w ((((((((w1.setCell ⟨b, 0, none⟩ u0).setCell ⟨b, 1, none⟩ u1).setCell ⟨b, 2, none⟩ u2).setCell ⟨b, 3, none⟩ u3).setCell ⟨b, 4, none⟩ u4).setCell ⟨b, 5, none⟩ u5).setCell ⟨b, 6, none⟩ u6).setCell ⟨b, 7, none⟩ u7) :=
  (((((((h.setCell hb _).setCell hb _).setCell hb _).setCell hb _).setCell hb _).setCell hb _).setCell hb _).setCell hb _
set_option maxRecDepth 100000 in
set_option maxHeartbeats 1600000 in
theorem squareOf_raw (r c : Int) (a : Option Addr) (n cap : Nat) (R1 C1 : Int) (M1 : Nat → Int) (p : Bool) (w : World)
    (h1 : ∀ w', Below w.heap.size w w' → Calls Try.prog 74 #[.agg #[.int .i64 r, .int .i64 c, .slice a n cap]] w' fun e w'' => e = .returned (.tuple #[gv R1 C1 M1, .bool p]) ∧ Below w'.heap.size w' w'') :
    Calls Try.prog 49 #[.agg #[.int .i64 r, .int .i64 c, .slice a n cap]] w
      fun e w' => e = .returned (.tuple #[gv R1 C1 M1, .bool (p && (R1 == C1))]) ∧ Below w.heap.size w w' := by
  have L0 := ((Law.start w).box (.int .i64 r) (.int .i64 c) (.slice a n cap) 28).has (gl 0 0 fun _ => 0) 56
  simp only [World.size_alloc] at L0
  have H1 := Lib.hid h1
  clear h1
  go_enter Try.func49, Try.ntmps49
  go_wp2_with fail
  refine (H1.out _ L0.below).mono ?_
  rintro e w1 ⟨rfl, hb⟩
  have L1 := (L0.kept hb).has (gl R1 C1 M1) 56
  have hz1 := hb.size
  simp only [World.size_alloc] at hz1
  clear hb L0
  go_upto_region 2 with fail
  rw [show w1.alloc (.cells (gl R1 C1 M1).toArray 56) = w1.alloc (.cells #[.int .i64 R1, .int .i64 C1, .int .i64 (M1 0), .int .i64 (M1 1), .int .i64 (M1 2), .int .i64 (M1 3), .int .i64 (M1 4), .int .i64 (M1 5)] 56) from rfl] at L1
  generalize w1.alloc (.cells #[.int .i64 R1, .int .i64 C1, .int .i64 (M1 0), .int .i64 (M1 1), .int .i64 (M1 2), .int .i64 (M1 3), .int .i64 (M1 4), .int .i64 (M1 5)] 56) = w5 at *
  have ⟨g0, g1, g2, g3, g4, g5, g6, g7, _⟩ := L1.ownHas.eight
  have ⟨f0, f1, f2, f3, f4, f5, f6, f7, fr1⟩ := L1.tl.ownHas.eight
  have HB := Lib.hid L1.below
  clear L1 H1
  cases p
  · go_region
    go_wp2_with fail
    refine bodyPost_ret (v := .tuple #[gv R1 C1 M1, .bool false]) (by simp [results, Try.results49, go_sem, f0, f1, f2, f3, f4, f5, f6, f7]) rfl ⟨rfl, ?_⟩
    exact (below_8 HB.out (by omega) _ _ _ _ _ _ _ _).drew
  · go_region
    go_wp2_with fail
    refine bodyPost_ret (v := .tuple #[gv R1 C1 M1, .bool (R1 == C1)]) (by simp [results, Try.results49, go_sem, f0, f1, f2, f3, f4, f5, f6, f7]) rfl ⟨rfl, ?_⟩
    exact (below_8 HB.out (by omega) _ _ _ _ _ _ _ _).drew
theorem squareOf_any (r c : Int) (a : Option Addr) (cap : Nat) (xs : List Int) (w : World) (hx : xs.length ≤ 1048576) (hr : Reads w a xs.length xs) :
    ∃ R1 C1 M1, (sqB r c xs = true → R1 = r ∧ C1 = c ∧ ∀ k, M1 k = xs.getD k 0) ∧ Calls Try.prog 49 #[.agg #[.int .i64 r, .int .i64 c, .slice a xs.length cap]] w
      fun e w' => e = .returned (.tuple #[gv R1 C1 M1, .bool (sqB r c xs)]) ∧ Below w.heap.size w w' := by
  cases hg : goodB r c xs
  · refine ⟨0, 0, fun _ => 0, fun h => by simp [sqB, hg] at h, ?_⟩
    have := squareOf_raw r c a xs.length cap 0 0 (fun _ => 0) false w (fun w' hb => gridOf_no r c a cap xs w' hx (hr.kept hb) hg)
    rw [show sqB r c xs = false by simp [sqB, hg]]
    exact this
  · refine ⟨r, c, fun k => xs.getD k 0, fun _ => ⟨rfl, rfl, fun _ => rfl⟩, ?_⟩
    have := squareOf_raw r c a xs.length cap r c (fun k => xs.getD k 0) true w (fun w' hb => gridOf_yes r c a cap xs w' hx (hr.kept hb) hg)
    rw [show sqB r c xs = (true && (r == c)) by simp [sqB, hg]]
    exact this
end Go.Proofs.Ytjmefcebldifaab
