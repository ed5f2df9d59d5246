/- A placement on a board, and turned ones: both texts. No condition but the sizes. -/
import Derived.Test.YtdimbnkgomfojabPt
import Derived.BigRegion
namespace Go.Proofs.Ytdimbnkgomfojab
open Go.RowKit Go.WideShapes

def okPl (r c : Int) (xs P : List Int) : Bool := goodB r c xs && placeP r.toNat c.toNat xs P
/-- What a call answers that asks for a board's grid and a list's places. -/
def AnsG (r c : Int) (xs P : List Int) (w : World) (e : Ending) (w' : World) : Prop :=
  ∃ (r' c' : Int) (M F : Nat → Int), e = .returned (.tuple #[gv r' c' M, pv6 F, .bool (okPl r c xs P)]) ∧ (okPl r c xs P = true → r' = r ∧ c' = c ∧ (∀ k, M k = xs.getD k 0) ∧ F = plF P r.toNat) ∧ Below w.heap.size w w'
theorem below_six {w w1 : World} {B b : Nat} (h : Below B w w1) (hb : B ≤ b) (u0 u1 u2 u3 u4 u5 : Value) :
    Below B w ((((((w1.setCell ⟨b, 0, none⟩ u0).setCell ⟨b, 1, none⟩ u1).setCell ⟨b, 2, none⟩ u2).setCell ⟨b, 3, none⟩ u3).setCell ⟨b, 4, none⟩ u4).setCell ⟨b, 5, none⟩ u5) :=
  (((((h.setCell hb _).setCell hb _).setCell hb _).setCell hb _).setCell hb _).setCell hb _
theorem below_eight2 {w w1 : World} {B b : Nat} (h : Below B w w1) (hb : B ≤ b) (u0 u1 u2 u3 u4 u5 u6 u7 : Value) :
    Below B w ((((((((w1.setCell ⟨b, 0, none⟩ u0).setCell ⟨b, 1, none⟩ u1).setCell ⟨b, 2, none⟩ u2).setCell ⟨b, 3, none⟩ u3).setCell ⟨b, 4, none⟩ u4).setCell ⟨b, 5, none⟩ u5).setCell ⟨b, 6, none⟩ u6).setCell ⟨b, 7, none⟩ u7) :=
  (((((((h.setCell hb _).setCell hb _).setCell hb _).setCell hb _).setCell hb _).setCell hb _).setCell hb _).setCell hb _

set_option maxRecDepth 100000 in
set_option maxHeartbeats 6400000 in
theorem placementOn_any (r c : Int) (xs P : List Int) (w : World) (hx : xs.length ≤ 1048576) (hp : P.length ≤ 1048576) (a : Option Addr) (cap : Nat) (hr : Reads w a xs.length xs) (a2 : Option Addr) (p2 : Nat) (hr2 : Reads w a2 P.length P) :
    Calls Try.prog 91 #[.agg #[.int .i64 r, .int .i64 c, .slice a xs.length cap], .slice a2 P.length p2] w fun e w' => AnsG r c xs P w e w' := by
  have L0 := (((Law.start w).box (.int .i64 r) (.int .i64 c) (.slice a xs.length cap) 28).has (gl 0 0 fun _ => 0) 68).has (pl6 fun _ => 0) 71
  simp only [World.size_alloc] at L0
  have hr0 := L0.reads hr
  cases hg : goodB r c xs
  · have HD : Hid (okPl r c xs P = false) := Lib.hid (by simp [okPl, hg])
    go_enter Try.func91, Try.ntmps91
    go_wp2_with fail
    refine (gridOf_no r c a cap xs _ hx hr0 hg).mono ?_
    rintro e w1 ⟨rfl, hb⟩
    have L1 := (L0.kept hb).kept (below_new (.cells #[.int .i64 0, .int .i64 0, .int .i64 0, .int .i64 0, .int .i64 0, .int .i64 0, .int .i64 0, .int .i64 0] 68))
    have HL := Lib.hid L1
    clear L0 hb hg hr0 L1
    go_upto_region 2 with fail
    generalize w1.alloc (.cells #[.int .i64 0, .int .i64 0, .int .i64 0, .int .i64 0, .int .i64 0, .int .i64 0, .int .i64 0, .int .i64 0] 68) = w5 at *
    obtain ⟨f0, f1, f2, f3, f4, f5, fr⟩ := HL.out.ownHas.six
    obtain ⟨e0, e1, e2, e3, e4, e5, e6, e7, er⟩ := HL.out.tl.ownHas.eight
    have HB := Lib.hid HL.out.below
    clear HL
    go_wp2_with fail
    refine bodyPost_ret (v := .tuple #[gv 0 0 (fun _ => 0), pv6 (fun _ => 0), .bool false]) (by simp [results, Try.results91, go_sem, e0, e1, e2, e3, e4, e5, e6, e7, f0, f1, f2, f3, f4, f5]) rfl ⟨0, 0, fun _ => 0, fun _ => 0, by rw [HD.out], (fun h => by rw [HD.out] at h; cases h), ?_⟩
    exact below_six (below_eight2 HB.out (by omega) _ _ _ _ _ _ _ _) (by omega) _ _ _ _ _ _
  · obtain ⟨g1, g2, g3, _⟩ := good_facts hg
    have hgc := good_cell hg
    obtain ⟨n, rfl⟩ := Int.eq_ofNat_of_zero_le (show 0 ≤ r by omega)
    obtain ⟨m, rfl⟩ := Int.eq_ofNat_of_zero_le (show 0 ≤ c by omega)
    have HD : Hid (okPl n m xs P = placeP n m xs P) := Lib.hid (by simp [okPl, hg])
    obtain ⟨M, hM, hc⟩ := gridOf_good n m a cap xs _ hx hr0 hg
    have HC := Lib.hid hc
    have HN := Lib.hid (fun W (h : Reads W a2 P.length P) => placesOf_any n m xs P M hM a2 p2 W hp (by omega) (by omega) hgc h)
    have HM := Lib.hid hM
    clear hg hr0 hgc hc hM
    go_enter Try.func91, Try.ntmps91
    go_wp2_with fail
    refine HC.out.mono ?_
    rintro e w1 ⟨rfl, hb⟩
    have L1 := (L0.kept hb).has (gl n m M) 68
    rw [show w1.alloc (.cells (gl n m M).toArray 68) = w1.alloc (.cells #[.int .i64 n, .int .i64 m, .int .i64 (M 0), .int .i64 (M 1), .int .i64 (M 2), .int .i64 (M 3), .int .i64 (M 4), .int .i64 (M 5)] 68) from rfl] at L1
    have HL := Lib.hid L1
    have hz1 := hb.size
    simp only [World.size_alloc] at hz1
    have hz5 : w1.heap.size + 1 = (w1.alloc (.cells #[.int .i64 n, .int .i64 m, .int .i64 (M 0), .int .i64 (M 1), .int .i64 (M 2), .int .i64 (M 3), .int .i64 (M 4), .int .i64 (M 5)] 68)).heap.size := by simp
    clear L0 hb HC L1
    go_upto_region 2 with fail
    generalize w1.alloc (.cells #[.int .i64 n, .int .i64 m, .int .i64 (M 0), .int .i64 (M 1), .int .i64 (M 2), .int .i64 (M 3), .int .i64 (M 4), .int .i64 (M 5)] 68) = w5 at *
    obtain ⟨bg, hbg⟩ : ∃ bg, bg = w1.heap.size := ⟨_, rfl⟩
    rw [← hbg] at HL hz1 hz5 ⊢
    have hz6 : bg < w5.heap.size := by omega
    clear hbg hz5
    obtain ⟨g0, g1', g2', g3', g4, g5, g6, g7, _⟩ := HL.out.ownHas.eight
    go_wp2_with fail
    refine (HN.out _ (HL.out.reads hr2)).mono ?_
    rintro e w2 ⟨F, rfl, hF, hb⟩
    have HF := Lib.hid hF
    have L2 := (HL.out.kept hb).has (pl6 F) 71
    rw [show w2.alloc (.cells (pl6 F).toArray 71) = w2.alloc (.cells #[.int .i64 (F 0), .int .i64 (F 1), .int .i64 (F 2), .int .i64 (F 3), .int .i64 (F 4), .int .i64 (F 5)] 71) from rfl] at L2
    have HL2 := Lib.hid L2
    have hz7 := hb.size
    clear HL hb HN L2 hF g0 g1' g2' g3' g4 g5 g6 g7
    go_upto_region 5 with fail
    generalize w2.alloc (.cells #[.int .i64 (F 0), .int .i64 (F 1), .int .i64 (F 2), .int .i64 (F 3), .int .i64 (F 4), .int .i64 (F 5)] 71) = w6 at *
    obtain ⟨bp, hbp⟩ : ∃ bp, bp = w2.heap.size := ⟨_, rfl⟩
    rw [← hbp] at HL2 hz7 ⊢
    have hz8 : bg < bp := by omega
    clear hbp hz6 hz7
    obtain ⟨p0, p1, p2', p3, p4, p5, _⟩ := HL2.out.ownHas.six
    obtain ⟨g0, g1', g2', g3', g4, g5, g6, g7, _⟩ := HL2.out.tl.ownHas.eight
    obtain ⟨f0, f1, f2, f3, f4, f5, fr⟩ := HL2.out.tl.tl.ownHas.six
    obtain ⟨e0, e1, e2, e3, e4, e5, e6, e7, er⟩ := HL2.out.tl.tl.tl.ownHas.eight
    have HB := Lib.hid HL2.out.below
    clear HL2
    go_region
    all_goals
      go_wp2_with fail
      refine bodyPost_ret (v := .tuple #[gv n m M, pv6 F, .bool (placeP n m xs P)]) (by simp [results, Try.results91, go_sem, e0, e1, e2, e3, e4, e5, e6, e7, f0, f1, f2, f3, f4, f5]) rfl ⟨n, m, M, F, by rw [HD.out], (fun h => ⟨rfl, rfl, HM.out, HF.out (by rw [← HD.out]; exact h)⟩), ?_⟩
      exact (below_six (below_eight2 HB.out (by omega) _ _ _ _ _ _ _ _) (by omega) _ _ _ _ _ _).drew
end Go.Proofs.Ytdimbnkgomfojab
