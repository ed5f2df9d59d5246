import Derived.Test.YtdimbnkgomfojaaFold24
import Derived.Test.YtdimbnkgomfojaaFold16
import Derived.Test.YtdimbnkgomfojaaFold20
import Derived.BigRegion

section
namespace Go.Proofs.Ytdimbnkgomfojaa
open Go.RowKit Go.WideShapes

theorem pl6_take (F : Nat → Int) (n : Nat) (hn : n ≤ 6) : [F 0, F 1, F 2, F 3, F 4, F 5].take n = lstI n F := by
  have : n = 0 ∨ n = 1 ∨ n = 2 ∨ n = 3 ∨ n = 4 ∨ n = 5 ∨ n = 6 := by omega
  rcases this with rfl | rfl | rfl | rfl | rfl | rfl | rfl <;> rfl

/-- The row of the last rook in the column c, of the first k. -/
def trF (p : Nat → Int) : Nat → Nat → Int
  | 0, _ => -1
  | k + 1, c => if p k = (c : Int) then (k : Int) else trF p k c
theorem trF_skip (p : Nat → Int) (k : Nat) (h : p k = -1) (c : Nat) : trF p (k + 1) c = trF p k c := by
  rw [trF, if_neg (by omega)]
theorem trF_set (p : Nat → Int) (k d : Nat) (h : p k = (d : Int)) : trF p (k + 1) d = k ∧ ∀ c, c ≠ d → trF p (k + 1) c = trF p k c := by
  refine ⟨by rw [trF, if_pos h], fun c hc => ?_⟩
  rw [trF, if_neg (by omega)]
theorem trF_more (P : List Int) (n k c : Nat) (h : n ≤ k) : trF (plF P n) k c = trF (fun j => P.getD j 0) n c := by
  induction k with
  | zero =>
    rw [show n = 0 by omega]
    rfl
  | succ k ih =>
    by_cases e : n = k + 1
    · subst e
      have : ∀ i, i ≤ k + 1 → trF (plF P (k + 1)) i c = trF (fun j => P.getD j 0) i c := by
        intro i
        induction i with
        | zero => intro _; rfl
        | succ i ih2 =>
          intro hi
          rw [trF, trF, ih2 (by omega)]
          have : plF P (k + 1) i = P.getD i 0 := by unfold plF; rw [if_pos (by omega)]
          rw [this]
      exact this _ (Nat.le_refl _)
    · rw [trF, if_neg, ih (by omega)]
      unfold plF
      rw [if_neg (by omega)]
      omega

set_option maxRecDepth 100000 in
set_option maxHeartbeats 1600000 in
theorem list_any (F : Nat → Int) (n : Nat) (w : World) (hn : n ≤ 6) :
    Calls Try.prog 62 #[pv6 F, .int .i64 n] w fun e w' => ∃ g, e = .returned (.slice (some ⟨g, 0, none⟩) n n) ∧ Own w' w.heap.size (.slice (some ⟨g, 0, none⟩) n n) (lstI n F) ∧ Below w.heap.size w w' := by
  have hmk := run_make_row' (P := Try.prog) 22 3 (.int .i64 0) 8 Try.underlying22 Try.infoI rfl .i64 .i64 n (by omega) (by omega)
  have L0 := ((Law.start w).has (pl6 F) 70).own (below_new (.cells (madeCells #[.int .i64 0] n) 3)) (own_made _ n _ _ rfl (Nat.le_refl _) (by omega))
  have H1 : Has ((w.alloc (.cells (pl6 F).toArray 70)).alloc (.cells (madeCells #[.int .i64 0] n) 3)) (w.heap.size + 1) (List.replicate n (.int .i64 0)) 3 := by
    have := Has.new (w.alloc (.cells (pl6 F).toArray 70)) (List.replicate n (.int .i64 0)) 3
    rw [← made_eq] at this
    simpa using this
  have H2 := L0.tl.ownHas
  have hB := L0.below
  have hp6 : (pl6 F).toArray = #[.int .i64 (F 0), .int .i64 (F 1), .int .i64 (F 2), .int .i64 (F 3), .int .i64 (F 4), .int .i64 (F 5)] := rfl
  have hsrc : ∀ j v, (([F 0, F 1, F 2, F 3, F 4, F 5].take n).map (Value.int .i64))[j]? = some v → ((w.alloc (.cells (pl6 F).toArray 70)).alloc (.cells (madeCells #[.int .i64 0] n) 3)).cell? ((⟨w.heap.size, 0, none⟩ : Addr).add j) = some v := by
    intro j v hj
    rw [add_plain, H2.cell]
    rw [List.map_take, List.getElem?_take] at hj
    split at hj
    · rw [show 0 + j = j by omega]; exact hj
    · cases hj
  have hlen : (([F 0, F 1, F 2, F 3, F 4, F 5].take n).map (Value.int .i64)).length = n := by simp; omega
  have HM := Lib.hid (show (([F 0, F 1, F 2, F 3, F 4, F 5].take n).map (Value.int .i64)).length = Nat.min 6 n by rw [hlen]; exact (Nat.min_eq_right hn).symm)
  have HF := Lib.hid (show 0 + (([F 0, F 1, F 2, F 3, F 4, F 5].take n).map (Value.int .i64)).length ≤ (List.replicate n (Value.int .i64 0)).length by rw [hlen, List.length_replicate]; omega)
  have H1' := H1.row
  rw [hp6] at hB hsrc H1'
  have HB := Lib.hid hB
  have G1 := Lib.hid H1'; have G5 := Lib.hid hsrc; have HL := Lib.hid hlen
  clear L0 H1 H2 hsrc hlen hB H1' hp6
  go_enter Try.func62, Try.ntmps62
  go_wp2_with (with_reducible refine wpList_copy_splice rfl (.tmp 8) (.tmp 9) 22 22 rfl 3 Try.underlying22 (by kernel_rfl) _ _ n n 6 6 rfl rfl (w.heap.size + 1) 0 _ 3 G1.out _ HM.out (fun _ => ⟨rfl, _, rfl, G5.out⟩) HF.out (ints_oneCell _ _) (w.heap.size + 1) _ (Below.refl _ _) (Nat.le_refl _) ?_)
  intro w4 hg4 hb4
  have H4 : Has w4 (w.heap.size + 1) (([F 0, F 1, F 2, F 3, F 4, F 5].take n).map (Value.int .i64)) 3 := by
    have h : Has w4 (w.heap.size + 1) _ 3 := hg4.out
    rw [splice_all n _ (by simp <;> omega)] at h
    simpa using h
  rw [pl6_take F n hn] at H4
  have HH := Lib.hid H4
  have HB4 := Lib.hid (HB.out.trans (hb4.mono (by omega)))
  clear hg4 hb4 H4 hmk
  go_wp2_with fail
  go_ret
  exact ⟨_, rfl, (own_of_has (lo := w.heap.size) HH.out (by omega) (lstI_len _ _) (by unfold maxLen; omega)), HB4.out⟩
end Go.Proofs.Ytdimbnkgomfojaa
end

section
namespace Go.Proofs.Ytdimbnkgomfojaa
open Go.RowKit Go.WideShapes

def okPl (r c : Int) (xs P : List Int) : Bool := goodB r c xs && placeP r.toNat c.toNat xs P
/-- What a call answers that asks for a board's grid and a list's places. -/
def AnsG (r c : Int) (xs P : List Int) (w : World) (e : Ending) (w' : World) : Prop :=
  ∃ (r' c' : Int) (M F : Nat → Int), e = .returned (.tuple #[gv r' c' M, pv6 F, .bool (okPl r c xs P)]) ∧ (okPl r c xs P = true → r' = r ∧ c' = c ∧ (∀ k, M k = xs.getD k 0) ∧ F = plF P r.toNat) ∧ Below w.heap.size w w'
theorem below_six {w w1 : World} {B b : Nat} (h : Below B w w1) (hb : B ≤ b) (u0 u1 u2 u3 u4 u5 : Value) :
    Below B w ((((((w1.setCell ⟨b, 0, none⟩ u0).setCell ⟨b, 1, none⟩ u1).setCell ⟨b, 2, none⟩ u2).setCell ⟨b, 3, none⟩ u3).setCell ⟨b, 4, none⟩ u4).setCell ⟨b, 5, none⟩ u5) :=
  (((((h.setCell hb _).setCell hb _).setCell hb _).setCell hb _).setCell hb _).setCell hb _
theorem below_eight2 {w w1 : World} {B b : Nat} (h : Below B w w1) (hb : B ≤ b) (u0 u1 u2 u3 u4 u5 u6 u7 : Value) :
    Below B w ((((((((w1.setCell ⟨b, 0, none⟩ u0).setCell ⟨b, 1, none⟩ u1).setCell ⟨b, 2, none⟩ u2).setCell ⟨b, 3, none⟩ u3).setCell ⟨b, 4, none⟩ u4).setCell ⟨b, 5, none⟩ u5).setCell ⟨b, 6, none⟩ u6).setCell ⟨b, 7, none⟩ u7) :=
  (((((((h.setCell hb _).setCell hb _).setCell hb _).setCell hb _).setCell hb _).setCell hb _).setCell hb _).setCell hb _

set_option maxRecDepth 100000 in
set_option maxHeartbeats 6400000 in
theorem placementOn_any (r c : Int) (xs P : List Int) (w : World) (hx : xs.length ≤ 1048576) (hp : P.length ≤ 1048576) (a : Option Addr) (cap : Nat) (hr : Reads w a xs.length xs) (a2 : Option Addr) (p2 : Nat) (hr2 : Reads w a2 P.length P) :
    Calls Try.prog 68 #[.agg #[.int .i64 r, .int .i64 c, .slice a xs.length cap], .slice a2 P.length p2] w fun e w' => AnsG r c xs P w e w' := by
  have L0 := (((Law.start w).box (.int .i64 r) (.int .i64 c) (.slice a xs.length cap) 29).has (gl 0 0 fun _ => 0) 59).has (pl6 fun _ => 0) 70
  simp only [World.size_alloc] at L0
  have hr0 := L0.reads hr
  cases hg : goodB r c xs
  · have HD : Hid (okPl r c xs P = false) := Lib.hid (by simp [okPl, hg])
    go_enter Try.func68, Try.ntmps68
    go_wp2_with fail
    refine (gridOf_no r c a cap xs _ hx hr0 hg).mono ?_
    rintro e w1 ⟨rfl, hb⟩
    have L1 := (L0.kept hb).kept (below_new (.cells #[.int .i64 0, .int .i64 0, .int .i64 0, .int .i64 0, .int .i64 0, .int .i64 0, .int .i64 0, .int .i64 0] 59))
    have HL := Lib.hid L1
    clear L0 hb hg hr0 L1
    go_upto_region 2 with fail
    generalize w1.alloc (.cells #[.int .i64 0, .int .i64 0, .int .i64 0, .int .i64 0, .int .i64 0, .int .i64 0, .int .i64 0, .int .i64 0] 59) = w5 at *
    obtain ⟨f0, f1, f2, f3, f4, f5, fr⟩ := HL.out.ownHas.six
    obtain ⟨e0, e1, e2, e3, e4, e5, e6, e7, er⟩ := HL.out.tl.ownHas.eight
    have HB := Lib.hid HL.out.below
    clear HL
    go_wp2_with fail
    refine bodyPost_ret (v := .tuple #[gv 0 0 (fun _ => 0), pv6 (fun _ => 0), .bool false]) (by simp [results, Try.results68, go_sem, e0, e1, e2, e3, e4, e5, e6, e7, f0, f1, f2, f3, f4, f5]) rfl ⟨0, 0, fun _ => 0, fun _ => 0, by rw [HD.out], (fun h => by rw [HD.out] at h; cases h), ?_⟩
    exact below_six (below_eight2 HB.out (by omega) _ _ _ _ _ _ _ _) (by omega) _ _ _ _ _ _
  · obtain ⟨g1, g2, g3, _⟩ := good_facts hg
    have hgc := good_cell hg
    obtain ⟨n, rfl⟩ := Int.eq_ofNat_of_zero_le (show 0 ≤ r by omega)
    obtain ⟨m, rfl⟩ := Int.eq_ofNat_of_zero_le (show 0 ≤ c by omega)
    have HD : Hid (okPl n m xs P = placeP n m xs P) := Lib.hid (by simp [okPl, hg])
    obtain ⟨M, hM, hc⟩ := gridOf_good n m a cap xs _ hx hr0 hg
    have HC := Lib.hid hc
    have HN := Lib.hid (fun W (h : Reads W a2 P.length P) => placesOf_any n m xs P M hM a2 p2 W hp (by omega) (by omega) hgc h)
    have HM := Lib.hid hM
    clear hg hr0 hgc hc hM
    go_enter Try.func68, Try.ntmps68
    go_wp2_with fail
    refine HC.out.mono ?_
    rintro e w1 ⟨rfl, hb⟩
    have L1 := (L0.kept hb).has (gl n m M) 59
    rw [show w1.alloc (.cells (gl n m M).toArray 59) = w1.alloc (.cells #[.int .i64 n, .int .i64 m, .int .i64 (M 0), .int .i64 (M 1), .int .i64 (M 2), .int .i64 (M 3), .int .i64 (M 4), .int .i64 (M 5)] 59) from rfl] at L1
    have HL := Lib.hid L1
    have hz1 := hb.size
    simp only [World.size_alloc] at hz1
    have hz5 : w1.heap.size + 1 = (w1.alloc (.cells #[.int .i64 n, .int .i64 m, .int .i64 (M 0), .int .i64 (M 1), .int .i64 (M 2), .int .i64 (M 3), .int .i64 (M 4), .int .i64 (M 5)] 59)).heap.size := by simp
    clear L0 hb HC L1
    go_upto_region 2 with fail
    generalize w1.alloc (.cells #[.int .i64 n, .int .i64 m, .int .i64 (M 0), .int .i64 (M 1), .int .i64 (M 2), .int .i64 (M 3), .int .i64 (M 4), .int .i64 (M 5)] 59) = w5 at *
    obtain ⟨bg, hbg⟩ : ∃ bg, bg = w1.heap.size := ⟨_, rfl⟩
    rw [← hbg] at HL hz1 hz5 ⊢
    have hz6 : bg < w5.heap.size := by omega
    clear hbg hz5
    obtain ⟨g0, g1', g2', g3', g4, g5, g6, g7, _⟩ := HL.out.ownHas.eight
    go_wp2_with fail
    refine (HN.out _ (HL.out.reads hr2)).mono ?_
    rintro e w2 ⟨F, rfl, hF, hb⟩
    have HF := Lib.hid hF
    have L2 := (HL.out.kept hb).has (pl6 F) 70
    rw [show w2.alloc (.cells (pl6 F).toArray 70) = w2.alloc (.cells #[.int .i64 (F 0), .int .i64 (F 1), .int .i64 (F 2), .int .i64 (F 3), .int .i64 (F 4), .int .i64 (F 5)] 70) from rfl] at L2
    have HL2 := Lib.hid L2
    have hz7 := hb.size
    clear HL hb HN L2 hF g0 g1' g2' g3' g4 g5 g6 g7
    go_upto_region 5 with fail
    generalize w2.alloc (.cells #[.int .i64 (F 0), .int .i64 (F 1), .int .i64 (F 2), .int .i64 (F 3), .int .i64 (F 4), .int .i64 (F 5)] 70) = w6 at *
    obtain ⟨bp, hbp⟩ : ∃ bp, bp = w2.heap.size := ⟨_, rfl⟩
    rw [← hbp] at HL2 hz7 ⊢
    have hz8 : bg < bp := by omega
    clear hbp hz6 hz7
    obtain ⟨p0, p1, p2', p3, p4, p5, _⟩ := HL2.out.ownHas.six
    obtain ⟨g0, g1', g2', g3', g4, g5, g6, g7, _⟩ := HL2.out.tl.ownHas.eight
    obtain ⟨f0, f1, f2, f3, f4, f5, fr⟩ := HL2.out.tl.tl.ownHas.six
    obtain ⟨e0, e1, e2, e3, e4, e5, e6, e7, er⟩ := HL2.out.tl.tl.tl.ownHas.eight
    have HB := Lib.hid HL2.out.below
    clear HL2
    go_region
    all_goals
      go_wp2_with fail
      refine bodyPost_ret (v := .tuple #[gv n m M, pv6 F, .bool (placeP n m xs P)]) (by simp [results, Try.results68, go_sem, e0, e1, e2, e3, e4, e5, e6, e7, f0, f1, f2, f3, f4, f5]) rfl ⟨n, m, M, F, by rw [HD.out], (fun h => ⟨rfl, rfl, HM.out, HF.out (by rw [← HD.out]; exact h)⟩), ?_⟩
      exact (below_six (below_eight2 HB.out (by omega) _ _ _ _ _ _ _ _) (by omega) _ _ _ _ _ _).drew
end Go.Proofs.Ytdimbnkgomfojaa
end

section
namespace Go.Proofs.Ytdimbnkgomfojaa
open Go.RowKit Go.WideShapes

theorem ixP (F : Nat → Int) (k : Nat) (hk : k < 6) (W : World) : (Instr.index 70 (pv6 F) (.int .i64 k)).run Try.prog W = .ok (.int .i64 (F k)) W := by
  have hc : (pl6 F)[k]? = some (.int .i64 (F k)) := pl6_get F k hk
  unfold pl6 at hc
  simp [Instr.index, run_underlying Try.underlying70, asIntOf, go_sem, hk]
  exact (List.getElem?_eq_some_iff.1 hc).2

set_option maxRecDepth 100000 in
set_option maxHeartbeats 3200000 in
theorem turned_any (F : Nat → Int) (w : World) (hF : ∀ k, k < 6 → F k = -1 ∨ (0 ≤ F k ∧ F k < 6)) :
    Calls Try.prog 77 #[pv6 F] w fun e w' => e = .returned (pv6 (trF F 6)) ∧ Below w.heap.size w w' := by
  have L0 := ((Law.start w).has (pl6 F) 70).has (pl6 (fun _ => 0)) 70
  simp only [World.size_alloc] at L0
  have HL := Lib.hid L0
  have HPF2 := Lib.hid hF
  clear L0 hF
  go_enter Try.func77, Try.ntmps77
  go_wp2_with fail
  refine (noPlaces_any _).mono ?_
  rintro e w1 ⟨rfl, hb⟩
  have L1 := (HL.out.kept hb).has (pl6 (fun _ => -1)) 70
  rw [show w1.alloc (.cells (pl6 (fun _ => -1)).toArray 70) = w1.alloc (.cells #[.int .i64 (-1), .int .i64 (-1), .int .i64 (-1), .int .i64 (-1), .int .i64 (-1), .int .i64 (-1)] 70) from rfl] at L1
  have HL2 := Lib.hid L1
  clear L1 HL hb
  go_upto_region 2 with fail
  generalize w1.alloc (.cells #[.int .i64 (-1), .int .i64 (-1), .int .i64 (-1), .int .i64 (-1), .int .i64 (-1), .int .i64 (-1)] 70) = w5 at *
  obtain ⟨bt', hbt⟩ : ∃ bt', bt' = w1.heap.size := ⟨_, rfl⟩
  rw [← hbt] at HL2 ⊢
  clear hbt
  rw [show pl6 (fun _ => (-1 : Int)) = pl6 (trF F 0) from rfl] at HL2
  have hrow := HL2.out.tl.tl.ownHas.row6
  go_wp2_with (refine wpList_load_row rfl 70 _ rfl _ rfl _ _ _ _ hrow Try.underlying70 rfl (by kernel_rfl) ?_)
  clear hrow
  go_loopw [8] (fun i wr => ∃ k : Nat, k ≤ 6 ∧ i = .int .i64 k ∧ Law w [tHas bt' (pl6 (trF F k)) 70, tHas (w.heap.size + 1) (pl6 (fun _ => 0)) 70, tHas w.heap.size (pl6 F) 70] wr) (fun i _ => 6 - (intOf i).toNat)
  case atStart => exact ⟨0, by omega, rfl, HL2.out⟩
  case round =>
    clear HL2
    obtain ⟨k, hk, rfl, L⟩ := hrel
    by_cases hlt : k < 6
    · have ix := ixP F k hlt
      have hjf := HPF2.out k hlt
      have hsk := trF_skip F k
      have hst := trF_set F k
      generalize F k = x at hjf hsk hst ix
      have hk0 : (0 : Int) ≤ k := by omega
      have hk1 : (k : Int) < 6 := by omega
      by_cases hx1 : x = -1
      · have HL := Lib.hid (show Law w [tHas bt' (pl6 (trF F (k + 1))) 70, tHas (w.heap.size + 1) (pl6 (fun _ => 0)) 70, tHas w.heap.size (pl6 F) 70] wr by
          rw [pl6_congr (trF F (k + 1)) (trF F k) (fun c _ => hsk hx1 c)]
          exact L)
        have hx2 : (x != -1) = false := by simp [hx1]
        clear L hx1 hsk hst hjf
        go_wp2_with fail
        go_roundw
        case rel => exact ⟨k + 1, by omega, by go_num, HL.out⟩
        case measure => simp [intOf]; omega
      · obtain ⟨d, rfl⟩ := Int.eq_ofNat_of_zero_le (show 0 ≤ x by omega)
        have hx2 : ((d : Int) != -1) = true := by simp <;> omega
        obtain ⟨hs1, hs2⟩ := hst d rfl
        have hd6 : d < 6 := by omega
        have hce := L.ownHas.cell d
        rw [pl6_get _ d hd6] at hce
        have hfe := L.ownHas.free d
        have hS := Law.setHas (ts := []) L d (.int .i64 (k : Int))
        rw [pl6_set _ (trF F (k + 1)) d hd6 _ hs1 (fun c _ hc => hs2 c hc)] at hS
        have HS := Lib.hid hS
        have hd0 : (0 : Int) ≤ d := by omega
        have hd1 : (d : Int) < 6 := by omega
        clear L hS hsk hst hs1 hs2 hx1 hjf
        go_wp2_with fail
        go_roundw
        case rel => exact ⟨k + 1, by omega, by go_num, HS.out⟩
        case measure => simp [intOf]; omega
    · obtain rfl : k = 6 := by omega
      have hrow := L.ownHas.row6
      obtain ⟨f0, f1, f2, f3, f4, f5, ff⟩ := L.tl.ownHas.six
      have HB := Lib.hid L.below
      clear L
      go_wp2_with (refine wpList_load_row rfl 70 _ rfl _ rfl _ _ _ _ hrow Try.underlying70 rfl (by kernel_rfl) ?_)
      refine bodyPost_ret (v := pv6 (trF F 6)) (by simp [results, Try.results77, go_sem, f0, f1, f2, f3, f4, f5]) rfl ⟨rfl, ?_⟩
      have h2 := HB.out
      repeat (refine Below.setCell ?_ (by simp <;> omega) _)
      exact h2
end Go.Proofs.Ytdimbnkgomfojaa
end
