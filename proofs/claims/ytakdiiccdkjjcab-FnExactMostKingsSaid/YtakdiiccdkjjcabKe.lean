/- The weights of all numbers of rooks, in the program. No condition but the sizes. -/
import Derived.Test.YtakdiiccdkjjcabKd
import Derived.Test.YtakdiiccdkjjcabFc
import Derived.Test.YtakdiiccdkjjcabMf
import Derived.Deep.RegionWith
import Derived.Deep.RegionHeld3
namespace Go.Proofs.Ytakdiiccdkjjcab
open Go.RowKit Go.WideShapes

/-- A list of lists by its rows. -/
def lstR (L : Nat) (g : Nat → List Int) : List (List Int) := (List.range L).map g
theorem lstR_len (L : Nat) (g : Nat → List Int) : (lstR L g).length = L := by simp [lstR]
theorem lstR_get (L : Nat) (g : Nat → List Int) (k : Nat) (h : k < (lstR L g).length) : (lstR L g)[k] = g k := by simp [lstR]
theorem lstR_congr (L : Nat) (g g' : Nat → List Int) (h : ∀ k, k < L → g k = g' k) : lstR L g = lstR L g' := by
  unfold lstR
  exact List.map_congr_left (fun k hk => h k (List.mem_range.1 hk))
theorem lstR_nil (L : Nat) : List.replicate L ([] : List Int) = lstR L (fun _ => []) := by
  refine List.ext_getElem ?_ fun k h1 h2 => ?_
  · simp [lstR]
  · simp [lstR]
theorem lstR_set (L : Nat) (g g' : Nat → List Int) (i : Nat) (x : List Int) (hx : g' i = x) (ho : ∀ k, k < L → k ≠ i → g' k = g k) : (lstR L g).set i x = lstR L g' := by
  refine List.ext_getElem ?_ fun k h1 h2 => ?_
  · simp [lstR]
  · have hk : k < L := by simpa [lstR] using h2
    rw [List.getElem_set]
    by_cases e : i = k
    · subst e
      simp [lstR, hx]
    · rw [if_neg e]
      simp [lstR, ho k hk (fun h => e h.symm)]

/-- Behind the row i and the numbers of rooks that are greater than k. -/
def midQ (xs : List Int) (i k j : Nat) : List Int := if k < j then wts xs (i + 1) j else wts xs i j
theorem rowW_behP (m : Int) (W : Nat → List Int) (k : Nat) : rowW m W k = behP (W k) (preW W k) (m - k) := by
  unfold rowW behP
  by_cases h : m < k
  · rw [if_pos h, if_pos (by omega)]
  · rw [if_neg h, if_neg (by omega)]
theorem midQ_start (xs : List Int) (i j : Nat) : midQ xs i (i + 1) j = wts xs i j := by
  unfold midQ
  split
  · rw [wts_zero xs (i + 1) j (.inl (by omega)), wts_zero xs i j (.inl (by omega))]
  · rfl
theorem midQ_at (xs : List Int) (i k j : Nat) (h : j ≤ k) : midQ xs i k j = wts xs i j := if_neg (by omega)
theorem midQ_next (xs : List Int) (i k j : Nat) (h : j ≠ k + 1) : midQ xs i k j = midQ xs i (k + 1) j := by
  unfold midQ
  by_cases h1 : k < j
  · rw [if_pos h1, if_pos (by omega)]
  · rw [if_neg h1, if_neg (by omega)]
theorem midQ_done (xs : List Int) (i k : Nat) : midQ xs i k (k + 1) = wts xs (i + 1) (k + 1) := if_pos (by omega)
theorem midQ_end (xs : List Int) (i j : Nat) (h : j ≠ 0) : midQ xs i 0 j = wts xs (i + 1) j := if_pos (by omega)
/-- No weights are there where a row is too short for them. -/
theorem wts_short (xs : List Int) (hs : ∀ i j, i ≤ j → j < xs.length → xs.getD i 0 ≤ xs.getD j 0) (i k : Nat) (hi : i < xs.length) (h : xs.getD i 0 - k < 0) (h0 : 0 ≤ xs.getD i 0) : wts xs i k = [] := by
  refine wts_zero xs i k ?_
  by_cases e : i = 0
  · exact .inl (by omega)
  · have := hs (i - 1) i (by omega) hi
    exact .inr ⟨by omega, by omega⟩

set_option maxRecDepth 100000 in
set_option maxHeartbeats 12800000 in
theorem allWeights_any (n : Nat) (xs : List Int) (M : Nat → Int) (w : World) (hn : n = xs.length) (hM : M = fun k => xs.getD k 0) (hg : lenB xs = true) :
    Calls Try.prog 89 #[sv n M] w fun e w' => ∃ g vs, e = .returned (.slice (some ⟨g, 0, none⟩) (n + 1) (n + 1)) ∧ OwnM w' w.heap.size (.slice (some ⟨g, 0, none⟩) (n + 1) (n + 1)) vs (lstR (n + 1) (wts xs n)) ∧ Below w.heap.size w w' := by
  obtain ⟨l1, l2, l3, l4, l5⟩ := len_facts hg
  have hsrt := fun i j hij hj => sortB_up l5 i j hij hj
  have L0 := (Law.start w).has (sl n M) 90
  rw [show w.alloc (.cells (sl n M).toArray 90) = w.alloc (.cells #[.int .i64 n, .int .i64 (M 0), .int .i64 (M 1), .int .i64 (M 2), .int .i64 (M 3), .int .i64 (M 4), .int .i64 (M 5)] 90) from rfl] at L0
  obtain ⟨i0, hi, hz0, hz1, hz2⟩ := info_parts Try.infoL
  have hn6 : n ≤ 6 := by omega
  have HN := Lib.hid hn
  have HM := Lib.hid hM
  have HY := Lib.hid l3
  have HSRT := Lib.hid hsrt
  have HL := Lib.hid L0
  clear hn hM hg l1 l2 l3 l4 l5 hsrt L0
  go_enter Try.func89, Try.ntmps89
  go_upto_region 1 with fail
  generalize w.alloc _ = w1 at *
  obtain ⟨e0, e1, e2, e3, e4, e5, e6, _⟩ := HL.out.ownHas.seven
  have hw1 : wrap64 ((n : Int) + 1) = ((n + 1 : Nat) : Int) := by rw [show ((n + 1 : Nat) : Int) = (n : Int) + 1 by omega]; exact IntWalk.wrap64_in _ (by omega)
  go_wp2_with (at_make; refine wpList_make_full _ rfl _ _ 37 rfl w1.heap.size 22 i0 (.slice none 0 0) 1 Try.underlying37 hi hz0 hz1 .i64 .i64 _ _ (n + 1) rfl rfl rfl rfl ?b1 ?b2 ?b3 ?_)
  case b1 => rw [hz2]; omega
  case b2 => unfold maxLen; omega
  case b3 => exact Nat.le_refl _
  intro w2 hown hg2
  have L1 := HL.out.addM ((Below.refl _ _).grown hg2 (Nat.le_refl _) (by simp)) (own_madeM hown)
  rw [lstR_nil] at L1
  obtain ⟨g, hgg⟩ : ∃ g, g = w1.heap.size := ⟨_, rfl⟩
  rw [← hgg] at L1 ⊢
  -- the first row
  have hone : Own (w2.alloc (.cells #[.int .i64 1] 3)) w2.heap.size (.slice (some ⟨w2.heap.size, 0, none⟩) 1 1) [1] :=
    ⟨by simp, .inr ⟨w2.heap.size, 1, #[.int .i64 1], rfl, Nat.le_refl _, heap_alloc_new w2 _, Nat.le_refl _, by unfold maxLen; omega, by simp, by simp⟩⟩
  have L2 := (L1.own (below_new _) hone)
  have hM2 := L2.tl.ownM
  have hvl : (List.replicate (n + 1) (Value.slice none 0 0)).length = n + 1 := by simp
  have hc0 := World.ownsRow.cellAt (by have := hM2.outer; rw [hvl] at this; exact this) 0 (by omega)
  have hfz := World.ownsRow.frozenAt (by have := hM2.outer; rw [hvl] at this; exact this) 0
  simp only [List.getElem?_replicate, Nat.succ_pos, if_true] at hc0 hfz
  have L3 := L2.putM hvl 0 (by omega)
  rw [lstR_set (n + 1) (fun _ => []) (wts xs 0) 0 [1] (by simp [wts]) (fun k _ hk => by simp [wts, hk])] at L3
  have HL3 := Lib.hid (And.intro L3 (show ((List.replicate (n + 1) (Value.slice none 0 0)).set 0 (.slice (some ⟨w2.heap.size, 0, none⟩) 1 1)).length = n + 1 by simp))
  clear L1 L2 L3 hM2 hone hown hg2 HL
  generalize (List.replicate (n + 1) (Value.slice none 0 0)).set 0 (.slice (some ⟨w2.heap.size, 0, none⟩) 1 1) = vs0 at *
  have HG := Lib.hid hgg
  clear hgg hvl hi hz0 hz1 hz2 e1 e2 e3 e4 e5 e6 e0 hw1
  have hn1 : (0 : Int) < ((n + 1 : Nat) : Int) := by omega
  go_upto_region 3 with fail
  generalize ((w2.alloc (.cells #[.int .i64 1] 3)).setCell ⟨g, 0, none⟩ (.slice (some ⟨w2.heap.size, 0, none⟩) 1 1)) = w5 at *
  clear hc0 hfz
  obtain ⟨e0, _⟩ := HL3.out.1.tl.ownHas.seven
  go_wp2_with fail
  clear e0
  go_loopw [15] (fun i wr => ∃ (i' : Nat) (vs : List Value), i' ≤ n ∧ i = .int .i64 i' ∧ Hid (Law w [tM (.slice (some ⟨g, 0, none⟩) (n + 1) (n + 1)) vs (lstR (n + 1) (wts xs i')), tHas w.heap.size (sl n M) 90] wr ∧ vs.length = n + 1)) (fun i _ => n - (intOf i).toNat)
  case atStart => exact ⟨0, vs0, Nat.zero_le _, rfl, HL3⟩
  case round =>
    clear HL3
    obtain ⟨i, vs, hi, rfl, HL⟩ := hrel
    by_cases hlt : i < n
    · have HL' : Hid (Law w [tM (.slice (some ⟨g, 0, none⟩) (n + 1) (n + 1)) vs (lstR (n + 1) (midQ xs i (i + 1))), tHas w.heap.size (sl n M) 90] wr ∧ vs.length = n + 1) := Lib.hid (by
        rw [lstR_congr (n + 1) (midQ xs i (i + 1)) (wts xs i) (fun k _ => midQ_start xs i k)]
        exact HL.out)
      clear HL
      go_wp2_with fail
      go_loopw [5] (fun kk wr => ∃ (k : Nat) (vs : List Value), k ≤ i + 1 ∧ kk = .int .i64 k ∧ Hid (Law w [tM (.slice (some ⟨g, 0, none⟩) (n + 1) (n + 1)) vs (lstR (n + 1) (midQ xs i k)), tHas w.heap.size (sl n M) 90] wr ∧ vs.length = n + 1)) (fun kk _ => (intOf kk).toNat)
      case atStart => exact ⟨i + 1, vs, Nat.le_refl _, rfl, HL'⟩
      case round =>
        clear HL'
        obtain ⟨k, vs, hk, rfl, HL⟩ := hrel
        by_cases hp : 0 < k
        · obtain ⟨q, rfl⟩ : ∃ q, k = q + 1 := ⟨k - 1, by omega⟩
          rw [show ((q + 1 : Nat) : Int) = (q : Int) + 1 by omega]
          have L := HL.out.1
          have hvl := HL.out.2
          have hM := L.ownM
          have hlen := hM.len
          have hcc := fun j (hj : j < n + 1) => World.ownsRow.cellAt (by have := hM.outer; rw [hvl] at this; exact this) j (by omega)
          have c1 : wr.cell? ⟨g, q + 1, none⟩ = some (vs[q + 1]'(by omega)) := by rw [hcc (q + 1) (by omega)]; simp
          have c2 : wr.cell? ⟨g, q, none⟩ = some (vs[q]'(by omega)) := by rw [hcc q (by omega)]; simp
          have r1 := hM.row (q + 1) (by omega)
          have r2 := hM.row q (by omega)
          rw [lstR_get] at r1 r2
          rw [midQ_at xs i (q + 1) (q + 1) (by omega)] at r1
          rw [midQ_at xs i (q + 1) q (by omega)] at r2
          have hcx := L.tl.ownHas.cell (1 + i)
          rw [sl_get _ _ i (by omega), show M i = xs.getD i 0 by rw [HM.out]] at hcx
          have hy := HY.out i
          have hwi := fun a b => wts_in xs (fun k => (HY.out k).2) i a b (by omega)
          have hwl := fun a => wts_len xs (fun k => (HY.out k).2) i a
          have hwb := weightsBehind_any (wts xs i (q + 1)) (wts xs i q) _ _ (xs.getD i 0 - ((q : Int) + 1)) wr.drew (by omega) (by omega) (fun h => wts_short xs HSRT.out i (q + 1) (by have := HN.out; omega) (by omega) hy.1) (by have := hwl (q + 1); omega) (by have := hwl q; omega) (hwi (q + 1)) (hwi q) r1.src r2.src
          rw [show behP (wts xs i (q + 1)) (wts xs i q) (xs.getD i 0 - ((q : Int) + 1)) = wts xs (i + 1) (q + 1) by
            rw [wts_succ, rowW_behP, preW]
            rfl] at hwb
          obtain ⟨a1, p1, hv1, _⟩ := r1.reads
          obtain ⟨a2, p2, hv2, _⟩ := r2.reads
          rw [hv1] at c1 hwb
          rw [hv2] at c2 hwb
          have hcol := World.ownsRow.frozenAt (by have := hM.outer; rw [hvl] at this; exact this) (q + 1)
          have HWB := Lib.hid hwb
          have hsub : IntKind.i64.wrap (xs.getD i 0 - ((q : Int) + 1)) = xs.getD i 0 - ((q : Int) + 1) := IntWalk.i64_in _ (by omega)
          have HR := Lib.hid (fun (w2 : World) (v : Value) (L2 : Law w [tOwn v (wts xs (i + 1) (q + 1)), tM (.slice (some ⟨g, 0, none⟩) (n + 1) (n + 1)) vs (lstR (n + 1) (midQ xs i (q + 1))), tHas w.heap.size (sl n M) 90] w2) => by
            have L3 := L2.putM hvl (q + 1) (by omega)
            rw [lstR_set (n + 1) (midQ xs i (q + 1)) (midQ xs i q) (q + 1) (wts xs (i + 1) (q + 1)) (midQ_done xs i q) (fun k _ hk => midQ_next xs i q k hk)] at L3
            exact L3)
          have hq6 : (q : Int) + 1 < (n : Int) + 1 := by omega
          have hq7 : (0 : Int) ≤ (q : Int) + 1 := by omega
          have hq8 : (0 : Int) ≤ (q : Int) := by omega
          have hq9 : (q : Int) < (n : Int) + 1 := by omega
          have hqa : IntKind.i64.wrap ((q : Int) + 1 - 1) = q := by rw [show (q : Int) + 1 - 1 = q by omega]; exact IntWalk.i64_in _ (by omega)
          have hqb : IntKind.i64.wrap (q : Int) = q := IntWalk.i64_in _ (by omega)
          have hi0 : (0 : Int) ≤ i := by omega
          have hi6 : (i : Int) < 6 := by omega
          generalize xs.getD i 0 = x at *
          generalize (wts xs i (q + 1)).length = z1 at *
          generalize (wts xs i q).length = z2 at *
          clear hcc r1 r2 hwi hwl hwb hv1 hv2 hM hlen hy L
          have HVL := Lib.hid hvl
          go_wp2_with fail
          go_region_with ((go_at_call 132; ((with_reducible refine HWB.out.mono ?_); rintro e w2 ⟨v, rfl, hO, hb⟩; obtain ⟨a3, p3, hv3, _⟩ := hO.reads; generalize (wts xs (i + 1) (q + 1)).length = z3 at hv3; subst hv3; have L2 := (HL.out.1.drew).own hb hO; have hcol5 := World.ownsRow.frozenAt (by have := L2.tl.ownM.outer; rw [HVL.out] at this; exact this) (q + 1); have m1 := cell_later hb c1; have HL3 := Lib.hid (HR.out _ _ L2); clear hO hb L2)))
          all_goals
            have HS5 := Lib.hid (And.intro HL3.out (show (vs.set (q + 1) (.slice a3 z3 p3)).length = n + 1 by rw [List.length_set]; exact HVL.out))
            clear HL3 hcol5 m1
            go_wp2_with fail
            go_roundw
            case rel => exact ⟨q, _, by omega, by go_num, HS5⟩
            case measure => simp [intOf] <;> omega
        · obtain rfl : k = 0 := by omega
          rw [show ((0 : Nat) : Int) = 0 from rfl]
          have L := HL.out.1
          have hvl := HL.out.2
          have hM := L.ownM
          have hlen := hM.len
          have c1 : wr.cell? ⟨g, 0, none⟩ = some (vs[0]'(by omega)) := by rw [World.ownsRow.cellAt (by have := hM.outer; rw [hvl] at this; exact this) 0 (by omega)]; simp
          have r1 := hM.row 0 (by omega)
          rw [lstR_get, midQ_at xs i 0 0 (by omega)] at r1
          have hcx := L.tl.ownHas.cell (1 + i)
          rw [sl_get _ _ i (by omega), show M i = xs.getD i 0 by rw [HM.out]] at hcx
          have hy := HY.out i
          have hwi := fun a b => wts_in xs (fun k => (HY.out k).2) i a b (by omega)
          have hwl := fun a => wts_len xs (fun k => (HY.out k).2) i a
          have hwb := weightsBehind_any (wts xs i 0) [] _ (.slice none 0 0) (xs.getD i 0) wr.drew (by omega) (by omega) (fun h => by omega) (by have := hwl 0; omega) (by simp) (hwi 0) (by simp) r1.src (.inl ⟨rfl, rfl⟩)
          rw [show behP (wts xs i 0) [] (xs.getD i 0) = wts xs (i + 1) 0 by
            rw [wts_succ, rowW_behP, preW]
            simp] at hwb
          obtain ⟨a1, p1, hv1, _⟩ := r1.reads
          rw [hv1] at c1 hwb
          have hcol := World.ownsRow.frozenAt (by have := hM.outer; rw [hvl] at this; exact this) 0
          have HWB := Lib.hid hwb
          have HR := Lib.hid (fun (w2 : World) (v : Value) (L2 : Law w [tOwn v (wts xs (i + 1) 0), tM (.slice (some ⟨g, 0, none⟩) (n + 1) (n + 1)) vs (lstR (n + 1) (midQ xs i 0)), tHas w.heap.size (sl n M) 90] w2) => by
            have L3 := L2.putM hvl 0 (by omega)
            rw [lstR_set (n + 1) (midQ xs i 0) (wts xs (i + 1)) 0 (wts xs (i + 1) 0) rfl (fun k _ hk => (midQ_end xs i k hk).symm)] at L3
            exact L3)
          have hq6 : (0 : Int) < (n : Int) + 1 := by omega
          have hi0 : (0 : Int) ≤ i := by omega
          have hi6 : (i : Int) < 6 := by omega
          generalize xs.getD i 0 = x at *
          generalize (wts xs i 0).length = z1 at *
          have HVL := Lib.hid hvl
          clear r1 hwi hwl hwb hv1 hM hlen hy L
          go_wp2_with fail
          go_region_with ((go_at_call 132; ((with_reducible refine HWB.out.mono ?_); rintro e w2 ⟨v, rfl, hO, hb⟩; obtain ⟨a3, p3, hv3, _⟩ := hO.reads; generalize (wts xs (i + 1) 0).length = z3 at hv3; subst hv3; have L2 := (HL.out.1.drew).own hb hO; have hcol5 := World.ownsRow.frozenAt (by have := L2.tl.ownM.outer; rw [HVL.out] at this; exact this) 0; have m1 := cell_later hb c1; have HL3 := Lib.hid (HR.out _ _ L2); clear hO hb L2)))
          all_goals
            have HS5 := Lib.hid (And.intro HL3.out (show (vs.set 0 (.slice a3 z3 p3)).length = n + 1 by rw [List.length_set]; exact HVL.out))
            clear HL3 hcol5 m1
            go_wp2_with fail
            go_roundw
            case rel => exact ⟨i + 1, _, by omega, by go_num, HS5⟩
            case measure => simp [intOf]; omega
    · obtain rfl : i = n := by omega
      go_wp2_with fail
      go_ret
      exact ⟨g, vs, rfl, HL.out.1.ownMLo, HL.out.1.below⟩
end Go.Proofs.Ytakdiiccdkjjcab
