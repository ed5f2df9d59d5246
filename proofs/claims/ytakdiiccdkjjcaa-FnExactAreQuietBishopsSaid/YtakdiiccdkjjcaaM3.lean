/- The cells of a board told, in both texts. No condition but the sizes. -/
import Derived.Test.YtakdiiccdkjjcaaM2
import Derived.Test.YtakdiiccdkjjcaaMf
import Derived.Test.YtakdiiccdkjjcaaK
namespace Go.Proofs.Ytakdiiccdkjjcaa
open Go.RowKit Go.WideShapes

def cellsB (r c : Int) (xs : List Int) : MR := if goodB r c xs then ⟨cellsL xs r.toNat c.toNat, true⟩ else ⟨[], false⟩
theorem rowC_two (xs : List Int) (a j : Nat) : ∀ r ∈ rowC xs a j, r.length = 2 := by
  intro r hr
  unfold rowC at hr
  obtain ⟨b, _, rfl⟩ := List.mem_map.1 hr
  rfl
theorem cellsL_two (xs : List Int) (n m : Nat) : ∀ r ∈ cellsL xs n m, r.length = 2 := by
  intro r hr
  unfold cellsL cellsU at hr
  rcases List.mem_append.1 hr with hr | hr
  · obtain ⟨a, _, h⟩ := List.mem_flatMap.1 hr
    exact rowC_two xs a m r h
  · exact rowC_two xs n 0 r hr
theorem total_two (rss : List (List Int)) (h : ∀ r ∈ rss, r.length = 2) : total rss = 2 * rss.length := by
  induction rss with
  | nil => rfl
  | cons a l ih =>
    rw [total_cons, h a (by simp), ih (fun r hr => h r (by simp [hr])), List.length_cons]
    omega
theorem cellsB_len (r c : Int) (xs : List Int) : (cellsB r c xs).zz.length ≤ 1048576 ∧ total (cellsB r c xs).zz ≤ 1048576 := by
  unfold cellsB
  split
  · rename_i h
    have := good_facts h
    have h1 := cellsU_len xs c.toNat r.toNat 0 (by omega) (by omega) (by omega)
    have h2 := total_two _ (cellsL_two xs r.toNat c.toNat)
    show (cellsL xs r.toNat c.toNat).length ≤ _ ∧ total (cellsL xs r.toNat c.toNat) ≤ _
    unfold cellsL at h2 ⊢
    omega
  · simp [total]


set_option maxRecDepth 100000 in
set_option maxHeartbeats 6400000 in
theorem cellList_any (n m : Nat) (xs : List Int) (M : Nat → Int) (w : World) (hn : n ≤ 6) (hm : m ≤ 6) (hMx : ∀ k, k < n → M k = xs.getD k 0) (hgc : ∀ k, k < 6 → 0 ≤ M k ∧ M k < 64) :
    Calls Try.prog 72 #[gv n m M] w fun e w' => ∃ v vs, e = .returned v ∧ OwnM w' w.heap.size v vs (cellsL xs n m) ∧ Below w.heap.size w w' := by
  have L0 := (Law.start w).has (gl n m M) 66
  have HT := Lib.hid (fun k (h : k < n) => (hMx k h).symm)
  have HGC := Lib.hid hgc
  obtain ⟨N, hN⟩ := Int.eq_ofNat_of_zero_le (sumP_bd M 6).1
  have hN2 := (sumP_bd M 6).2
  rw [hN] at hN2
  have hNl : N ≤ 36 := by omega
  have HN := Lib.hid hN
  have L1 := L0
  clear hgc hN hN2 L0 hMx
  rw [show w.alloc (.cells (gl n m M).toArray 66) = w.alloc (.cells #[.int .i64 n, .int .i64 m, .int .i64 (M 0), .int .i64 (M 1), .int .i64 (M 2), .int .i64 (M 3), .int .i64 (M 4), .int .i64 (M 5)] 66) from rfl] at L1
  go_enter Try.func72, Try.ntmps72
  go_upto_region 1 with fail
  generalize w.alloc (.cells #[.int .i64 n, .int .i64 m, .int .i64 (M 0), .int .i64 (M 1), .int .i64 (M 2), .int .i64 (M 3), .int .i64 (M 4), .int .i64 (M 5)] 66) = w5 at *
  have ⟨e0, e1, e2, e3, e4, e5, e6, e7, _⟩ := L1.ownHas.eight
  go_wp2_with fail
  refine (count_any n m M _ HGC.out).mono ?_
  rintro e w2 ⟨rfl, hb⟩
  rw [HN.out]
  have HL := Lib.hid (L1.kept hb)
  clear L1 hb e0 e1 e2 e3 e4 e5 e6 e7
  obtain ⟨i0, hi, hz0, hz1, hz2⟩ := info_parts Try.infoL
  go_wp2_with (at_make; refine wpList_make_own _ rfl _ _ 45 rfl _ 22 i0 (.slice none 0 0) 1 Try.underlying45 hi hz0 hz1 .i64 .i64 (N : Int) N rfl rfl rfl (by rw [hz2]; omega) (by unfold maxLen; omega) (Nat.le_refl _) ?_)
  intro w6 hown hg
  have L2 := HL.out.addM ((Below.refl _ _).grown hg (Nat.le_refl _) (by simp)) (own_freshM hown)
  have HL2 := Lib.hid L2
  clear L2 HL hown hg hi hz0 hz1 hz2
  go_wp2_with fail
  go_loopw [3, 4, 5] (fun v i _ wr => ∃ (k : Nat) (vs : List Value), k ≤ n ∧ i = .int .i64 k ∧ Law w [tM v vs (cellsU xs m k 0), tHas w.heap.size (gl n m M) 66] wr) (fun _ i _ _ => n - (intOf i).toNat)
  case atStart => exact ⟨0, [], Nat.zero_le _, rfl, by rw [cellsU_zero]; exact HL2.out⟩
  case round =>
    clear HL2
    obtain ⟨i, vs, hi, rfl, L⟩ := hrel
    obtain ⟨wo, rfl⟩ : ∃ wo : World, wo = wr := ⟨_, rfl⟩
    have ⟨e0, e1, _⟩ := L.tl.ownHas.eight
    have HL := Lib.hid L
    clear L
    by_cases hin : i < n
    · go_wp2_with fail
      clear e0 e1
      go_loopw [3, 5] (fun v j wr => ∃ (l : Nat) (vs : List Value), l ≤ m ∧ j = .int .i64 l ∧ Law w [tM v vs (cellsU xs m i l), tHas w.heap.size (gl n m M) 66] wr) (fun _ j _ => m - (intOf j).toNat)
      case atStart => exact ⟨0, vs, Nat.zero_le _, rfl, HL.out⟩
      case round =>
        clear HL
        obtain ⟨j, vs, hj, rfl, L⟩ := hrel
        have ⟨e0, e1, e2, e3, e4, e5, e6, e7, _⟩ := L.tl.ownHas.eight
        by_cases hjm : j < m
        · have HL := Lib.hid L
          clear L
          go_wp2_with fail
          refine (at_any n m M i j _ (by omega) (by omega) (HGC.out i (by omega))).mono ?_
          rintro e w2 ⟨rfl, hb⟩
          have L2 := HL.out.kept hb
          clear HL hb e0 e1 e2 e3 e4 e5 e6 e7
          cases hp : (M i).toNat.testBit j
          · have HN := Lib.hid (cellsU_no xs m i j (by rw [HT.out i (by omega)]; exact hp))
            have HL := Lib.hid L2
            clear L2 hp
            go_wp2_with fail
            go_roundw
            case rel => exact ⟨j + 1, vs, by omega, by go_num, by rw [HN.out]; exact HL.out⟩
            case measure => simp [intOf]; omega
          · have HN := Lib.hid (cellsU_yes xs m i j (by rw [HT.out i (by omega)]; exact hp))
            have hln : vs.length + 1 ≤ 1048576 := by
              have := L2.ownM.len
              have := cellsU_len xs m i j (by omega) (by omega) (by omega)
              omega
            have HL := Lib.hid ((L2.own (below_new _) (own_two w2 i j)).kept (below_new (.cells #[.slice (some ⟨w2.heap.size, 0, none⟩) 2 2] 22)))
            clear L2 hp
            go_wp2_with (at_builtin; refine wp_appendM rfl _ _ rfl HL.out (w2.heap.size + 1) rfl rfl ?c1 rfl hln ?_)
            case c1 => simp
            intro g cp w3 L3
            have HL3 := Lib.hid L3
            clear L3 HL
            go_wp2_with fail
            go_roundw
            case rel => exact ⟨j + 1, _, by omega, by go_num, by rw [← HN.out]; exact HL3.out⟩
            case measure => simp [intOf]; omega
        · obtain rfl : j = m := by omega
          have HL := Lib.hid L
          clear L
          go_wp2_with fail
          clear e0 e1 e2 e3 e4 e5 e6 e7
          go_roundw
          case rel => exact ⟨i + 1, vs, by omega, by go_num, by rw [← cellsU_row]; exact HL.out⟩
          case measure => simp [intOf]; omega
    · obtain rfl : i = n := by omega
      go_wp2_with fail
      go_ret
      exact ⟨_, vs, rfl, HL.out.ownMLo, HL.out.below⟩


end Go.Proofs.Ytakdiiccdkjjcaa
