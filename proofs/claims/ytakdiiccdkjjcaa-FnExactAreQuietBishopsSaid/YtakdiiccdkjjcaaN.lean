/- The cells of a board, in the specification. No condition but the sizes. -/
import Derived.Test.YtakdiiccdkjjcaaM
import Derived.Test.YtakdiiccdkjjcaaZ
namespace Go.Proofs.Ytakdiiccdkjjcaa
open Go.RowKit Go.WideShapes

def rowC (xs : List Int) (a j : Nat) : List (List Int) := ((List.range j).filter (fun b => (xs.getD a 0).toNat.testBit b)).map (fun (b : Nat) => [(a : Int), (b : Int)])
def cellsU (xs : List Int) (m i j : Nat) : List (List Int) := (List.range i).flatMap (fun a => rowC xs a m) ++ rowC xs i j
def cellsL (xs : List Int) (n m : Nat) : List (List Int) := cellsU xs m n 0
theorem cellsU_zero (xs : List Int) (m : Nat) : cellsU xs m 0 0 = [] := by simp [cellsU, rowC]
theorem cellsU_yes (xs : List Int) (m i j : Nat) (h : (xs.getD i 0).toNat.testBit j = true) : cellsU xs m i j ++ [[(i : Int), (j : Int)]] = cellsU xs m i (j + 1) := by
  unfold cellsU rowC
  rw [List.append_assoc, List.range_succ, List.filter_append, List.map_append]
  simp only [List.getD_eq_getElem?_getD] at h
  simp [h]
theorem cellsU_no (xs : List Int) (m i j : Nat) (h : (xs.getD i 0).toNat.testBit j = false) : cellsU xs m i (j + 1) = cellsU xs m i j := by
  unfold cellsU rowC
  rw [List.range_succ, List.filter_append, List.map_append]
  simp only [List.getD_eq_getElem?_getD] at h
  simp [h]
theorem cellsU_row (xs : List Int) (m i : Nat) : cellsU xs m i m = cellsU xs m (i + 1) 0 := by
  unfold cellsU
  rw [List.range_succ, List.flatMap_append]
  simp [rowC]
theorem rowC_len (xs : List Int) (a j : Nat) : (rowC xs a j).length ≤ j := by
  unfold rowC
  rw [List.length_map]
  exact Nat.le_trans (List.length_filter_le _ _) (by simp)
theorem flat_len (xs : List Int) (m i : Nat) : ((List.range i).flatMap (fun a => rowC xs a m)).length ≤ i * m := by
  induction i with
  | zero => simp
  | succ i ih =>
    have e : ([i].flatMap (fun a => rowC xs a m)) = rowC xs i m := by simp
    rw [List.range_succ, List.flatMap_append, List.length_append, Nat.succ_mul, e]
    have := rowC_len xs i m
    omega
theorem cellsU_len (xs : List Int) (m i j : Nat) (hi : i ≤ 6) (hm : m ≤ 6) (hj : j ≤ 6) : (cellsU xs m i j).length ≤ 42 := by
  unfold cellsU
  rw [List.length_append]
  have h1 := flat_len xs m i
  have h2 := rowC_len xs i j
  have h3 : i * m ≤ 6 * 6 := Nat.mul_le_mul hi hm
  omega

/-- A row of two numbers that has just been laid. -/
theorem own_two (w : World) (x y : Int) : Own (w.alloc (.cells #[.int .i64 x, .int .i64 y] 3)) w.heap.size (.slice (some ⟨w.heap.size, 0, none⟩) 2 2) [x, y] :=
  own_of_has (n := 2) (xs := [x, y]) (Has.new w [.int .i64 x, .int .i64 y] 3) (Nat.le_refl _) rfl (by unfold maxLen; omega)

set_option maxRecDepth 100000 in
set_option maxHeartbeats 3200000 in
theorem boCells_any (n m : Nat) (xs : List Int) (w : World) (hx : xs.length ≤ 1048576) (hg : goodB n m xs = true) (lo : Nat) (s : Value) (hO : Own w lo s xs) :
    Calls Try.prog 78 #[.agg #[.int .i64 n, .int .i64 m, s]] w fun e w' => ∃ v vs, e = .returned v ∧ OwnM w' w.heap.size v vs (cellsL xs n m) ∧ Below w.heap.size w w' := by
  have hgc := good_cell hg
  obtain ⟨⟨g1l, g1h⟩, ⟨g2l, g2h⟩, g3, _⟩ := good_facts hg
  have L0 := ((Law.start w).box (.int .i64 n) (.int .i64 m) s 28).nilM
  obtain ⟨a, cap, hs, _⟩ := hO.reads
  subst hs
  have HO := Lib.hid hO
  have HL := Lib.hid L0
  clear hO L0 hg
  go_enter Try.func78, Try.ntmps78
  go_wp2_with fail
  go_loopw [3, 4, 5] (fun v i _ wr => ∃ (k : Nat) (vs : List Value), k ≤ n ∧ i = .int .i64 k ∧ Law w [tM v vs (cellsU xs m k 0), tBox w.heap.size (.int .i64 n) (.int .i64 m) (.slice a xs.length cap)] wr) (fun _ i _ _ => n - (intOf i).toNat)
  case atStart => exact ⟨0, [], Nat.zero_le _, rfl, by rw [cellsU_zero]; exact HL.out⟩
  case round =>
    clear HL
    obtain ⟨i, vs, hi, rfl, L⟩ := hrel
    obtain ⟨wo, rfl⟩ : ∃ wo : World, wo = wr := ⟨_, rfl⟩
    have ⟨_, m0, m1, m2, _⟩ := L.tl.ownBox
    have HL := Lib.hid L
    clear L
    by_cases hin : i < n
    · go_wp2_with fail
      clear m0 m1 m2
      go_loopw [3, 5] (fun v j wr => ∃ (l : Nat) (vs : List Value), l ≤ m ∧ j = .int .i64 l ∧ Law w [tM v vs (cellsU xs m i l), tBox w.heap.size (.int .i64 n) (.int .i64 m) (.slice a xs.length cap)] wr) (fun _ j _ => m - (intOf j).toNat)
      case atStart => exact ⟨0, vs, Nat.zero_le _, rfl, HL.out⟩
      case round =>
        clear HL
        obtain ⟨j, vs, hj, rfl, L⟩ := hrel
        have ⟨_, m0, m1, m2, _⟩ := L.tl.ownBox
        by_cases hjm : j < m
        · have hO1 := HO.out.kept L.below
          have HL := Lib.hid L
          clear L
          go_wp2_with fail
          refine (boHas_any n m xs i j _ (by omega) hx (by omega) (hgc i) lo _ hO1).mono ?_
          rintro e w2 ⟨rfl, hb⟩
          have L2 := HL.out.kept hb
          clear HL hb hO1 m0 m1 m2
          cases hp : (xs.getD i 0).toNat.testBit j
          · have HN := Lib.hid (cellsU_no xs m i j hp)
            have HL := Lib.hid L2
            clear L2 hp
            go_wp2_with fail
            go_roundw
            case rel => exact ⟨j + 1, vs, by omega, by go_num, by rw [HN.out]; exact HL.out⟩
            case measure => simp [intOf]; omega
          · have HN := Lib.hid (cellsU_yes xs m i j hp)
            have hln : vs.length + 1 ≤ 1048576 := by
              have := L2.ownM.len
              have := cellsU_len xs m i j (by omega) (by omega) (by omega)
              omega
            have HL := Lib.hid ((L2.own (below_new _) (own_two w2 i j)).kept (below_new (.cells #[.slice (some ⟨w2.heap.size, 0, none⟩) 2 2] 22)))
            clear L2 hp
            go_wp2_with (at_builtin; refine wp_appendM rfl _ _ rfl HL.out (w2.heap.size + 1) rfl rfl ?c1 rfl hln ?_)
            case c1 => simp
            intro g cp w3 L3
            have HL3 := Lib.hid L3
            clear L3 HL
            go_wp2_with fail
            go_roundw
            case rel => exact ⟨j + 1, _, by omega, by go_num, by rw [← HN.out]; exact HL3.out⟩
            case measure => simp [intOf]; omega
        · obtain rfl : j = m := by omega
          have HL := Lib.hid L
          clear L
          go_wp2_with fail
          clear m0 m1 m2
          go_roundw
          case rel => exact ⟨i + 1, vs, by omega, by go_num, by rw [← cellsU_row]; exact HL.out⟩
          case measure => simp [intOf]; omega
    · obtain rfl : i = n := by omega
      go_wp2_with fail
      go_ret
      exact ⟨_, vs, rfl, HL.out.ownMLo, HL.out.below⟩

end Go.Proofs.Ytakdiiccdkjjcaa
