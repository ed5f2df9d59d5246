import Derived.Test.YtakdiiccdkjjcacFold10
import Derived.Test.YtakdiiccdkjjcacFold11
import Derived.Test.YtakdiiccdkjjcacFold6

section
namespace Go.Proofs.Ytakdiiccdkjjcac
open Go.RowKit Go.WideShapes

def rowC (xs : List Int) (a j : Nat) : List (List Int) := ((List.range j).filter (fun b => (xs.getD a 0).toNat.testBit b)).map (fun (b : Nat) => [(a : Int), (b : Int)])
def cellsU (xs : List Int) (m i j : Nat) : List (List Int) := (List.range i).flatMap (fun a => rowC xs a m) ++ rowC xs i j
def cellsL (xs : List Int) (n m : Nat) : List (List Int) := cellsU xs m n 0
theorem cellsU_zero (xs : List Int) (m : Nat) : cellsU xs m 0 0 = [] := by simp [cellsU, rowC]
theorem cellsU_yes (xs : List Int) (m i j : Nat) (h : (xs.getD i 0).toNat.testBit j = true) : cellsU xs m i j ++ [[(i : Int), (j : Int)]] = cellsU xs m i (j + 1) := by
  unfold cellsU rowC
  rw [List.append_assoc, List.range_succ, List.filter_append, List.map_append]
  simp only [List.getD_eq_getElem?_getD] at h
  simp [h]
theorem cellsU_no (xs : List Int) (m i j : Nat) (h : (xs.getD i 0).toNat.testBit j = false) : cellsU xs m i (j + 1) = cellsU xs m i j := by
  unfold cellsU rowC
  rw [List.range_succ, List.filter_append, List.map_append]
  simp only [List.getD_eq_getElem?_getD] at h
  simp [h]
theorem cellsU_row (xs : List Int) (m i : Nat) : cellsU xs m i m = cellsU xs m (i + 1) 0 := by
  unfold cellsU
  rw [List.range_succ, List.flatMap_append]
  simp [rowC]
theorem rowC_len (xs : List Int) (a j : Nat) : (rowC xs a j).length ≤ j := by
  unfold rowC
  rw [List.length_map]
  exact Nat.le_trans (List.length_filter_le _ _) (by simp)
theorem flat_len (xs : List Int) (m i : Nat) : ((List.range i).flatMap (fun a => rowC xs a m)).length ≤ i * m := by
  induction i with
  | zero => simp
  | succ i ih =>
    have e : ([i].flatMap (fun a => rowC xs a m)) = rowC xs i m := by simp
    rw [List.range_succ, List.flatMap_append, List.length_append, Nat.succ_mul, e]
    have := rowC_len xs i m
    omega
theorem cellsU_len (xs : List Int) (m i j : Nat) (hi : i ≤ 6) (hm : m ≤ 6) (hj : j ≤ 6) : (cellsU xs m i j).length ≤ 42 := by
  unfold cellsU
  rw [List.length_append]
  have h1 := flat_len xs m i
  have h2 := rowC_len xs i j
  have h3 : i * m ≤ 6 * 6 := Nat.mul_le_mul hi hm
  omega

/-- A row of two numbers that has just been laid. -/
theorem own_two (w : World) (x y : Int) : Own (w.alloc (.cells #[.int .i64 x, .int .i64 y] 3)) w.heap.size (.slice (some ⟨w.heap.size, 0, none⟩) 2 2) [x, y] :=
  own_of_has (n := 2) (xs := [x, y]) (Has.new w [.int .i64 x, .int .i64 y] 3) (Nat.le_refl _) rfl (by unfold maxLen; omega)

set_option maxRecDepth 100000 in
set_option maxHeartbeats 3200000 in
theorem boCells_any (n m : Nat) (xs : List Int) (w : World) (hx : xs.length ≤ 1048576) (hg : goodB n m xs = true) (lo : Nat) (s : Value) (hO : Own w lo s xs) :
    Calls Try.prog 115 #[.agg #[.int .i64 n, .int .i64 m, s]] w fun e w' => ∃ v vs, e = .returned v ∧ OwnM w' w.heap.size v vs (cellsL xs n m) ∧ Below w.heap.size w w' := by
  have hgc := good_cell hg
  obtain ⟨⟨g1l, g1h⟩, ⟨g2l, g2h⟩, g3, _⟩ := good_facts hg
  have L0 := ((Law.start w).box (.int .i64 n) (.int .i64 m) s 28).nilM
  obtain ⟨a, cap, hs, _⟩ := hO.reads
  subst hs
  have HO := Lib.hid hO
  have HL := Lib.hid L0
  clear hO L0 hg
  go_enter Try.func115, Try.ntmps115
  go_wp2_with fail
  go_loopw [3, 4, 5] (fun v i _ wr => ∃ (k : Nat) (vs : List Value), k ≤ n ∧ i = .int .i64 k ∧ Law w [tM v vs (cellsU xs m k 0), tBox w.heap.size (.int .i64 n) (.int .i64 m) (.slice a xs.length cap)] wr) (fun _ i _ _ => n - (intOf i).toNat)
  case atStart => exact ⟨0, [], Nat.zero_le _, rfl, by rw [cellsU_zero]; exact HL.out⟩
  case round =>
    clear HL
    obtain ⟨i, vs, hi, rfl, L⟩ := hrel
    obtain ⟨wo, rfl⟩ : ∃ wo : World, wo = wr := ⟨_, rfl⟩
    have ⟨_, m0, m1, m2, _⟩ := L.tl.ownBox
    have HL := Lib.hid L
    clear L
    by_cases hin : i < n
    · go_wp2_with fail
      clear m0 m1 m2
      go_loopw [3, 5] (fun v j wr => ∃ (l : Nat) (vs : List Value), l ≤ m ∧ j = .int .i64 l ∧ Law w [tM v vs (cellsU xs m i l), tBox w.heap.size (.int .i64 n) (.int .i64 m) (.slice a xs.length cap)] wr) (fun _ j _ => m - (intOf j).toNat)
      case atStart => exact ⟨0, vs, Nat.zero_le _, rfl, HL.out⟩
      case round =>
        clear HL
        obtain ⟨j, vs, hj, rfl, L⟩ := hrel
        have ⟨_, m0, m1, m2, _⟩ := L.tl.ownBox
        by_cases hjm : j < m
        · have hO1 := HO.out.kept L.below
          have HL := Lib.hid L
          clear L
          go_wp2_with fail
          refine (boHas_any n m xs i j _ (by omega) hx (by omega) (hgc i) lo _ hO1).mono ?_
          rintro e w2 ⟨rfl, hb⟩
          have L2 := HL.out.kept hb
          clear HL hb hO1 m0 m1 m2
          cases hp : (xs.getD i 0).toNat.testBit j
          · have HN := Lib.hid (cellsU_no xs m i j hp)
            have HL := Lib.hid L2
            clear L2 hp
            go_wp2_with fail
            go_roundw
            case rel => exact ⟨j + 1, vs, by omega, by go_num, by rw [HN.out]; exact HL.out⟩
            case measure => simp [intOf]; omega
          · have HN := Lib.hid (cellsU_yes xs m i j hp)
            have hln : vs.length + 1 ≤ 1048576 := by
              have := L2.ownM.len
              have := cellsU_len xs m i j (by omega) (by omega) (by omega)
              omega
            have HL := Lib.hid ((L2.own (below_new _) (own_two w2 i j)).kept (below_new (.cells #[.slice (some ⟨w2.heap.size, 0, none⟩) 2 2] 22)))
            clear L2 hp
            go_wp2_with (at_builtin; refine wp_appendM rfl _ _ rfl HL.out (w2.heap.size + 1) rfl rfl ?c1 rfl hln ?_)
            case c1 => simp
            intro g cp w3 L3
            have HL3 := Lib.hid L3
            clear L3 HL
            go_wp2_with fail
            go_roundw
            case rel => exact ⟨j + 1, _, by omega, by go_num, by rw [← HN.out]; exact HL3.out⟩
            case measure => simp [intOf]; omega
        · obtain rfl : j = m := by omega
          have HL := Lib.hid L
          clear L
          go_wp2_with fail
          clear m0 m1 m2
          go_roundw
          case rel => exact ⟨i + 1, vs, by omega, by go_num, by rw [← cellsU_row]; exact HL.out⟩
          case measure => simp [intOf]; omega
    · obtain rfl : i = n := by omega
      go_wp2_with fail
      go_ret
      exact ⟨_, vs, rfl, HL.out.ownMLo, HL.out.below⟩

end Go.Proofs.Ytakdiiccdkjjcac
end

section
namespace Go.Proofs.Ytakdiiccdkjjcac
open Go.RowKit Go.WideShapes


def sumP (M : Nat → Int) : Nat → Int
  | 0 => 0
  | k + 1 => sumP M k + pop (M k)
theorem sumP_bd (M : Nat → Int) (k : Nat) : 0 ≤ sumP M k ∧ sumP M k ≤ 6 * k := by
  induction k with
  | zero => simp [sumP]
  | succ k ih =>
    have := pop_bd (M k)
    rw [sumP]
    omega

set_option maxHeartbeats 1600000 in
theorem count_any (r c : Int) (M : Nat → Int) (w : World) (hM : ∀ k, k < 6 → 0 ≤ M k ∧ M k < 64) :
    Calls Try.prog 121 #[gv r c M] w fun e w' => e = .returned (.int .i64 (sumP M 6)) ∧ Below w.heap.size w w' := by
  have HB := Lib.hid (below_new (w := w) (.cells (gl r c M).toArray 83))
  go_enter Try.func121, Try.ntmps121
  go_wp2_with fail
  go_loop [3, 8] (fun s i => ∃ k : Nat, k ≤ 6 ∧ i = .int .i64 k ∧ s = .int .i64 (sumP M k)) (fun _ i => 6 - (intOf i).toNat)
  case atStart => exact ⟨0, by omega, rfl, rfl⟩
  case round =>
    obtain ⟨k, hk, rfl, rfl⟩ := hrel
    by_cases hlt : k < 6
    · have ix := ix6 M k hlt
      obtain ⟨h0, h1⟩ := hM k hlt
      have hs := sumP_bd M k
      have hp := pop_bd (M k)
      have HS := Lib.hid (show sumP M (k + 1) = sumP M k + pop (M k) from rfl)
      obtain ⟨y, hy⟩ := Int.eq_ofNat_of_zero_le h0
      rw [hy] at ix hp HS h1
      have hyl : y < 64 := by omega
      clear hy h0
      generalize sumP M k = t at *
      go_wp2_with fail
      refine (ones_any y _ hyl).mono ?_
      rintro e w' ⟨rfl, rfl⟩
      generalize pop y = z at *
      go_wp2_with fail
      go_round
      case rel => exact ⟨k + 1, by omega, by go_num, by rw [HS.out]⟩
      case measure => simp [intOf]; omega
    · obtain rfl : k = 6 := by omega
      go_wp2_with fail
      go_ret
      exact ⟨rfl, HB.out⟩

def countB (r c : Int) (xs : List Int) : R1 := if goodB r c xs then ⟨((cellsL xs r.toNat c.toNat).length : Int), true⟩ else ⟨0, false⟩
theorem rowC_pop (xs : List Int) (a m : Nat) (hm : m ≤ 6) (h : 0 ≤ xs.getD a 0 ∧ xs.getD a 0 < pw m) : ((rowC xs a m).length : Int) = pop (xs.getD a 0) := by
  unfold rowC
  rw [List.length_map]
  generalize xs.getD a 0 = x at *
  obtain ⟨n, rfl⟩ := Int.eq_ofNat_of_zero_le h.1
  have key : ∀ m : Fin 7, ∀ n : Fin 64, ((n : Nat) : Int) < pw (m : Nat) → ((((List.range (m : Nat)).filter (fun b => ((n : Nat) : Int).toNat.testBit b)).length : Nat) : Int) = pop ((n : Nat) : Int) := by decide +kernel
  have h6 := (pw_bd (c := (m : Int)) (by omega)).2.1
  exact key ⟨m, by omega⟩ ⟨n, by omega⟩ h.2
theorem flat_pop (xs : List Int) (m i : Nat) (hm : m ≤ 6) (h : ∀ k, k < i → 0 ≤ xs.getD k 0 ∧ xs.getD k 0 < pw m) : ((((List.range i).flatMap (fun a => rowC xs a m)).length : Nat) : Int) = sumP (fun k => xs.getD k 0) i := by
  induction i with
  | zero => simp [sumP]
  | succ i ih =>
    have e : ([i].flatMap (fun a => rowC xs a m)) = rowC xs i m := by simp
    rw [List.range_succ, List.flatMap_append, List.length_append, e, sumP, Int.natCast_add, ih (fun k hk => h k (by omega)), rowC_pop xs i m hm (h i (by omega))]
theorem sumP_zero (xs : List Int) (n k : Nat) (h : xs.length = n) : sumP (fun k => xs.getD k 0) (n + k) = sumP (fun k => xs.getD k 0) n := by
  induction k with
  | zero => rfl
  | succ k ih =>
    rw [← Nat.add_assoc, sumP, ih]
    have : xs.getD (n + k) 0 = 0 := by simp [List.getD, List.getElem?_eq_none (show xs.length ≤ n + k by omega)]
    rw [this]
    have : pop 0 = 0 := by decide +kernel
    omega
theorem count_eq {n m : Nat} {xs : List Int} (h : goodB n m xs = true) : ((cellsL xs n m).length : Int) = sumP (fun k => xs.getD k 0) 6 := by
  obtain ⟨g1, g2, g3, g4⟩ := good_facts h
  have e := sumP_zero xs n (6 - n) (by omega)
  rw [show n + (6 - n) = 6 by omega] at e
  rw [e, cellsL, cellsU, List.length_append, ← flat_pop xs m n (by omega) (fun k hk => g4 k (by omega))]
  simp [rowC]


set_option maxHeartbeats 1600000 in
theorem implCount_any (r c : Int) (xs : List Int) (w : World) (hx : xs.length ≤ 1048576) (lo : Nat) (s : Value) (hO : Own w lo s xs) :
    Calls Try.prog 62 #[.agg #[.int .i64 r, .int .i64 c, s]] w fun e w' => AnsIO (countB r c xs) w e w' := by
  have L0 := (Law.start w).box (.int .i64 r) (.int .i64 c) s 28
  obtain ⟨a, cap, rfl, hr⟩ := hO.reads
  have hr0 := L0.reads hr
  clear hO
  cases hg : goodB r c xs
  · rw [show countB r c xs = ⟨0, false⟩ by simp [countB, hg]]
    go_enter Try.func62, Try.ntmps62
    go_wp2_with fail
    refine (gridOf_no r c a cap xs _ hx hr0 hg).mono ?_
    rintro e w1 ⟨rfl, hb⟩
    have HB := Lib.hid ((L0.kept hb).kept (below_new (.cells #[.int .i64 0, .int .i64 0, .int .i64 0, .int .i64 0, .int .i64 0, .int .i64 0, .int .i64 0, .int .i64 0] 83))).below
    clear L0 hb hg hr0
    go_wp2_with fail
    go_ret2
    exact ⟨rfl, HB.out⟩
  · obtain ⟨g1, g2, _, _⟩ := good_facts hg
    have hgc := good_cell hg
    obtain ⟨n, rfl⟩ := Int.eq_ofNat_of_zero_le (show 0 ≤ r by omega)
    obtain ⟨m, rfl⟩ := Int.eq_ofNat_of_zero_le (show 0 ≤ c by omega)
    rw [show countB n m xs = ⟨((cellsL xs n m).length : Int), true⟩ by simp [countB, hg], count_eq hg]
    obtain ⟨M, hM, hc⟩ := gridOf_good n m a cap xs _ hx hr0 hg
    have HC := Lib.hid hc; clear hc
    have e : (fun k => xs.getD k 0) = M := by funext k; exact (hM k).symm
    rw [e]
    simp only [← hM] at hgc
    clear hM e hg hr0
    go_enter Try.func62, Try.ntmps62
    go_wp2_with fail
    refine HC.out.mono ?_
    rintro e w1 ⟨rfl, hb⟩
    have L1 := (L0.kept hb).kept (below_new (.cells #[.int .i64 n, .int .i64 m, .int .i64 (M 0), .int .i64 (M 1), .int .i64 (M 2), .int .i64 (M 3), .int .i64 (M 4), .int .i64 (M 5)] 83))
    clear L0 hb HC
    go_wp2_with fail
    refine (count_any n m M _ (fun k _ => hgc k)).mono ?_
    rintro e w2 ⟨rfl, hb⟩
    have HB := Lib.hid (L1.kept hb).below
    clear L1 hb
    go_wp2_with fail
    go_ret2
    exact ⟨rfl, HB.out⟩

end Go.Proofs.Ytakdiiccdkjjcac
end
