import Derived.Test.YtaipcmplpjkebaaFold9
import Derived.Test.YtaipcmplpjkebaaFold3
import Derived.Test.YtaipcmplpjkebaaFold8
import Derived.Test.YtaipcmplpjkebaaFold4
import Derived.Deep.RegionWith
import Derived.Deep.RegionHeld3
import Derived.Deep.DeepCutAuto
import Derived.Deep.RegionLaw

section
namespace Go.Proofs.Ytaipcmplpjkebaa
open Go.RowKit Go.WideShapes

def fullB (r c : Int) : BR := if inB 1 r 6 && inB 1 c 6 then ⟨r, c, List.replicate r.toNat (pw c - 1), true⟩ else BR.zero

set_option maxHeartbeats 800000 in
theorem boEmpty_any (n m : Nat) (w : World) (hn : n ≤ 6) :
    Calls Try.prog 63 #[.int .i64 n, .int .i64 m] w fun e w' => ∃ s, e = .returned (.agg #[.int .i64 n, .int .i64 m, s]) ∧ Own w' w.heap.size s (List.replicate n 0) ∧ Below w.heap.size w w' := by
  have hmk := run_make_row' (P := Try.prog) 25 3 (.int .i64 0) 8 Try.underlying25 Try.infoI rfl .i64 .i64 n (by omega) (by omega)
  go_enter Try.func63, Try.ntmps63
  go_wp2
  refine bodyPost_ret (v := .agg #[.int .i64 n, .int .i64 m, .slice (some ⟨w.heap.size + 1, 0, none⟩) n n]) (by simp [results, Try.results63, go_sem] <;> omega) rfl ⟨_, rfl, ?_, ?_⟩
  · exact own_made _ n _ _ (by simp) (by omega) (by omega)
  · exact below_on (below_new _) (below_new _)


theorem rowM_full (m : Nat) : (rowM (fun _ => true) m : Int) = pw m - 1 := by
  have h : rowM (fun _ => true) m + 1 = 2 ^ m := by
    induction m with
    | zero => rfl
    | succ m ih => rw [rowM, Nat.pow_succ]; simp; omega
  unfold pw
  rw [Int.toNat_natCast]
  have : ((2 ^ m : Nat) : Int) = 2 ^ m := by simp
  omega
theorem full_cells (n m : Nat) (hn : n ≤ 6) : (([0, 1, 2, 3, 4, 5].take n).map fun k => (rowM ((fun _ _ => true : Nat → Nat → Bool) k) m : Int)) = List.replicate n (pw m - 1) := by
  simp only [rowM_full]
  have : n = 0 ∨ n = 1 ∨ n = 2 ∨ n = 3 ∨ n = 4 ∨ n = 5 ∨ n = 6 := by omega
  rcases this with rfl | rfl | rfl | rfl | rfl | rfl | rfl <;> rfl


theorem fullB_len (r c : Int) : (fullB r c).xs.length ≤ 1048576 := by
  unfold fullB
  split
  · rename_i h
    rw [Bool.and_eq_true, inB_iff] at h
    simp; omega
  · simp [BR.zero]

end Go.Proofs.Ytaipcmplpjkebaa
end

section
namespace Go.Proofs.Ytaipcmplpjkebaa
open Go.RowKit Go.WideShapes


/-- A zero board, and false: a call that fails. -/
theorem ansB_zero (w w' : World) (h : Below w.heap.size w w') : AnsB BR.zero w (.returned (.tuple #[.agg #[.int .i64 0, .int .i64 0, .slice none 0 0], .bool false])) w' := ⟨_, rfl, Own.nil _ _, h⟩

theorem cells_n (n : Nat) (f : Nat → Int) (xs : List Int) (hl : xs.length = n) (hn : n ≤ 6) (hf : ∀ k, k < n → f k = xs.getD k 0) : (([0, 1, 2, 3, 4, 5].take n).map f) = xs := by
  apply List.ext_getElem?
  intro j
  by_cases hj : j < n
  · have h6 : ([0, 1, 2, 3, 4, 5] : List Nat)[j]? = some j := by
      have : j = 0 ∨ j = 1 ∨ j = 2 ∨ j = 3 ∨ j = 4 ∨ j = 5 := by omega
      rcases this with rfl | rfl | rfl | rfl | rfl | rfl <;> rfl
    rw [List.getElem?_map, List.getElem?_take, if_pos hj, h6, Option.map_some, hf j hj]
    simp [List.getD, show j < xs.length by omega]
  · rw [List.getElem?_eq_none (by simp; omega), List.getElem?_eq_none (by omega)]


end Go.Proofs.Ytaipcmplpjkebaa
end

section
namespace Go.Proofs.Ytaipcmplpjkebaa
open Go.RowKit Go.WideShapes

/-- The index that i was, before a line went away. -/
def sk (i s : Nat) : Nat := if i < s then i else i + 1
/-- A row without its place j: m places are left. -/
def skv (x : Int) (j m : Nat) : Int := (rowM (fun c => x.toNat.testBit (sk c j)) m : Int)
def strikeL (xs : List Int) (i j m : Nat) : List Int := (xs.eraseIdx i).map (fun x => skv x j m)
def strikeB (r c : Int) (xs : List Int) (i j : Int) : BR := if placeB r c xs i j && (!(r == 1) && !(c == 1)) then ⟨r - 1, c - 1, strikeL xs i.toNat j.toNat (c - 1).toNat, true⟩ else BR.zero
theorem strikeL_len (xs : List Int) (i j m : Nat) (h : i < xs.length) : (strikeL xs i j m).length = xs.length - 1 := by
  simp [strikeL, List.length_eraseIdx, h]
theorem strikeB_len (r c : Int) (xs : List Int) (i j : Int) : (strikeB r c xs i j).xs.length ≤ 1048576 := by
  unfold strikeB
  split
  · rename_i h
    rw [Bool.and_eq_true, placeB, Bool.and_eq_true] at h
    have := good_facts h.1.1
    have := insB_iff.1 h.1.2
    rw [strikeL_len _ _ _ _ (by omega)]
    omega
  · simp [BR.zero]
theorem strike_cells (M : Nat → Int) (xs : List Int) (i j m n : Nat) (hM : ∀ k, M k = xs.getD k 0) (hl : xs.length = n + 1) (hn : n ≤ 6) (hi : i < n + 1) :
    (([0, 1, 2, 3, 4, 5].take n).map fun k => (rowM ((fun k l => (M (sk k i)).toNat.testBit (sk l j) : Nat → Nat → Bool) k) m : Int)) = strikeL xs i j m :=
  cells_n n _ _ (by rw [strikeL_len _ _ _ _ (by omega)]; omega) hn (fun k hk => by
    simp only [hM]
    show skv (xs.getD (sk k i) 0) j m = _
    have e : (xs.eraseIdx i)[k]? = xs[sk k i]? := by
      rw [List.getElem?_eraseIdx]
      unfold sk
      split <;> rfl
    have hs : sk k i < xs.length := by unfold sk; split <;> omega
    rw [List.getD_eq_getElem?_getD, List.getD_eq_getElem?_getD, strikeL, List.getElem?_map, e]
    simp [hs])

theorem gridOf_good (r c : Int) (a : Option Addr) (cap : Nat) (xs : List Int) (w : World) (hx : xs.length ≤ 1048576) (hr : Reads w a xs.length xs) (hg : goodB r c xs = true) :
    ∃ M : Nat → Int, (∀ k, M k = xs.getD k 0) ∧ Calls Try.prog 83 #[.agg #[.int .i64 r, .int .i64 c, .slice a xs.length cap]] w
      fun e w' => e = .returned (.tuple #[gv r c M, .bool true]) ∧ Below w.heap.size w w' :=
  ⟨_, fun _ => rfl, gridOf_yes r c a cap xs w hx hr hg⟩


end Go.Proofs.Ytaipcmplpjkebaa
end

section
namespace Go.Proofs.Ytaipcmplpjkebaa
open Go.RowKit Go.WideShapes

def rowC (xs : List Int) (a j : Nat) : List (List Int) := ((List.range j).filter (fun b => (xs.getD a 0).toNat.testBit b)).map (fun (b : Nat) => [(a : Int), (b : Int)])
def cellsU (xs : List Int) (m i j : Nat) : List (List Int) := (List.range i).flatMap (fun a => rowC xs a m) ++ rowC xs i j
def cellsL (xs : List Int) (n m : Nat) : List (List Int) := cellsU xs m n 0
theorem cellsU_zero (xs : List Int) (m : Nat) : cellsU xs m 0 0 = [] := by simp [cellsU, rowC]
theorem cellsU_yes (xs : List Int) (m i j : Nat) (h : (xs.getD i 0).toNat.testBit j = true) : cellsU xs m i j ++ [[(i : Int), (j : Int)]] = cellsU xs m i (j + 1) := by
  unfold cellsU rowC
  rw [List.append_assoc, List.range_succ, List.filter_append, List.map_append]
  simp only [List.getD_eq_getElem?_getD] at h
  simp [h]
theorem cellsU_no (xs : List Int) (m i j : Nat) (h : (xs.getD i 0).toNat.testBit j = false) : cellsU xs m i (j + 1) = cellsU xs m i j := by
  unfold cellsU rowC
  rw [List.range_succ, List.filter_append, List.map_append]
  simp only [List.getD_eq_getElem?_getD] at h
  simp [h]
theorem cellsU_row (xs : List Int) (m i : Nat) : cellsU xs m i m = cellsU xs m (i + 1) 0 := by
  unfold cellsU
  rw [List.range_succ, List.flatMap_append]
  simp [rowC]
theorem rowC_len (xs : List Int) (a j : Nat) : (rowC xs a j).length ≤ j := by
  unfold rowC
  rw [List.length_map]
  exact Nat.le_trans (List.length_filter_le _ _) (by simp)
theorem flat_len (xs : List Int) (m i : Nat) : ((List.range i).flatMap (fun a => rowC xs a m)).length ≤ i * m := by
  induction i with
  | zero => simp
  | succ i ih =>
    have e : ([i].flatMap (fun a => rowC xs a m)) = rowC xs i m := by simp
    rw [List.range_succ, List.flatMap_append, List.length_append, Nat.succ_mul, e]
    have := rowC_len xs i m
    omega
theorem cellsU_len (xs : List Int) (m i j : Nat) (hi : i ≤ 6) (hm : m ≤ 6) (hj : j ≤ 6) : (cellsU xs m i j).length ≤ 42 := by
  unfold cellsU
  rw [List.length_append]
  have h1 := flat_len xs m i
  have h2 := rowC_len xs i j
  have h3 : i * m ≤ 6 * 6 := Nat.mul_le_mul hi hm
  omega

/-- A row of two numbers that has just been laid. -/
theorem own_two (w : World) (x y : Int) : Own (w.alloc (.cells #[.int .i64 x, .int .i64 y] 3)) w.heap.size (.slice (some ⟨w.heap.size, 0, none⟩) 2 2) [x, y] :=
  own_of_has (n := 2) (xs := [x, y]) (Has.new w [.int .i64 x, .int .i64 y] 3) (Nat.le_refl _) rfl (by unfold maxLen; omega)


end Go.Proofs.Ytaipcmplpjkebaa
end

section
namespace Go.Proofs.Ytaipcmplpjkebaa
open Go.RowKit Go.WideShapes


def sumP (M : Nat → Int) : Nat → Int
  | 0 => 0
  | k + 1 => sumP M k + pop (M k)
theorem sumP_bd (M : Nat → Int) (k : Nat) : 0 ≤ sumP M k ∧ sumP M k ≤ 6 * k := by
  induction k with
  | zero => simp [sumP]
  | succ k ih =>
    have := pop_bd (M k)
    rw [sumP]
    omega

set_option maxHeartbeats 1600000 in
theorem count_any (r c : Int) (M : Nat → Int) (w : World) (hM : ∀ k, k < 6 → 0 ≤ M k ∧ M k < 64) :
    Calls Try.prog 98 #[gv r c M] w fun e w' => e = .returned (.int .i64 (sumP M 6)) ∧ Below w.heap.size w w' := by
  have HB := Lib.hid (below_new (w := w) (.cells (gl r c M).toArray 67))
  go_enter Try.func98, Try.ntmps98
  go_wp2_with fail
  go_loop [3, 8] (fun s i => ∃ k : Nat, k ≤ 6 ∧ i = .int .i64 k ∧ s = .int .i64 (sumP M k)) (fun _ i => 6 - (intOf i).toNat)
  case atStart => exact ⟨0, by omega, rfl, rfl⟩
  case round =>
    obtain ⟨k, hk, rfl, rfl⟩ := hrel
    by_cases hlt : k < 6
    · have ix := ix6 M k hlt
      obtain ⟨h0, h1⟩ := hM k hlt
      have hs := sumP_bd M k
      have hp := pop_bd (M k)
      have HS := Lib.hid (show sumP M (k + 1) = sumP M k + pop (M k) from rfl)
      obtain ⟨y, hy⟩ := Int.eq_ofNat_of_zero_le h0
      rw [hy] at ix hp HS h1
      have hyl : y < 64 := by omega
      clear hy h0
      generalize sumP M k = t at *
      go_wp2_with fail
      refine (ones_any y _ hyl).mono ?_
      rintro e w' ⟨rfl, rfl⟩
      generalize pop y = z at *
      go_wp2_with fail
      go_round
      case rel => exact ⟨k + 1, by omega, by go_num, by rw [HS.out]⟩
      case measure => simp [intOf]; omega
    · obtain rfl : k = 6 := by omega
      go_wp2_with fail
      go_ret
      exact ⟨rfl, HB.out⟩

def countB (r c : Int) (xs : List Int) : R1 := if goodB r c xs then ⟨((cellsL xs r.toNat c.toNat).length : Int), true⟩ else ⟨0, false⟩
theorem rowC_pop (xs : List Int) (a m : Nat) (hm : m ≤ 6) (h : 0 ≤ xs.getD a 0 ∧ xs.getD a 0 < pw m) : ((rowC xs a m).length : Int) = pop (xs.getD a 0) := by
  unfold rowC
  rw [List.length_map]
  generalize xs.getD a 0 = x at *
  obtain ⟨n, rfl⟩ := Int.eq_ofNat_of_zero_le h.1
  have key : ∀ m : Fin 7, ∀ n : Fin 64, ((n : Nat) : Int) < pw (m : Nat) → ((((List.range (m : Nat)).filter (fun b => ((n : Nat) : Int).toNat.testBit b)).length : Nat) : Int) = pop ((n : Nat) : Int) := by decide +kernel
  have h6 := (pw_bd (c := (m : Int)) (by omega)).2.1
  exact key ⟨m, by omega⟩ ⟨n, by omega⟩ h.2
theorem flat_pop (xs : List Int) (m i : Nat) (hm : m ≤ 6) (h : ∀ k, k < i → 0 ≤ xs.getD k 0 ∧ xs.getD k 0 < pw m) : ((((List.range i).flatMap (fun a => rowC xs a m)).length : Nat) : Int) = sumP (fun k => xs.getD k 0) i := by
  induction i with
  | zero => simp [sumP]
  | succ i ih =>
    have e : ([i].flatMap (fun a => rowC xs a m)) = rowC xs i m := by simp
    rw [List.range_succ, List.flatMap_append, List.length_append, e, sumP, Int.natCast_add, ih (fun k hk => h k (by omega)), rowC_pop xs i m hm (h i (by omega))]
theorem sumP_zero (xs : List Int) (n k : Nat) (h : xs.length = n) : sumP (fun k => xs.getD k 0) (n + k) = sumP (fun k => xs.getD k 0) n := by
  induction k with
  | zero => rfl
  | succ k ih =>
    rw [← Nat.add_assoc, sumP, ih]
    have : xs.getD (n + k) 0 = 0 := by simp [List.getD, List.getElem?_eq_none (show xs.length ≤ n + k by omega)]
    rw [this]
    have : pop 0 = 0 := by decide +kernel
    omega
theorem count_eq {n m : Nat} {xs : List Int} (h : goodB n m xs = true) : ((cellsL xs n m).length : Int) = sumP (fun k => xs.getD k 0) 6 := by
  obtain ⟨g1, g2, g3, g4⟩ := good_facts h
  have e := sumP_zero xs n (6 - n) (by omega)
  rw [show n + (6 - n) = 6 by omega] at e
  rw [e, cellsL, cellsU, List.length_append, ← flat_pop xs m n (by omega) (fun k hk => g4 k (by omega))]
  simp [rowC]


set_option maxHeartbeats 1600000 in
theorem implCount_any (r c : Int) (xs : List Int) (w : World) (hx : xs.length ≤ 1048576) (lo : Nat) (s : Value) (hO : Own w lo s xs) :
    Calls Try.prog 50 #[.agg #[.int .i64 r, .int .i64 c, s]] w fun e w' => AnsIO (countB r c xs) w e w' := by
  have L0 := (Law.start w).box (.int .i64 r) (.int .i64 c) s 27
  obtain ⟨a, cap, rfl, hr⟩ := hO.reads
  have hr0 := L0.reads hr
  clear hO
  cases hg : goodB r c xs
  · rw [show countB r c xs = ⟨0, false⟩ by simp [countB, hg]]
    go_enter Try.func50, Try.ntmps50
    go_wp2_with fail
    refine (gridOf_no r c a cap xs _ hx hr0 hg).mono ?_
    rintro e w1 ⟨rfl, hb⟩
    have HB := Lib.hid ((L0.kept hb).kept (below_new (.cells #[.int .i64 0, .int .i64 0, .int .i64 0, .int .i64 0, .int .i64 0, .int .i64 0, .int .i64 0, .int .i64 0] 67))).below
    clear L0 hb hg hr0
    go_wp2_with fail
    go_ret2
    exact ⟨rfl, HB.out⟩
  · obtain ⟨g1, g2, _, _⟩ := good_facts hg
    have hgc := good_cell hg
    obtain ⟨n, rfl⟩ := Int.eq_ofNat_of_zero_le (show 0 ≤ r by omega)
    obtain ⟨m, rfl⟩ := Int.eq_ofNat_of_zero_le (show 0 ≤ c by omega)
    rw [show countB n m xs = ⟨((cellsL xs n m).length : Int), true⟩ by simp [countB, hg], count_eq hg]
    obtain ⟨M, hM, hc⟩ := gridOf_good n m a cap xs _ hx hr0 hg
    have HC := Lib.hid hc; clear hc
    have e : (fun k => xs.getD k 0) = M := by funext k; exact (hM k).symm
    rw [e]
    simp only [← hM] at hgc
    clear hM e hg hr0
    go_enter Try.func50, Try.ntmps50
    go_wp2_with fail
    refine HC.out.mono ?_
    rintro e w1 ⟨rfl, hb⟩
    have L1 := (L0.kept hb).kept (below_new (.cells #[.int .i64 n, .int .i64 m, .int .i64 (M 0), .int .i64 (M 1), .int .i64 (M 2), .int .i64 (M 3), .int .i64 (M 4), .int .i64 (M 5)] 67))
    clear L0 hb HC
    go_wp2_with fail
    refine (count_any n m M _ (fun k _ => hgc k)).mono ?_
    rintro e w2 ⟨rfl, hb⟩
    have HB := Lib.hid (L1.kept hb).below
    clear L1 hb
    go_wp2_with fail
    go_ret2
    exact ⟨rfl, HB.out⟩

end Go.Proofs.Ytaipcmplpjkebaa
end
