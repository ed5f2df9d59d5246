/- The cells of a board, in the specification. No condition but the sizes. -/
import Derived.Test.YtddmommamcgelabM
import Derived.Test.YtddmommamcgelabZ
namespace Go.Proofs.Ytddmommamcgelab
open Go.RowKit Go.WideShapes

def rowC (xs : List Int) (a j : Nat) : List (List Int) := ((List.range j).filter (fun b => (xs.getD a 0).toNat.testBit b)).map (fun (b : Nat) => [(a : Int), (b : Int)])
def cellsU (xs : List Int) (m i j : Nat) : List (List Int) := (List.range i).flatMap (fun a => rowC xs a m) ++ rowC xs i j
def cellsL (xs : List Int) (n m : Nat) : List (List Int) := cellsU xs m n 0
theorem cellsU_zero (xs : List Int) (m : Nat) : cellsU xs m 0 0 = [] := by simp [cellsU, rowC]
theorem cellsU_yes (xs : List Int) (m i j : Nat) (h : (xs.getD i 0).toNat.testBit j = true) : cellsU xs m i j ++ [[(i : Int), (j : Int)]] = cellsU xs m i (j + 1) := by
  unfold cellsU rowC
  rw [List.append_assoc, List.range_succ, List.filter_append, List.map_append]
  simp only [List.getD_eq_getElem?_getD] at h
  simp [h]
theorem cellsU_no (xs : List Int) (m i j : Nat) (h : (xs.getD i 0).toNat.testBit j = false) : cellsU xs m i (j + 1) = cellsU xs m i j := by
  unfold cellsU rowC
  rw [List.range_succ, List.filter_append, List.map_append]
  simp only [List.getD_eq_getElem?_getD] at h
  simp [h]
theorem cellsU_row (xs : List Int) (m i : Nat) : cellsU xs m i m = cellsU xs m (i + 1) 0 := by
  unfold cellsU
  rw [List.range_succ, List.flatMap_append]
  simp [rowC]
theorem rowC_len (xs : List Int) (a j : Nat) : (rowC xs a j).length ≤ j := by
  unfold rowC
  rw [List.length_map]
  exact Nat.le_trans (List.length_filter_le _ _) (by simp)
theorem flat_len (xs : List Int) (m i : Nat) : ((List.range i).flatMap (fun a => rowC xs a m)).length ≤ i * m := by
  induction i with
  | zero => simp
  | succ i ih =>
    have e : ([i].flatMap (fun a => rowC xs a m)) = rowC xs i m := by simp
    rw [List.range_succ, List.flatMap_append, List.length_append, Nat.succ_mul, e]
    have := rowC_len xs i m
    omega
theorem cellsU_len (xs : List Int) (m i j : Nat) (hi : i ≤ 6) (hm : m ≤ 6) (hj : j ≤ 6) : (cellsU xs m i j).length ≤ 42 := by
  unfold cellsU
  rw [List.length_append]
  have h1 := flat_len xs m i
  have h2 := rowC_len xs i j
  have h3 : i * m ≤ 6 * 6 := Nat.mul_le_mul hi hm
  omega

/-- A row of two numbers that has just been laid. -/
theorem own_two (w : World) (x y : Int) : Own (w.alloc (.cells #[.int .i64 x, .int .i64 y] 3)) w.heap.size (.slice (some ⟨w.heap.size, 0, none⟩) 2 2) [x, y] :=
  own_of_has (n := 2) (xs := [x, y]) (Has.new w [.int .i64 x, .int .i64 y] 3) (Nat.le_refl _) rfl (by unfold maxLen; omega)


end Go.Proofs.Ytddmommamcgelab
