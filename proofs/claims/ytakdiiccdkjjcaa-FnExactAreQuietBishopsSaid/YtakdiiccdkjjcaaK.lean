/- How many cells a board has, in both texts. No condition but the sizes. -/
import Derived.Test.YtakdiiccdkjjcaaN
import Derived.Test.YtakdiiccdkjjcaaI

namespace Go.Proofs.Ytakdiiccdkjjcaa
open Go.RowKit Go.WideShapes


def sumP (M : Nat → Int) : Nat → Int
  | 0 => 0
  | k + 1 => sumP M k + pop (M k)
theorem sumP_bd (M : Nat → Int) (k : Nat) : 0 ≤ sumP M k ∧ sumP M k ≤ 6 * k := by
  induction k with
  | zero => simp [sumP]
  | succ k ih =>
    have := pop_bd (M k)
    rw [sumP]
    omega

set_option maxHeartbeats 1600000 in
theorem count_any (r c : Int) (M : Nat → Int) (w : World) (hM : ∀ k, k < 6 → 0 ≤ M k ∧ M k < 64) :
    Calls Try.prog 114 #[gv r c M] w fun e w' => e = .returned (.int .i64 (sumP M 6)) ∧ Below w.heap.size w w' := by
  have HB := Lib.hid (below_new (w := w) (.cells (gl r c M).toArray 66))
  go_enter Try.func114, Try.ntmps114
  go_wp2_with fail
  go_loop [3, 8] (fun s i => ∃ k : Nat, k ≤ 6 ∧ i = .int .i64 k ∧ s = .int .i64 (sumP M k)) (fun _ i => 6 - (intOf i).toNat)
  case atStart => exact ⟨0, by omega, rfl, rfl⟩
  case round =>
    obtain ⟨k, hk, rfl, rfl⟩ := hrel
    by_cases hlt : k < 6
    · have ix := ix6 M k hlt
      obtain ⟨h0, h1⟩ := hM k hlt
      have hs := sumP_bd M k
      have hp := pop_bd (M k)
      have HS := Lib.hid (show sumP M (k + 1) = sumP M k + pop (M k) from rfl)
      obtain ⟨y, hy⟩ := Int.eq_ofNat_of_zero_le h0
      rw [hy] at ix hp HS h1
      have hyl : y < 64 := by omega
      clear hy h0
      generalize sumP M k = t at *
      go_wp2_with fail
      refine (ones_any y _ hyl).mono ?_
      rintro e w' ⟨rfl, rfl⟩
      generalize pop y = z at *
      go_wp2_with fail
      go_round
      case rel => exact ⟨k + 1, by omega, by go_num, by rw [HS.out]⟩
      case measure => simp [intOf]; omega
    · obtain rfl : k = 6 := by omega
      go_wp2_with fail
      go_ret
      exact ⟨rfl, HB.out⟩

def countB (r c : Int) (xs : List Int) : R1 := if goodB r c xs then ⟨((cellsL xs r.toNat c.toNat).length : Int), true⟩ else ⟨0, false⟩
theorem rowC_pop (xs : List Int) (a m : Nat) (hm : m ≤ 6) (h : 0 ≤ xs.getD a 0 ∧ xs.getD a 0 < pw m) : ((rowC xs a m).length : Int) = pop (xs.getD a 0) := by
  unfold rowC
  rw [List.length_map]
  generalize xs.getD a 0 = x at *
  obtain ⟨n, rfl⟩ := Int.eq_ofNat_of_zero_le h.1
  have key : ∀ m : Fin 7, ∀ n : Fin 64, ((n : Nat) : Int) < pw (m : Nat) → ((((List.range (m : Nat)).filter (fun b => ((n : Nat) : Int).toNat.testBit b)).length : Nat) : Int) = pop ((n : Nat) : Int) := by decide +kernel
  have h6 := (pw_bd (c := (m : Int)) (by omega)).2.1
  exact key ⟨m, by omega⟩ ⟨n, by omega⟩ h.2
theorem flat_pop (xs : List Int) (m i : Nat) (hm : m ≤ 6) (h : ∀ k, k < i → 0 ≤ xs.getD k 0 ∧ xs.getD k 0 < pw m) : ((((List.range i).flatMap (fun a => rowC xs a m)).length : Nat) : Int) = sumP (fun k => xs.getD k 0) i := by
  induction i with
  | zero => simp [sumP]
  | succ i ih =>
    have e : ([i].flatMap (fun a => rowC xs a m)) = rowC xs i m := by simp
    rw [List.range_succ, List.flatMap_append, List.length_append, e, sumP, Int.natCast_add, ih (fun k hk => h k (by omega)), rowC_pop xs i m hm (h i (by omega))]
theorem sumP_zero (xs : List Int) (n k : Nat) (h : xs.length = n) : sumP (fun k => xs.getD k 0) (n + k) = sumP (fun k => xs.getD k 0) n := by
  induction k with
  | zero => rfl
  | succ k ih =>
    rw [← Nat.add_assoc, sumP, ih]
    have : xs.getD (n + k) 0 = 0 := by simp [List.getD, List.getElem?_eq_none (show xs.length ≤ n + k by omega)]
    rw [this]
    have : pop 0 = 0 := by decide +kernel
    omega
theorem count_eq {n m : Nat} {xs : List Int} (h : goodB n m xs = true) : ((cellsL xs n m).length : Int) = sumP (fun k => xs.getD k 0) 6 := by
  obtain ⟨g1, g2, g3, g4⟩ := good_facts h
  have e := sumP_zero xs n (6 - n) (by omega)
  rw [show n + (6 - n) = 6 by omega] at e
  rw [e, cellsL, cellsU, List.length_append, ← flat_pop xs m n (by omega) (fun k hk => g4 k (by omega))]
  simp [rowC]



end Go.Proofs.Ytakdiiccdkjjcaa
