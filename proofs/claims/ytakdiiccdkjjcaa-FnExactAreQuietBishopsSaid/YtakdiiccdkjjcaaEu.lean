/- Quiet pieces counted, in the program. No condition but the sizes. -/
import Derived.Test.YtakdiiccdkjjcaaEt
import Derived.Test.YtakdiiccdkjjcaaM3
import Derived.Test.YtakdiiccdkjjcaaEe
namespace Go.Proofs.Ytakdiiccdkjjcaa
open Go.RowKit Go.WideShapes

theorem rowM_tb (p : Nat → Bool) (m b : Nat) : (rowM p m).testBit b = (decide (b < m) && p b) := by
  induction m with
  | zero => simp [rowM]
  | succ m ih =>
    rw [rowM]
    by_cases hp : p m = true
    · rw [if_pos hp, Nat.add_comm, show 2 ^ m = 2 ^ m * 1 by omega]
      by_cases hb : b < m
      · rw [Nat.testBit_two_pow_mul_add 1 (rowM_lt p m), if_pos hb, ih]
        simp [hb, show b < m + 1 by omega]
      · rw [Nat.testBit_two_pow_mul_add 1 (rowM_lt p m), if_neg hb]
        by_cases e : b = m
        · subst e; simp [hp]
        · have : b - m = (b - m - 1) + 1 := by omega
          rw [this, Nat.testBit_succ]
          simp
          omega
    · rw [if_neg hp, Nat.add_zero, ih]
      by_cases e : b = m
      · subst e
        have : p b = false := by simpa using hp
        simp [this]
      · by_cases hb : b < m
        · simp [hb, show b < m + 1 by omega]
        · simp [hb, show ¬ b < m + 1 by omega]
theorem leftM_bd (D : Int → Int → Bool) (n m : Nat) (M : Nat → Int) (r c k : Nat) (hm : m ≤ 6) : 0 ≤ leftM D n m M r c k ∧ leftM D n m M r c k < 64 := by
  unfold leftM drawn
  split
  · exact ⟨by omega, rowM_64 _ _ hm⟩
  · split
    · simp [rowM]
    · decide
theorem left_cells (D : Int → Int → Bool) (n m : Nat) (M : Nat → Int) (r c : Nat) : pcL (fun a b => (leftM D n m M r c a).toNat.testBit b) n m = (pcL (fun a b => (M a).toNat.testBit b) n m).filter (freeB D (r, c)) := by
  rw [← pcL_filter]
  refine pcL_congr _ _ _ _ (fun a b ha hb => ?_)
  unfold leftM drawn
  rw [if_pos ha, Int.toNat_natCast, rowM_tb]
  simp [hb, freeB]
/-- A cell goes away. -/
def clrM (M : Nat → Int) (a b : Nat) : Nat → Int := fun i => if i = a then M a - 2 ^ b else M i
theorem clr_bits (x : Int) (b : Nat) (h : 0 ≤ x ∧ x < 64) (hb : b < 6) (ht : x.toNat.testBit b = true) : bits .andNot .i64 x (wrap64 (2 ^ b)) = x - 2 ^ b ∧ (0 ≤ x - 2 ^ b ∧ x - 2 ^ b < 64) ∧ ∀ c, c < 6 → (x - 2 ^ b).toNat.testBit c = (x.toNat.testBit c && decide (c ≠ b)) := by
  obtain ⟨n, rfl⟩ := Int.eq_ofNat_of_zero_le h.1
  have key : ∀ n : Fin 64, ∀ b : Fin 6, (((n : Nat) : Int)).toNat.testBit b = true → bits .andNot .i64 ((n : Nat) : Int) (wrap64 (2 ^ (b : Nat))) = ((n : Nat) : Int) - 2 ^ (b : Nat) ∧ (0 ≤ ((n : Nat) : Int) - 2 ^ (b : Nat) ∧ ((n : Nat) : Int) - 2 ^ (b : Nat) < 64) ∧ ∀ c : Fin 6, (((n : Nat) : Int) - 2 ^ (b : Nat)).toNat.testBit c = (((n : Nat) : Int).toNat.testBit c && decide ((c : Nat) ≠ (b : Nat))) := by decide +kernel
  obtain ⟨h1, h2, h3⟩ := key ⟨n, by omega⟩ ⟨b, hb⟩ ht
  exact ⟨h1, h2, fun c hc => h3 ⟨c, hc⟩⟩
theorem clr_cells (M : Nat → Int) (n m a b : Nat) (hm : m ≤ 6) (hb : b < 6) (hgc : 0 ≤ M a ∧ M a < 64) (ht : (M a).toNat.testBit b = true) (t : List (Nat × Nat)) (h : pcL (fun a b => (M a).toNat.testBit b) n m = (a, b) :: t) :
    pcL (fun i j => (clrM M a b i).toNat.testBit j) n m = t := by
  rw [← pcL_tail _ n m (a, b) t h]
  refine pcL_congr _ _ _ _ (fun i j hi hj => ?_)
  unfold clrM
  by_cases e : i = a
  · subst e
    rw [if_pos rfl, (clr_bits (M i) b hgc hb ht).2.2 j (by omega)]
    congr 1
    rw [Bool.eq_iff_iff]
    simp
  · rw [if_neg e]
    simp [e]


end Go.Proofs.Ytakdiiccdkjjcaa
