/- Rook numbers, the most rooks, permanents: both texts. No condition but the sizes. -/
import Derived.Test.YtakdiiccdkjjcaaRb
import Derived.Test.YtakdiiccdkjjcaaRd
namespace Go.Proofs.Ytakdiiccdkjjcaa
open Go.RowKit Go.WideShapes

/-- The rook numbers. -/
def numL (n m : Nat) (B : Nat → Nat → Bool) : List Int := lstL (min n m + 1) (wR m B n 0 0)
theorem numL_len (n m : Nat) (B : Nat → Nat → Bool) : (numL n m B).length = min n m + 1 := lstL_len _ _
theorem numL_get (n m : Nat) (B : Nat → Nat → Bool) (k : Nat) (h : k < min n m + 1) : (numL n m B).getD k 0 = wR m B n 0 0 k := lstL_get _ _ k h
theorem numL_bd (n m : Nat) (hn : n ≤ 6) (hm : m ≤ 6) (B : Nat → Nat → Bool) (k : Nat) : 0 ≤ (numL n m B).getD k 0 ∧ (numL n m B).getD k 0 ≤ 117649 := by
  by_cases h : k < min n m + 1
  · rw [numL_get n m B k h]
    have := wR_le m hm B n 0 0 k
    have := pow7 n hn
    omega
  · rw [List.getD_eq_getElem?_getD, List.getElem?_eq_none (by rw [numL_len]; omega)]
    simp
/-- The beginning of a list up to its last number that is not 0. -/
def shK (xs : List Int) : Nat → Nat
  | 0 => 0
  | k + 1 => if xs.getD k 0 = 0 then shK xs k else k + 1
theorem shK_le (xs : List Int) (k : Nat) : shK xs k ≤ k := by
  induction k with
  | zero => simp [shK]
  | succ k ih => rw [shK]; split <;> omega

set_option maxRecDepth 100000 in
theorem roNumbers_any (n m : Nat) (xs : List Int) (w : World) (hx : xs.length ≤ 1048576) (hn : n ≤ 6) (hm : m ≤ 6) (hlen : xs.length = n) (hgc : ∀ k, 0 ≤ xs.getD k 0 ∧ xs.getD k 0 < 64) (lo : Nat) (s : Value) (hO : Own w lo s xs) :
    Calls Try.prog 107 #[.agg #[.int .i64 n, .int .i64 m, s]] w fun e w' => ∃ g p, e = .returned (.slice (some ⟨g, 0, none⟩) (min n m + 1) p) ∧ Own w' w.heap.size (.slice (some ⟨g, 0, none⟩) (min n m + 1) p) (numL n m (bt xs)) ∧ Below w.heap.size w w' := by
  have L0 := (Law.start w).box (.int .i64 n) (.int .i64 m) s 28
  have hc := roWays_any n m xs hx hn hm hlen hgc n 0 0 (by omega) (by omega) _ lo s (hO.kept L0.below)
  rw [show ((0 : Nat) : Int) = 0 from rfl] at hc
  have HC := Lib.hid hc
  clear hc hlen hgc
  have ⟨_, k0, k1, k2, _⟩ := L0.ownBox
  have HB := Lib.hid L0.below
  obtain ⟨a, cap, rfl, _⟩ := hO.reads
  clear L0 hO
  go_enter Try.func107, Try.ntmps107
  go_wp2_with fail
  refine HC.out.mono ?_
  rintro e w1 ⟨g, p, rfl, hO, hb⟩
  have HO := Lib.hid (hO.lower HB.out.size)
  have HB2 := Lib.hid (below_on HB.out hb)
  clear HB HC hO hb k0 k1 k2
  go_wp2_with fail
  go_ret
  exact ⟨_, _, rfl, HO.out, HB2.out⟩

def numB (r c : Int) (xs : List Int) : LR := if goodB r c xs then ⟨numL r.toNat c.toNat (bt xs), true⟩ else ⟨[], false⟩
theorem numB_len (r c : Int) (xs : List Int) : (numB r c xs).ys.length ≤ 1048576 := by
  unfold numB
  split
  · rename_i h
    have := good_facts h
    show (numL _ _ _).length ≤ _
    rw [numL_len]
    omega
  · simp


end Go.Proofs.Ytakdiiccdkjjcaa
