/- King numbers, in the specification: the plain part. No condition. -/
import Derived.Test.YtakdiiccdkjjcabEl
import Derived.Test.YtakdiiccdkjjcabEv
import Derived.Test.YtakdiiccdkjjcabKe
import Derived.Test.YtakdiiccdkjjcabEm
namespace Go.Proofs.Ytakdiiccdkjjcab
open Go.RowKit Go.WideShapes

set_option maxRecDepth 100000 in
theorem row_bitsN (S T : Nat) (hS : S < 64) (hT : T < 64) : (bits .andNot .i64 (S : Int) (T : Int) != 0) = !(S &&& T == S) := by
  have key : ∀ S T : Fin 64, (bits .andNot .i64 ((S.val : Nat) : Int) ((T.val : Nat) : Int) != 0) = !(S.val &&& T.val == S.val) := by decide +kernel
  exact key ⟨S, hS⟩ ⟨T, hT⟩
theorem side_bitsN (S : Nat) (hS : S < 64) : (bits .and .i64 (S : Int) ((S : Int) * 2) != 0) = !((S &&& (S <<< 1)) == 0) := by
  have key : ∀ S : Fin 64, (bits .and .i64 ((S.val : Nat) : Int) (((S.val : Nat) : Int) * 2) != 0) = !((S.val &&& (S.val <<< 1)) == 0) := by decide +kernel
  exact key ⟨S, hS⟩
/-- How many of the first columns. -/
def popP (S : Nat) : Nat → Nat
  | 0 => 0
  | c + 1 => popP S c + if S.testBit c then 1 else 0
set_option maxRecDepth 100000 in
theorem popP_full (S m : Nat) (hm : m ≤ 6) (h : S < 2 ^ m) : popP S m = popK S := by
  have key : ∀ m : Fin 7, ∀ S : Fin 64, S.val < 2 ^ m.val → popP S m = popK S := by decide +kernel
  have h64 := two_le m hm
  exact key ⟨m, by omega⟩ ⟨S, by omega⟩ h
theorem popP_le (S c : Nat) : popP S c ≤ c := by
  induction c with
  | zero => exact Nat.le_refl _
  | succ c ih => rw [popP]; split <;> omega
theorem bit_num (S c : Nat) (hS : S < 64) (hc : c < 6) : ((S : Int) / 2 ^ c).tmod 2 = ((if S.testBit c then 1 else 0 : Nat) : Int) ∧ ((S : Int) / 2 ^ c) % 2 = ((if S.testBit c then 1 else 0 : Nat) : Int) := by
  have key : ∀ S : Fin 64, ∀ c : Fin 6, (((S.val : Nat) : Int) / 2 ^ c.val).tmod 2 = ((if S.val.testBit c then 1 else 0 : Nat) : Int) ∧ (((S.val : Nat) : Int) / 2 ^ c.val) % 2 = ((if S.val.testBit c then 1 else 0 : Nat) : Int) := by decide +kernel
  exact key ⟨S, hS⟩ ⟨c, hc⟩
theorem upL_zero (xs : List Int) : upL 0 xs = xs := by
  unfold upL
  split
  · rename_i h
    exact (List.eq_nil_of_length_eq_zero h).symm
  · refine Eq.trans ?_ (lstI_self xs)
    rw [Nat.zero_add]
    exact lstI_congr _ _ _ (fun k _ => by simp)

/-- The row of sets, up to the set s. -/
def upQ (M : Nat → Int) (m i s : Nat) : Nat → List Int := fun S => if S < s then kw M m (i + 1) S else []
theorem upQ_zero (M : Nat → Int) (m i N : Nat) : lstR N (fun _ => []) = lstR N (upQ M m i 0) := lstR_congr _ _ _ (fun _ _ => rfl)
theorem upQ_full (M : Nat → Int) (m i N : Nat) : lstR N (upQ M m i N) = lstR N (kw M m (i + 1)) := lstR_congr _ _ _ (fun _ hk => if_pos hk)
theorem upQ_skip (M : Nat → Int) (m i N s : Nat) (h : kRow s (M i).toNat = false) : lstR N (upQ M m i s) = lstR N (upQ M m i (s + 1)) := by
  refine lstR_congr _ _ _ (fun k _ => ?_)
  unfold upQ
  by_cases e : k = s
  · subst e
    rw [if_neg (by omega), if_pos (by omega), kw, h]
    rfl
  · by_cases h2 : k < s
    · rw [if_pos h2, if_pos (by omega)]
    · rw [if_neg h2, if_neg (by omega)]
/-- The row of sets, when of the set s the first t lists have been added. -/
def midK (M : Nat → Int) (m p s t : Nat) : Nat → List Int := fun S => if S < s then kw M m (p + 1) S else if S = s then upA (kw M m p) s (popK s) t else []
theorem midK_start (M : Nat → Int) (m p s N : Nat) : lstR N (upQ M m p s) = lstR N (midK M m p s 0) := by
  refine lstR_congr _ _ _ (fun k _ => ?_)
  unfold upQ midK
  split
  · rfl
  · split
    · rw [upA_zero]
    · rfl
theorem midK_at (M : Nat → Int) (m p s t : Nat) : midK M m p s t s = upA (kw M m p) s (popK s) t := by
  unfold midK
  rw [if_neg (by omega), if_pos rfl]
theorem midK_no (M : Nat → Int) (m p s t N : Nat) (h : apartB t s = false) : lstR N (midK M m p s t) = lstR N (midK M m p s (t + 1)) := by
  refine lstR_congr _ _ _ (fun k _ => ?_)
  unfold midK
  rw [upA_no _ _ _ _ h]
theorem midK_nil (M : Nat → Int) (m p s t N : Nat) (h : apartB t s = true) (h0 : (kw M m p t).length = 0) : lstR N (midK M m p s t) = lstR N (midK M m p s (t + 1)) := by
  refine lstR_congr _ _ _ (fun k _ => ?_)
  unfold midK
  rw [← upA_yes _ _ _ _ h, List.eq_nil_of_length_eq_zero h0, upL_nil, addL_nil]
theorem midK_set (M : Nat → Int) (m p s t N : Nat) (h : apartB t s = true) : (lstR N (midK M m p s t)).set s (addL (upA (kw M m p) s (popK s) t) (upL (popK s) (kw M m p t))) = lstR N (midK M m p s (t + 1)) := by
  refine lstR_set N _ _ s _ ?_ (fun k _ hk => ?_)
  · rw [midK_at, upA_yes _ _ _ _ h]
  · unfold midK
    split
    · rfl
    · rfl
theorem midK_full (M : Nat → Int) (m p s N : Nat) (hN : N = 2 ^ m) (h : kRow s (M p).toNat = true) : lstR N (midK M m p s N) = lstR N (upQ M m p (s + 1)) := by
  refine lstR_congr _ _ _ (fun k _ => ?_)
  unfold midK upQ
  by_cases h1 : k < s
  · rw [if_pos h1, if_pos (by omega)]
  · rw [if_neg h1]
    by_cases h2 : k = s
    · subst h2
      rw [if_pos rfl, if_pos (by omega), kw, h, if_pos rfl, upA, hN]
    · rw [if_neg h2, if_neg (by omega)]
theorem upA_bd (M : Nat → Int) (m : Nat) (hm : m ≤ 6) (p s t : Nat) (hp : p ≤ 6) (ht : t ≤ 64) : UpTo 4398046511104 (upA (kw M m p) s (popK s) t) ∧ (upA (kw M m p) s (popK s) t).length ≤ 100 := by
  have hb : UpTo ((apL (kw M m p) s t).length * bdK p) (sumR (apL (kw M m p) s t)) := upTo_sum (B := bdK p) _ (fun r hr => by
    obtain ⟨T, _, rfl⟩ := List.mem_map.1 hr
    exact kw_bd M m hm p T)
  have hl := sumR_le (apL (kw M m p) s t) (6 * p + 1) (fun r hr => by
    obtain ⟨T, _, rfl⟩ := List.mem_map.1 hr
    exact kw_len M m p T)
  have h1 := apL_len (kw M m p) s t
  have h2 := bdK_le p hp
  refine ⟨upTo_up (upTo_mono hb ?_) _ (by decide), ?_⟩
  · refine Int.le_trans (Int.mul_le_mul_of_nonneg_right (show ((apL (kw M m p) s t).length : Int) ≤ 64 by omega) (bdK_pos p)) ?_
    omega
  · have h3 := popK_le s
    unfold upA
    rw [upL_len]
    split <;> omega
theorem sumKT_bd (M : Nat → Int) (m : Nat) (hm : m ≤ 6) (p t : Nat) (hp : p ≤ 6) (ht : t ≤ 64) : UpTo 4398046511104 (sumKT (kw M m p) t) ∧ (sumKT (kw M m p) t).length ≤ 100 := by
  have hb : UpTo (((List.range t).map (kw M m p)).length * bdK p) (sumKT (kw M m p) t) := upTo_sum (B := bdK p) _ (fun r hr => by
    obtain ⟨T, _, rfl⟩ := List.mem_map.1 hr
    exact kw_bd M m hm p T)
  have hl := sumR_le ((List.range t).map (kw M m p)) (6 * p + 1) (fun r hr => by
    obtain ⟨T, _, rfl⟩ := List.mem_map.1 hr
    exact kw_len M m p T)
  have h2 := bdK_le p hp
  refine ⟨upTo_mono hb ?_, by unfold sumKT; omega⟩
  refine Int.le_trans (Int.mul_le_mul_of_nonneg_right (show (((List.range t).map (kw M m p)).length : Int) ≤ 64 by simp; omega) (bdK_pos p)) ?_
  omega

end Go.Proofs.Ytakdiiccdkjjcab
