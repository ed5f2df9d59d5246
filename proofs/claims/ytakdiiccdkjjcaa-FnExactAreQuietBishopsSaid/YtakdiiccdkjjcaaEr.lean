/- Lists of cells on which pieces are quiet: the plain part. No condition. -/
import Derived.Test.YtakdiiccdkjjcaaEq
namespace Go.Proofs.Ytakdiiccdkjjcaa
open Go.RowKit Go.WideShapes

/-- Is this a cell? -/
def cellOk (n m : Int) (P : Nat → Nat → Bool) (x : List Int) : Bool := decide (x.length = 2) && (insB n m (x.getD 0 0) (x.getD 1 0) && P (x.getD 0 0).toNat (x.getD 1 0).toNat)
/-- What is left beside a piece. -/
def leftP (D : Int → Int → Bool) (P : Nat → Nat → Bool) (x0 x1 : Int) : Nat → Nat → Bool := fun i j => P i j && !D ((i : Int) - x0) ((j : Int) - x1)
/-- The program's way. -/
def areQ (D : Int → Int → Bool) (n m : Int) : (Nat → Nat → Bool) → List (List Int) → Bool
  | _, [] => true
  | P, x :: t => cellOk n m P x && areQ D n m (leftP D P (x.getD 0 0) (x.getD 1 0)) t
/-- The specification's way. -/
def farB (D : Int → Int → Bool) (x y : List Int) : Bool := !D (x.getD 0 0 - y.getD 0 0) (x.getD 1 0 - y.getD 1 0)
def specQ (D : Int → Int → Bool) (n m : Int) (P : Nat → Nat → Bool) : List (List Int) → List (List Int) → Bool
  | _, [] => true
  | bf, x :: t => (cellOk n m P x && bf.all (fun y => farB D x y)) && specQ D n m P (bf ++ [x]) t
def leftL (D : Int → Int → Bool) (P : Nat → Nat → Bool) (bf : List (List Int)) : Nat → Nat → Bool := fun i j => P i j && bf.all (fun y => farB D [(i : Int), (j : Int)] y)
theorem leftL_nil (D : Int → Int → Bool) (P : Nat → Nat → Bool) : leftL D P [] = P := by
  funext i j; simp [leftL]
theorem leftL_snoc (D : Int → Int → Bool) (P : Nat → Nat → Bool) (bf : List (List Int)) (x : List Int) : leftL D P (bf ++ [x]) = leftP D (leftL D P bf) (x.getD 0 0) (x.getD 1 0) := by
  funext i j
  unfold leftL leftP
  rw [List.all_append, Bool.and_assoc]
  simp [farB]
theorem cellOk_left (D : Int → Int → Bool) (n m : Int) (P : Nat → Nat → Bool) (bf : List (List Int)) (x : List Int) : cellOk n m (leftL D P bf) x = (cellOk n m P x && bf.all (fun y => farB D x y)) := by
  unfold cellOk
  by_cases h2 : x.length = 2
  · by_cases hi : insB n m (x.getD 0 0) (x.getD 1 0) = true
    · obtain ⟨h1, _, h3, _⟩ := insB_iff.1 hi
      rw [hi]
      simp only [h2, decide_true, Bool.true_and]
      unfold leftL
      congr 1
      congr 1
      funext y
      unfold farB
      simp only [List.getD_cons_zero, List.getD_cons_succ]
      rw [Int.toNat_of_nonneg h1, Int.toNat_of_nonneg h3]
    · have hi' : insB n m (x.getD 0 0) (x.getD 1 0) = false := by simpa using hi
      rw [hi']; simp
  · simp [h2]
theorem areQ_spec (D : Int → Int → Bool) (n m : Int) (P : Nat → Nat → Bool) (t : List (List Int)) : ∀ bf, areQ D n m (leftL D P bf) t = specQ D n m P bf t := by
  induction t with
  | nil => intro bf; rfl
  | cons x t ih =>
    intro bf
    rw [areQ, specQ, cellOk_left, ← leftL_snoc, ih]
theorem areQ_all (D : Int → Int → Bool) (n m : Int) (P : Nat → Nat → Bool) (t : List (List Int)) : areQ D n m P t = specQ D n m P [] t := by
  rw [← areQ_spec, leftL_nil]
/-- Not more cells than there are. -/
theorem areQ_len (D : Int → Int → Bool) (hD : D 0 0 = true) (n m : Nat) (t : List (List Int)) : ∀ P, areQ D n m P t = true → t.length ≤ (pcL P n m).length := by
  induction t with
  | nil => intro P _; exact Nat.zero_le _
  | cons x t ih =>
    intro P h
    rw [areQ, Bool.and_eq_true] at h
    obtain ⟨h1, h2⟩ := h
    unfold cellOk at h1
    simp only [Bool.and_eq_true, decide_eq_true_eq] at h1
    obtain ⟨h3, h4, h5⟩ := h1
    obtain ⟨q1, q2, q3, q4⟩ := insB_iff.1 h4
    have hl := ih _ h2
    have e : pcL (leftP D P (x.getD 0 0) (x.getD 1 0)) n m = (pcL P n m).filter (fun y => !D ((y.1 : Int) - x.getD 0 0) ((y.2 : Int) - x.getD 1 0)) :=
      pcL_filter P (fun y => !D ((y.1 : Int) - x.getD 0 0) ((y.2 : Int) - x.getD 1 0)) n m
    have hm : ((x.getD 0 0).toNat, (x.getD 1 0).toNat) ∈ pcL P n m := (pcL_mem P n m _).2 ⟨by omega, by omega, h5⟩
    have : ((pcL P n m).filter (fun y => !D ((y.1 : Int) - x.getD 0 0) ((y.2 : Int) - x.getD 1 0))).length < (pcL P n m).length := by
      rw [List.length_filter_lt_length_iff_exists]
      refine ⟨_, hm, ?_⟩
      simp only [Int.toNat_of_nonneg q1, Int.toNat_of_nonneg q3, Int.sub_self, hD]
      decide
    rw [e] at hl
    rw [List.length_cons]
    omega
theorem areQ_long (D : Int → Int → Bool) (hD : D 0 0 = true) (n m : Nat) (hn : n ≤ 6) (hm : m ≤ 6) (P : Nat → Nat → Bool) (t : List (List Int)) (h : 36 < t.length) : areQ D n m P t = false := by
  cases e : areQ D n m P t
  · rfl
  · have h1 := areQ_len D hD n m t P e
    have h2 := pcL_len P n m
    have h3 : n * m ≤ 6 * 6 := Nat.mul_le_mul hn hm
    omega
/-- Up to the cell k nothing was found. -/
theorem specQ_take (D : Int → Int → Bool) (n m : Int) (P : Nat → Nat → Bool) (cs : List (List Int)) (k : Nat) (hk : k < cs.length) :
    specQ D n m P (cs.take k) (cs.drop k) = ((cellOk n m P cs[k] && (cs.take k).all (fun y => farB D cs[k] y)) && specQ D n m P (cs.take (k + 1)) (cs.drop (k + 1))) := by
  rw [List.drop_eq_getElem_cons hk, specQ, ← List.take_succ_eq_append_getElem hk]
theorem areQ_drop (D : Int → Int → Bool) (n m : Int) (P : Nat → Nat → Bool) (cs : List (List Int)) (k : Nat) (hk : k < cs.length) :
    areQ D n m P (cs.drop k) = (cellOk n m P cs[k] && areQ D n m (leftP D P (cs[k].getD 0 0) (cs[k].getD 1 0)) (cs.drop (k + 1))) := by
  rw [List.drop_eq_getElem_cons hk, areQ]

/-- The moves. -/
def bD (d r : Int) : Bool := d == r || d == -r
def kD (d r : Int) : Bool := decide (-1 ≤ d) && (decide (d ≤ 1) && (decide (-1 ≤ r) && decide (r ≤ 1)))
def absI (x : Int) : Int := if x > -x then x else -x
theorem bD_abs (d r : Int) : (absI d == absI r) = bD d r := by
  unfold absI bD
  rw [Bool.eq_iff_iff]
  simp only [Bool.or_eq_true, beq_iff_eq]
  split <;> split <;> omega
theorem kD_abs (d r : Int) : (decide (absI d ≤ 1) && decide (absI r ≤ 1)) = kD d r := by
  unfold absI kD
  rw [Bool.eq_iff_iff]
  simp only [Bool.and_eq_true, decide_eq_true_eq]
  split <;> split <;> omega

end Go.Proofs.Ytakdiiccdkjjcaa
