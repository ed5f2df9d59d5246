/- Kings row by row: the plain part. No condition. -/
import Derived.Test.YtakdiiccdkjjcabKd
import Derived.Test.YtakdiiccdkjjcabFm
namespace Go.Proofs.Ytakdiiccdkjjcab
open Go.RowKit Go.WideShapes

/-- A set of columns beside the set S, or in it. -/
def nearN (S : Nat) : Nat := S ||| (S <<< 1) ||| (S >>> 1)
def apartB (T S : Nat) : Bool := (T &&& nearN S) == 0
/-- May the kings of a row stand so? -/
def kRow (S mask : Nat) : Bool := (S &&& mask == S) && (S &&& (S <<< 1)) == 0
/-- How many columns. -/
def popK (S : Nat) : Nat := (if S.testBit 0 then 1 else 0) + (if S.testBit 1 then 1 else 0) + (if S.testBit 2 then 1 else 0) + (if S.testBit 3 then 1 else 0) + (if S.testBit 4 then 1 else 0) + (if S.testBit 5 then 1 else 0)
theorem popK_le (S : Nat) : popK S ≤ 6 := by
  unfold popK
  have h : ∀ b : Bool, (if b = true then 1 else 0) ≤ 1 := fun b => by cases b <;> decide
  have := h (S.testBit 0); have := h (S.testBit 1); have := h (S.testBit 2); have := h (S.testBit 3); have := h (S.testBit 4); have := h (S.testBit 5)
  omega

/-- The lists of the sets apart from S, of the first t sets. -/
def apL (W : Nat → List Int) (S t : Nat) : List (List Int) := ((List.range t).filter (fun T => apartB T S)).map W
theorem apL_zero (W : Nat → List Int) (S : Nat) : apL W S 0 = [] := rfl
theorem apL_yes (W : Nat → List Int) (S t : Nat) (h : apartB t S = true) : apL W S t ++ [W t] = apL W S (t + 1) := by
  unfold apL
  rw [List.range_succ, List.filter_append, List.map_append]
  simp [h]
theorem apL_no (W : Nat → List Int) (S t : Nat) (h : apartB t S = false) : apL W S (t + 1) = apL W S t := by
  unfold apL
  rw [List.range_succ, List.filter_append, List.map_append]
  simp [h]
theorem apL_len (W : Nat → List Int) (S t : Nat) : (apL W S t).length ≤ t := by
  unfold apL
  rw [List.length_map]
  exact Nat.le_trans (List.length_filter_le _ _) (by simp)

/-- The king numbers behind i rows, the last one with the set S. -/
def kw (M : Nat → Int) (m : Nat) : Nat → Nat → List Int
  | 0, S => if S = 0 then [1] else []
  | i + 1, S => if kRow S (M i).toNat then upL (popK S) (sumR (apL (kw M m i) S (2 ^ m))) else []
def kingL (M : Nat → Int) (n m : Nat) : List Int := sumR ((List.range (2 ^ m)).map (kw M m n))

/-- Numbers from 0 up to a bound. -/
def UpTo (B : Int) (xs : List Int) : Prop := ∀ e, 0 ≤ xs.getD e 0 ∧ xs.getD e 0 ≤ B
theorem upTo_nil {B : Int} (h : 0 ≤ B) : UpTo B [] := fun e => by simp; exact h
theorem upTo_up {B : Int} {xs : List Int} (h : UpTo B xs) (s : Nat) (h0 : 0 ≤ B) : UpTo B (upL s xs) := fun e => by
  rw [upL_get]
  split
  · exact ⟨Int.le_refl _, h0⟩
  · exact h _
theorem upTo_add {A B : Int} {xs ys : List Int} (h : UpTo A xs) (k : UpTo B ys) : UpTo (A + B) (addL xs ys) := fun e => by
  rw [addL_get]
  have := h e
  have := k e
  omega
theorem upTo_sum {B : Int} (rss : List (List Int)) (h : ∀ r ∈ rss, UpTo B r) : UpTo (rss.length * B) (sumR rss) := by
  have key : ∀ k, k ≤ rss.length → UpTo (k * B) (sumR (rss.take k)) := by
    intro k
    induction k with
    | zero => intro _; simp [sumR]; exact upTo_nil (Int.le_refl _)
    | succ k ih =>
      intro hk
      rw [sumR_take rss k (by omega)]
      have := upTo_add (ih (by omega)) (h rss[k] (List.getElem_mem _))
      rw [show ((k + 1 : Nat) : Int) * B = (k : Int) * B + B by push_cast; rw [Int.add_mul, Int.one_mul]]
      exact this
  have := key rss.length (Nat.le_refl _)
  rwa [List.take_length] at this
theorem upTo_mono {A B : Int} {xs : List Int} (h : UpTo A xs) (hl : A ≤ B) : UpTo B xs := fun e => ⟨(h e).1, Int.le_trans (h e).2 hl⟩
theorem sumR_le (rss : List (List Int)) (L : Nat) (h : ∀ r ∈ rss, r.length ≤ L) : (sumR rss).length ≤ L := by
  have key : ∀ k, k ≤ rss.length → (sumR (rss.take k)).length ≤ L := by
    intro k
    induction k with
    | zero => intro _; simp [sumR]
    | succ k ih =>
      intro hk
      rw [sumR_len rss k (by omega)]
      have := ih (by omega)
      have := h rss[k] (List.getElem_mem _)
      omega
  have := key rss.length (Nat.le_refl _)
  rwa [List.take_length] at this

/-- Bounds for the sums behind i rows. -/
def bdK : Nat → Int
  | 0 => 1
  | i + 1 => 64 * bdK i
theorem bdK_pos (i : Nat) : 0 ≤ bdK i := by
  induction i with
  | zero => decide
  | succ i ih => rw [bdK]; omega
theorem bdK_le (i : Nat) (h : i ≤ 6) : bdK i ≤ 68719476736 := by
  have key : ∀ i : Fin 7, bdK i ≤ 68719476736 := by decide
  exact key ⟨i, by omega⟩
theorem two_le (m : Nat) (h : m ≤ 6) : 2 ^ m ≤ 64 := by
  have key : ∀ m : Fin 7, 2 ^ m.val ≤ 64 := by decide
  exact key ⟨m, by omega⟩
theorem kw_bd (M : Nat → Int) (m : Nat) (hm : m ≤ 6) (i : Nat) : ∀ S, UpTo (bdK i) (kw M m i S) := by
  induction i with
  | zero =>
    intro S
    rw [kw]
    split
    · intro e
      match e with
      | 0 => simp [bdK]
      | e + 1 => simp [bdK]
    · exact upTo_nil (by decide)
  | succ i ih =>
    intro S
    rw [kw]
    split
    · refine upTo_up ?_ _ (bdK_pos _)
      refine upTo_mono (upTo_sum (B := bdK i) _ (fun r hr => ?_)) ?_
      · obtain ⟨T, _, rfl⟩ := List.mem_map.1 hr
        exact ih T
      · have h1 := apL_len (kw M m i) S (2 ^ m)
        have h2 := two_le m hm
        rw [bdK]
        exact Int.mul_le_mul_of_nonneg_right (by omega) (bdK_pos i)
    · exact upTo_nil (bdK_pos _)
theorem kw_len (M : Nat → Int) (m : Nat) (i : Nat) : ∀ S, (kw M m i S).length ≤ 6 * i + 1 := by
  induction i with
  | zero => intro S; rw [kw]; split <;> simp
  | succ i ih =>
    intro S
    rw [kw]
    split
    · have h1 := sumR_le (apL (kw M m i) S (2 ^ m)) (6 * i + 1) (fun r hr => by
        obtain ⟨T, _, rfl⟩ := List.mem_map.1 hr
        exact ih T)
      have h2 := popK_le S
      rw [upL_len]
      split <;> omega
    · simp
/-- A sum of lists that are apart from a set stays in the numbers of the machine. -/
theorem sum_wrap (rss : List (List Int)) (B : Int) (hB : 0 ≤ B) (hb : B ≤ 68719476736) (hn : rss.length ≤ 64) (h : ∀ r ∈ rss, UpTo B r) (k : Nat) (hk : k < rss.length) (e : Nat) :
    IntKind.i64.wrap ((sumR (rss.take k)).getD e 0 + rss[k].getD e 0) = (sumR (rss.take k)).getD e 0 + rss[k].getD e 0 := by
  have h1 := upTo_sum (B := B) (rss.take k) (fun r hr => h r (List.mem_of_mem_take hr)) e
  have h2 := h rss[k] (List.getElem_mem _) e
  have h3 : ((rss.take k).length : Int) * B ≤ 64 * 68719476736 := by
    refine Int.le_trans (Int.mul_le_mul_of_nonneg_right (show ((rss.take k).length : Int) ≤ 64 by rw [List.length_take]; omega) hB) ?_
    exact Int.mul_le_mul_of_nonneg_left hb (by decide)
  exact IntWalk.i64_in _ (by omega)
theorem apL_wrap (M : Nat → Int) (m : Nat) (hm : m ≤ 6) (i S : Nat) (hi : i ≤ 6) (k : Nat) (hk : k < (apL (kw M m i) S (2 ^ m)).length) (e : Nat) :
    IntKind.i64.wrap ((sumR ((apL (kw M m i) S (2 ^ m)).take k)).getD e 0 + (apL (kw M m i) S (2 ^ m))[k].getD e 0) = (sumR ((apL (kw M m i) S (2 ^ m)).take k)).getD e 0 + (apL (kw M m i) S (2 ^ m))[k].getD e 0 := by
  refine sum_wrap _ (bdK i) (bdK_pos i) (bdK_le i hi) ?_ (fun r hr => ?_) k hk e
  · have := apL_len (kw M m i) S (2 ^ m)
    have := two_le m hm
    omega
  · obtain ⟨T, _, rfl⟩ := List.mem_map.1 hr
    exact kw_bd M m hm i T

/-- Sums moved up. -/
theorem up_addL (s : Nat) (a b : List Int) : upL s (addL a b) = addL (upL s a) (upL s b) := by
  have h1 : (upL s (addL a b)).length = (addL (upL s a) (upL s b)).length := by
    rw [addL_len, upL_len, upL_len, upL_len, addL_len]
    by_cases ha : a.length = 0
    · by_cases hb : b.length = 0
      · simp [ha, hb]
      · simp [ha, hb]
    · by_cases hb : b.length = 0
      · simp [ha, hb]
      · rw [if_neg ha, if_neg hb, if_neg (by omega)]; omega
  have h2 : ∀ k, (upL s (addL a b)).getD k 0 = (addL (upL s a) (upL s b)).getD k 0 := by
    intro k
    rw [addL_get, upL_get, upL_get, upL_get, addL_get]
    split <;> simp
  refine List.ext_getElem h1 fun k hk1 hk2 => ?_
  have := h2 k
  rw [List.getD_eq_getElem?_getD, List.getD_eq_getElem?_getD, List.getElem?_eq_getElem hk1, List.getElem?_eq_getElem hk2] at this
  exact this
theorem up_sum (s : Nat) (rss : List (List Int)) (k : Nat) (h : k < rss.length) : addL (upL s (sumR (rss.take k))) (upL s rss[k]) = upL s (sumR (rss.take (k + 1))) := by
  rw [sumR_take rss k h, up_addL]
/-- In the specification lists are added one by one, each moved up. -/
def upA (W : Nat → List Int) (S s t : Nat) : List Int := upL s (sumR (apL W S t))
theorem upA_zero (W : Nat → List Int) (S s : Nat) : upA W S s 0 = [] := rfl
theorem upA_yes (W : Nat → List Int) (S s t : Nat) (h : apartB t S = true) : addL (upA W S s t) (upL s (W t)) = upA W S s (t + 1) := by
  unfold upA
  rw [← apL_yes W S t h, sumR_snoc, up_addL]
theorem upA_no (W : Nat → List Int) (S s t : Nat) (h : apartB t S = false) : upA W S s (t + 1) = upA W S s t := by
  unfold upA
  rw [apL_no W S t h]
def sumKT (W : Nat → List Int) (t : Nat) : List Int := sumR ((List.range t).map W)
theorem sumKT_zero (W : Nat → List Int) : sumKT W 0 = [] := rfl
theorem sumKT_next (W : Nat → List Int) (t : Nat) : addL (sumKT W t) (W t) = sumKT W (t + 1) := by
  unfold sumKT
  rw [List.range_succ, List.map_append, List.map_cons, List.map_nil, sumR_snoc]

end Go.Proofs.Ytakdiiccdkjjcab
