/- Pieces that stand quietly, counted: the plain part. No condition. -/
import Derived.Test.YtakdiiccdkjjcaaN
import Derived.Test.YtakdiiccdkjjcaaRd
namespace Go.Proofs.Ytakdiiccdkjjcaa
open Go.RowKit Go.WideShapes

/-- The cells as pairs, in order. -/
def rwP (P : Nat → Nat → Bool) (m a : Nat) : List (Nat × Nat) := ((List.range m).filter (P a)).map (fun b => (a, b))
def pcL (P : Nat → Nat → Bool) (n m : Nat) : List (Nat × Nat) := (List.range n).flatMap (rwP P m)
def two (y : Nat × Nat) : List Int := [(y.1 : Int), (y.2 : Int)]
theorem pcL_cells (xs : List Int) (n m : Nat) : cellsL xs n m = (pcL (fun a b => (xs.getD a 0).toNat.testBit b) n m).map two := by
  unfold cellsL cellsU pcL
  rw [show rowC xs n 0 = [] from rfl, List.append_nil, List.map_flatMap]
  congr 1
  funext a
  unfold rowC rwP
  rw [List.map_map]
  rfl
theorem rwP_mem (P : Nat → Nat → Bool) (m a : Nat) (y : Nat × Nat) : y ∈ rwP P m a ↔ y.1 = a ∧ y.2 < m ∧ P a y.2 = true := by
  unfold rwP
  rw [List.mem_map]
  constructor
  · rintro ⟨b, hb, rfl⟩
    rw [List.mem_filter, List.mem_range] at hb
    exact ⟨rfl, hb⟩
  · rintro ⟨rfl, h1, h2⟩
    exact ⟨y.2, by rw [List.mem_filter, List.mem_range]; exact ⟨h1, h2⟩, rfl⟩
theorem pcL_mem (P : Nat → Nat → Bool) (n m : Nat) (y : Nat × Nat) : y ∈ pcL P n m ↔ y.1 < n ∧ y.2 < m ∧ P y.1 y.2 = true := by
  unfold pcL
  rw [List.mem_flatMap]
  constructor
  · rintro ⟨a, ha, hy⟩
    obtain ⟨rfl, h⟩ := (rwP_mem P m a y).1 hy
    exact ⟨List.mem_range.1 ha, h⟩
  · rintro ⟨h1, h2⟩
    exact ⟨y.1, List.mem_range.2 h1, (rwP_mem P m y.1 y).2 ⟨rfl, h2⟩⟩
theorem rwP_filter (P : Nat → Nat → Bool) (Q : Nat × Nat → Bool) (m a : Nat) : rwP (fun i j => P i j && Q (i, j)) m a = (rwP P m a).filter Q := by
  unfold rwP
  rw [List.filter_map, List.filter_filter]
  congr 1
  refine List.filter_congr (fun b _ => ?_)
  simp [Bool.and_comm]
theorem pcL_filter (P : Nat → Nat → Bool) (Q : Nat × Nat → Bool) (n m : Nat) : pcL (fun i j => P i j && Q (i, j)) n m = (pcL P n m).filter Q := by
  unfold pcL
  rw [List.filter_flatMap]
  congr 1
  funext a
  exact rwP_filter P Q m a
theorem pcL_congr (P P' : Nat → Nat → Bool) (n m : Nat) (h : ∀ a b, a < n → b < m → P a b = P' a b) : pcL P n m = pcL P' n m := by
  unfold pcL
  have key : ∀ l : List Nat, (∀ a ∈ l, a < n) → l.flatMap (rwP P m) = l.flatMap (rwP P' m) := by
    intro l
    induction l with
    | nil => intro _; rfl
    | cons a l ih =>
      intro hl
      rw [List.flatMap_cons, List.flatMap_cons, ih (fun x hx => hl x (List.mem_cons_of_mem _ hx))]
      congr 1
      unfold rwP
      congr 1
      exact List.filter_congr (fun b hb => h a b (hl a (by simp)) (List.mem_range.1 hb))
  exact key _ (fun a ha => List.mem_range.1 ha)
theorem pcL_nodup (P : Nat → Nat → Bool) (n m : Nat) : (pcL P n m).Nodup := by
  unfold pcL
  induction n with
  | zero => simp
  | succ n ih =>
    rw [List.range_succ, List.flatMap_append, List.nodup_append]
    refine ⟨ih, ?_, ?_⟩
    · simp only [List.flatMap_cons, List.flatMap_nil, List.append_nil]
      unfold rwP
      refine List.Pairwise.map _ (R := fun a b => a ≠ b) (fun a b h e => h (Prod.mk.inj e).2) (List.Pairwise.filter _ List.nodup_range)
    · intro a ha b hb e
      subst e
      obtain ⟨x, hx, h1⟩ := List.mem_flatMap.1 ha
      simp only [List.flatMap_cons, List.flatMap_nil, List.append_nil] at hb
      have := ((rwP_mem P m x a).1 h1).1
      have := ((rwP_mem P m n a).1 hb).1
      have := List.mem_range.1 hx
      omega
theorem pcL_len (P : Nat → Nat → Bool) (n m : Nat) : (pcL P n m).length ≤ n * m := by
  unfold pcL
  induction n with
  | zero => simp
  | succ n ih =>
    rw [List.range_succ, List.flatMap_append, List.length_append, Nat.succ_mul]
    have : (List.flatMap (rwP P m) [n]).length ≤ m := by
      simp only [List.flatMap_cons, List.flatMap_nil, List.append_nil]
      unfold rwP
      rw [List.length_map]
      exact Nat.le_trans (List.length_filter_le _ _) (by simp)
    omega
/-- The first cell goes away. -/
theorem pcL_tail (P : Nat → Nat → Bool) (n m : Nat) (x : Nat × Nat) (t : List (Nat × Nat)) (h : pcL P n m = x :: t) : pcL (fun i j => P i j && ((i, j) != x)) n m = t := by
  rw [pcL_filter P (fun y => y != x), h]
  have hn := pcL_nodup P n m
  rw [h, List.nodup_cons] at hn
  rw [List.filter_cons_of_neg (by simp)]
  refine List.filter_eq_self.2 (fun y hy => ?_)
  simp only [bne_iff_ne, ne_eq]
  rintro rfl
  exact hn.1 hy

/-- What a piece in the cell x does not attack, by its move D. -/
def freeB (D : Int → Int → Bool) (x y : Nat × Nat) : Bool := !D ((y.1 : Int) - x.1) ((y.2 : Int) - x.2)
/-- In how many ways k pieces stand quietly on some of the cells. -/
def stepC (D : Int → Int → Bool) (f : List (Nat × Nat) → Nat) : List (Nat × Nat) → Nat
  | [] => 0
  | x :: t => f (t.filter (freeB D x)) + stepC D f t
def cqN (D : Int → Int → Bool) : Nat → List (Nat × Nat) → Nat
  | 0 => fun _ => 1
  | k + 1 => stepC D (cqN D k)
theorem cqN_nil (D : Int → Int → Bool) (k : Nat) : cqN D (k + 1) [] = 0 := rfl
theorem cqN_cons (D : Int → Int → Bool) (k : Nat) (x : Nat × Nat) (t : List (Nat × Nat)) : cqN D (k + 1) (x :: t) = cqN D k (t.filter (freeB D x)) + cqN D (k + 1) t := rfl
theorem cqN_le (D : Int → Int → Bool) (k : Nat) : ∀ l, cqN D k l ≤ 2 ^ l.length := by
  induction k with
  | zero => intro l; exact Nat.one_le_two_pow
  | succ k ih =>
    intro l
    induction l with
    | nil => rw [cqN_nil]; exact Nat.zero_le _
    | cons x t iht =>
      rw [cqN_cons, List.length_cons, Nat.pow_succ]
      have h1 := ih (t.filter (freeB D x))
      have h2 : 2 ^ (t.filter (freeB D x)).length ≤ 2 ^ t.length := Nat.pow_le_pow_right (by decide) (List.length_filter_le _ _)
      omega

/-- A queen's move. -/
def qD (d r : Int) : Bool := d == 0 || (r == 0 || (d == r || d == -r))
theorem qD_row (x y : Nat × Nat) (h : x.1 = y.1) : freeB qD x y = false := by
  unfold freeB qD
  rw [h]; simp
/-- The cells from the row r on, in d rows. -/
def rsP (P : Nat → Nat → Bool) (m : Nat) : Nat → Nat → List (Nat × Nat)
  | _, 0 => []
  | r, d + 1 => rwP P m r ++ rsP P m (r + 1) d
theorem rsP_mem (P : Nat → Nat → Bool) (m : Nat) (d : Nat) : ∀ r y, y ∈ rsP P m r d → r ≤ y.1 ∧ y.2 < m := by
  induction d with
  | zero => intro r y h; cases h
  | succ d ih =>
    intro r y h
    rw [rsP] at h
    rcases List.mem_append.1 h with h | h
    · have := (rwP_mem P m r y).1 h
      omega
    · have := ih _ _ h
      omega
theorem rsP_plc (P : Nat → Nat → Bool) (m n : Nat) : pcL P n m = rsP P m 0 n := by
  have key : ∀ d r, (List.range' r d).flatMap (rwP P m) = rsP P m r d := by
    intro d
    induction d with
    | zero => intro r; rfl
    | succ d ih => intro r; rw [List.range'_succ, List.flatMap_cons, ih, rsP]
  unfold pcL
  rw [List.range_eq_range', key]
/-- Cells of one row ahead of others. -/
def sumF (f : Nat × Nat → Nat) : List (Nat × Nat) → Nat
  | [] => 0
  | x :: t => f x + sumF f t
theorem cqN_row (k r : Nat) (T : List (Nat × Nat)) (ys : List (Nat × Nat)) (h : ∀ y ∈ ys, y.1 = r) :
    cqN qD (k + 1) (ys ++ T) = sumF (fun y => cqN qD k (T.filter (freeB qD y))) ys + cqN qD (k + 1) T := by
  induction ys with
  | nil => rw [List.nil_append, sumF, Nat.zero_add]
  | cons y ys ih =>
    rw [List.cons_append, cqN_cons, ih (fun y hy => h y (List.mem_cons_of_mem _ hy)), sumF, List.filter_append]
    have : ys.filter (freeB qD y) = [] := by
      rw [List.filter_eq_nil_iff]
      intro z hz
      rw [qD_row y z (by rw [h y (by simp), h z (List.mem_cons_of_mem _ hz)])]
      simp
    rw [this, List.nil_append]
    omega
theorem sumF_zero (f : Nat × Nat → Nat) (ys : List (Nat × Nat)) (h : ∀ y ∈ ys, f y = 0) : sumF f ys = 0 := by
  induction ys with
  | nil => rfl
  | cons y ys ih => rw [sumF, h y (by simp), ih (fun y hy => h y (List.mem_cons_of_mem _ hy))]
/-- Too few rows. -/
theorem cqN_few (P : Nat → Nat → Bool) (m : Nat) (d : Nat) : ∀ k r (p : Nat × Nat → Bool), d < k → cqN qD k ((rsP P m r d).filter p) = 0 := by
  induction d with
  | zero =>
    intro k r p h
    match k, h with
    | k + 1, _ => rfl
  | succ d ih =>
    intro k r p h
    match k, h with
    | k + 1, h =>
      rw [rsP, List.filter_append, cqN_row k r _ _ (fun y hy => ((rwP_mem P m r y).1 (List.mem_filter.1 hy).1).1), ih (k + 1) (r + 1) p (by omega), Nat.add_zero]
      refine sumF_zero _ _ (fun y _ => ?_)
      show cqN qD k (List.filter (freeB qD y) (List.filter p (rsP P m (r + 1) d))) = 0
      rw [List.filter_filter]
      exact ih k (r + 1) _ (by omega)

/-- Columns and diagonals that are taken. -/
def takB (m C F R : Nat) (y : Nat × Nat) : Bool := C.testBit y.2 || (F.testBit (y.1 + y.2) || R.testBit (y.1 + m - 1 - y.2))
/-- Queens row by row. -/
def bcN (P : Nat → Nat → Bool) (m : Nat) : Nat → Nat → Nat → Nat → Nat → Nat → Nat
  | 0, _, k, _, _, _ => if k = 0 then 1 else 0
  | d + 1, r, k, C, F, R => if k = 0 then 1 else if d + 1 < k then 0 else
      bcN P m d (r + 1) k C F R + sumF (fun y => bcN P m d (r + 1) (k - 1) (C ||| 2 ^ y.2) (F ||| 2 ^ (r + y.2)) (R ||| 2 ^ (r + m - 1 - y.2))) ((rwP P m r).filter (fun y => !takB m C F R y))
theorem bit_or2 (a b i : Nat) : (a ||| 2 ^ b).testBit i = (a.testBit i || decide (b = i)) := by
  rw [Nat.testBit_or, Nat.testBit_two_pow]
theorem tak_next (m C F R r c : Nat) (y : Nat × Nat) (hr : r < y.1) (hy : y.2 < m) (hc : c < m) :
    (!takB m (C ||| 2 ^ c) (F ||| 2 ^ (r + c)) (R ||| 2 ^ (r + m - 1 - c)) y) = ((!takB m C F R y) && freeB qD (r, c) y) := by
  have e : freeB qD (r, c) y = !(decide (c = y.2) || (decide (r + c = y.1 + y.2) || decide (r + m - 1 - c = y.1 + m - 1 - y.2))) := by
    unfold freeB qD
    congr 1
    rw [Bool.eq_iff_iff]
    simp only [Bool.or_eq_true, beq_iff_eq, decide_eq_true_eq]
    omega
  rw [e]
  unfold takB
  rw [bit_or2, bit_or2, bit_or2]
  cases C.testBit y.2 <;> cases F.testBit (y.1 + y.2) <;> cases R.testBit (y.1 + m - 1 - y.2) <;> simp
theorem sumF_congr (f g : Nat × Nat → Nat) (ys : List (Nat × Nat)) (h : ∀ y ∈ ys, f y = g y) : sumF f ys = sumF g ys := by
  induction ys with
  | nil => rfl
  | cons y ys ih => rw [sumF, sumF, h y (by simp), ih (fun y hy => h y (List.mem_cons_of_mem _ hy))]
theorem bcN_cq (P : Nat → Nat → Bool) (m : Nat) (d : Nat) : ∀ r k C F R, bcN P m d r k C F R = cqN qD k ((rsP P m r d).filter (fun y => !takB m C F R y)) := by
  induction d with
  | zero =>
    intro r k C F R
    cases k with
    | zero => rfl
    | succ k => rfl
  | succ d ih =>
    intro r k C F R
    rw [bcN]
    by_cases h0 : k = 0
    · subst h0; rw [if_pos rfl]; rfl
    · rw [if_neg h0]
      by_cases h1 : d + 1 < k
      · rw [if_pos h1, cqN_few P m (d + 1) k r _ h1]
      · rw [if_neg h1]
        obtain ⟨q, rfl⟩ : ∃ q, k = q + 1 := ⟨k - 1, by omega⟩
        rw [rsP, List.filter_append, cqN_row q r _ _ (fun y hy => ((rwP_mem P m r y).1 (List.mem_filter.1 hy).1).1), ← ih, Nat.add_comm]
        congr 1
        refine sumF_congr _ _ _ (fun y hy => ?_)
        have hy' := (rwP_mem P m r y).1 (List.mem_filter.1 hy).1
        rw [ih, List.filter_filter, Nat.add_sub_cancel]
        congr 1
        refine List.filter_congr (fun z hz => ?_)
        have hz' := rsP_mem P m d (r + 1) z hz
        rw [tak_next m C F R r y.2 z (by omega) hz'.2 hy'.2.1, Bool.and_comm, show (r, y.2) = y from Prod.ext hy'.1.symm rfl]
theorem bcN_all (P : Nat → Nat → Bool) (n m k : Nat) : bcN P m n 0 k 0 0 0 = cqN qD k (pcL P n m) := by
  rw [bcN_cq, rsP_plc]
  congr 1
  refine List.filter_eq_self.2 (fun y _ => ?_)
  unfold takB
  simp

/-- Pairs that disturb each other. -/
def prN (D : Int → Int → Bool) : List (Nat × Nat) → Nat
  | [] => 0
  | x :: t => (t.filter (fun y => !freeB D x y)).length + prN D t
theorem prN_snoc (D : Int → Int → Bool) (hs : ∀ x y, freeB D x y = freeB D y x) (l : List (Nat × Nat)) (x : Nat × Nat) : prN D (l ++ [x]) = prN D l + (l.filter (fun y => !freeB D x y)).length := by
  induction l with
  | nil => rfl
  | cons y l ih =>
    have e : ((y :: l).filter (fun z => !freeB D x z)).length = (l.filter (fun z => !freeB D x z)).length + ([x].filter (fun z => !freeB D y z)).length := by
      rw [List.filter_cons, List.filter_cons, hs x y]
      cases freeB D y x <;> simp
    rw [List.cons_append, prN, prN, ih, List.filter_append, List.length_append, e]
    omega
theorem cqN_one (D : Int → Int → Bool) (l : List (Nat × Nat)) : cqN D 1 l = l.length := by
  induction l with
  | nil => rfl
  | cons x t ih => rw [cqN_cons, ih, List.length_cons, Nat.add_comm]; rfl
theorem not_len (p : Nat × Nat → Bool) (l : List (Nat × Nat)) : (l.filter (fun y => !p y)).length + (l.filter p).length = l.length := by
  induction l with
  | nil => rfl
  | cons x t ih =>
    rw [List.filter_cons, List.filter_cons, List.length_cons]
    cases p x <;> simp <;> omega
theorem pairs_all (D : Int → Int → Bool) (l : List (Nat × Nat)) : 2 * (prN D l + cqN D 2 l) = l.length * (l.length - 1) := by
  induction l with
  | nil => rfl
  | cons x t ih =>
    rw [prN, cqN_cons, cqN_one, List.length_cons, Nat.add_sub_cancel]
    have h := not_len (freeB D x) t
    have e : (t.length + 1) * t.length = t.length * (t.length - 1) + 2 * t.length := by
      cases t.length with
      | zero => rfl
      | succ q => rw [Nat.add_sub_cancel, Nat.add_mul, Nat.mul_add]; simp [Nat.add_mul, Nat.mul_add]; omega
    rw [e, ← ih, ← h, show (1 + 1 : Nat) = 2 from rfl]
    omega

end Go.Proofs.Ytakdiiccdkjjcaa
