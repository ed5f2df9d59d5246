/- Colour boards: the plain part. No condition. -/
import Derived.Test.YtakdiiccdkjjcaaN
import Derived.Test.YtakdiiccdkjjcaaD
import Derived.Test.YtakdiiccdkjjcaaFm
namespace Go.Proofs.Ytakdiiccdkjjcaa
open Go.RowKit Go.WideShapes

/-- The least diagonal r - c + m - 1 of the colour k. -/
def fdI (m k : Nat) : Nat := (k + m - 1) % 2
/-- How many diagonals of the colour there are from the least one on. -/
def lnI (n m f : Nat) : Nat := (n + m - f) / 2
/-- The row and the column where two lines of the colour board meet. -/
def plR (m k i j : Nat) : Int := (((k + 2 * i : Nat) : Int) + ((fdI m k + 2 * j : Nat) : Int) - (m : Int) + 1).tdiv 2
def plC (m k i j : Nat) : Int := ((k + 2 * i : Nat) : Int) - plR m k i j
/-- Do they meet in a cell? -/
def colB (n m k : Nat) (P : Nat → Nat → Bool) (i j : Nat) : Bool := insB n m (plR m k i j) (plC m k i j) && P (plR m k i j).toNat (plC m k i j).toNat
theorem ln_le (n m f : Nat) (hn : n ≤ 6) (hm : m ≤ 6) : lnI n m f ≤ 6 := by unfold lnI; omega
theorem fd_le (m k : Nat) : fdI m k ≤ 1 := by unfold fdI; omega

/-- Numbers from f on, two apart. -/
def arL (f L : Nat) : List Int := lstI L (fun t => ((f + 2 * t : Nat) : Int))
theorem arL_len (f L : Nat) : (arL f L).length = L := lstI_len _ _
theorem arL_get (f L t : Nat) (h : t < L) : (arL f L).getD t 0 = ((f + 2 * t : Nat) : Int) := lstI_get _ _ _ h

/-- A number put into an increasing list, unless it is there. -/
def cntP (l : List Int) (x : Int) : Nat := (l.takeWhile (fun y => decide (y < x))).length
def putI (l : List Int) (x : Int) : List Int := if l.getD (cntP l x) (x + 1) = x then l else l.take (cntP l x) ++ [x] ++ l.drop (cntP l x)
/-- The diagonals of the places of the row i ahead of the column j. -/
def linJ (m k i : Nat) (st : List Int × List Int) : Nat → List Int × List Int
  | 0 => st
  | j + 1 => if (i + j) % 2 = k then (putI (linJ m k i st j).1 ((i : Int) + j), putI (linJ m k i st j).2 ((i : Int) - j + m - 1)) else linJ m k i st j
def linI (m k : Nat) : Nat → List Int × List Int
  | 0 => ([], [])
  | i + 1 => linJ m k i (linI m k i) m
set_option maxRecDepth 100000 in
theorem lin_end (n m k : Nat) (h1 : 1 ≤ n) (h2 : n ≤ 6) (h3 : 1 ≤ m) (h4 : m ≤ 6) (hk : k < 2) : linI m k n = (arL k (lnI n m k), arL (fdI m k) (lnI n m (fdI m k))) := by
  have key : ∀ n m : Fin 6, ∀ k : Fin 2, linI (m.val + 1) k (n.val + 1) = (arL k (lnI (n.val + 1) (m.val + 1) k), arL (fdI (m.val + 1) k) (lnI (n.val + 1) (m.val + 1) (fdI (m.val + 1) k))) := by decide +kernel
  have := key ⟨n - 1, by omega⟩ ⟨m - 1, by omega⟩ ⟨k, hk⟩
  simpa [show n - 1 + 1 = n by omega, show m - 1 + 1 = m by omega] using this
theorem putI_len (l : List Int) (x : Int) : (putI l x).length ≤ l.length + 1 := by
  unfold putI
  split
  · omega
  · simp; omega
theorem linJ_len (m k i : Nat) (st : List Int × List Int) (j : Nat) : (linJ m k i st j).1.length ≤ st.1.length + j ∧ (linJ m k i st j).2.length ≤ st.2.length + j := by
  induction j with
  | zero => exact ⟨Nat.le_refl _, Nat.le_refl _⟩
  | succ j ih =>
    rw [linJ]
    split
    · have := putI_len (linJ m k i st j).1 ((i : Int) + j)
      have := putI_len (linJ m k i st j).2 ((i : Int) - j + m - 1)
      exact ⟨by show (putI _ _).length ≤ _; omega, by show (putI _ _).length ≤ _; omega⟩
    · omega
theorem linI_len (m k i : Nat) : (linI m k i).1.length ≤ i * m ∧ (linI m k i).2.length ≤ i * m := by
  induction i with
  | zero => simp [linI]
  | succ i ih =>
    have := linJ_len m k i (linI m k i) m
    rw [linI, Nat.succ_mul]
    omega

/-- Sums by functions. -/
def sg : Nat → (Nat → Int) → Int
  | 0, _ => 0
  | n + 1, f => sg n f + f n
theorem sg_congr (n : Nat) (f g : Nat → Int) (h : ∀ k, k < n → f k = g k) : sg n f = sg n g := by
  induction n with
  | zero => rfl
  | succ n ih => rw [sg, sg, ih (fun k hk => h k (by omega)), h n (by omega)]
theorem sg_zero (n : Nat) : sg n (fun _ => 0) = 0 := by
  induction n with
  | zero => rfl
  | succ n ih => rw [sg, ih]; rfl
theorem sg_add (n : Nat) (f g : Nat → Int) : sg n (fun k => f k + g k) = sg n f + sg n g := by
  induction n with
  | zero => rfl
  | succ n ih => rw [sg, sg, sg, ih]; omega
theorem sg_swap (n m : Nat) (f : Nat → Nat → Int) : sg n (fun a => sg m (fun b => f a b)) = sg m (fun b => sg n (fun a => f a b)) := by
  induction n with
  | zero => rw [sg]; exact (sg_zero m).symm
  | succ n ih => rw [sg, ih, ← sg_add]; rfl
theorem sg_one (n a : Nat) (h : a < n) (x : Int) : sg n (fun k => if k = a then x else 0) = x := by
  induction n with
  | zero => omega
  | succ n ih =>
    rw [sg]
    by_cases e : n = a
    · subst e
      rw [sg_congr n _ (fun _ => 0) (fun k hk => if_neg (by omega)), sg_zero, if_pos rfl, Int.zero_add]
    · rw [ih (by omega), if_neg e, Int.add_zero]
theorem sg_if (n : Nat) (p : Prop) [Decidable p] (f : Nat → Int) : sg n (fun k => if p then f k else 0) = if p then sg n f else 0 := by
  by_cases h : p
  · simp only [if_pos h]
  · simp only [if_neg h]; exact sg_zero n
theorem rowM_sg (p : Nat → Bool) (m : Nat) : (rowM p m : Int) = sg m (fun j => if p j then (2 : Int) ^ j else 0) := by
  induction m with
  | zero => rfl
  | succ m ih =>
    rw [rowM, sg, ← ih]
    split <;> simp

/-- The column of the colour board in which a place lies. -/
def ixR (k a b : Nat) : Nat := (a + b - k) / 2
def ixC (m k a b : Nat) : Nat := (a + m - 1 - b - fdI m k) / 2
/-- What a place adds to the row i. -/
def wgt (m k i a b : Nat) : Int := if (a + b) % 2 = k ∧ ixR k a b = i then (2 : Int) ^ ixC m k a b else 0
set_option maxRecDepth 100000 in
theorem wgt_sg (n m k i a b : Nat) (hn : n ≤ 6) (hm : m ≤ 6) (hk : k < 2) (hi : i < 6) (ha : a < n) (hb : b < m) :
    sg (lnI n m (fdI m k)) (fun j => if plR m k i j = a ∧ plC m k i j = b then (2 : Int) ^ j else 0) = wgt m k i a b := by
  have key : ∀ n m : Fin 7, ∀ k : Fin 2, ∀ i : Fin 6, ∀ a : Fin n, ∀ b : Fin m, sg (lnI n m (fdI m k)) (fun j => if plR m k i j = (a.val : Nat) ∧ plC m k i j = (b.val : Nat) then (2 : Int) ^ j else 0) = wgt m k i a b := by decide +kernel
  exact key ⟨n, by omega⟩ ⟨m, by omega⟩ ⟨k, hk⟩ ⟨i, hi⟩ ⟨a, ha⟩ ⟨b, hb⟩

/-- The row i of the colour board, added up place by place. -/
theorem col_row (n m k i : Nat) (P : Nat → Nat → Bool) (hn : n ≤ 6) (hm : m ≤ 6) (hk : k < 2) (hi : i < 6) :
    (rowM (colB n m k P i) (lnI n m (fdI m k)) : Int) = sg n (fun a => sg m (fun b => if P a b then wgt m k i a b else 0)) := by
  rw [rowM_sg]
  have e1 : ∀ j, (if colB n m k P i j then (2 : Int) ^ j else 0) = sg n (fun a => sg m (fun b => if plR m k i j = a ∧ plC m k i j = b then (if P a b then (2 : Int) ^ j else 0) else 0)) := by
    intro j
    by_cases h : insB n m (plR m k i j) (plC m k i j) = true
    · obtain ⟨h1, h2, h3, h4⟩ := insB_iff.1 h
      unfold colB
      rw [h, Bool.true_and]
      obtain ⟨x, hx⟩ := Int.eq_ofNat_of_zero_le h1
      obtain ⟨y, hy⟩ := Int.eq_ofNat_of_zero_le h3
      have hxn : x < n := by omega
      have hym : y < m := by omega
      rw [hx, hy]
      rw [show ((x : Nat) : Int).toNat = x from rfl, show ((y : Nat) : Int).toNat = y from rfl]
      rw [sg_congr n _ (fun a => if a = x then (if P x y then (2 : Int) ^ j else 0) else 0) (fun a ha => ?_), sg_one n x hxn]
      by_cases ea : a = x
      · subst ea
        rw [if_pos rfl, sg_congr m _ (fun b => if b = y then (if P a y then (2 : Int) ^ j else 0) else 0) (fun b hb => ?_), sg_one m y hym]
        by_cases eb : b = y
        · subst eb; rw [if_pos ⟨rfl, rfl⟩, if_pos rfl]
        · rw [if_neg (fun h => eb (by have := h.2; omega)), if_neg eb]
      · rw [if_neg ea, sg_congr m _ (fun _ => 0) (fun b hb => if_neg (fun h => ea (by have := h.1; omega))), sg_zero]
    · have h' : insB n m (plR m k i j) (plC m k i j) = false := by simpa using h
      unfold colB
      rw [h', Bool.false_and, sg_congr n _ (fun _ => 0) (fun a ha => ?_), sg_zero]
      · rfl
      · rw [sg_congr m _ (fun _ => 0) (fun b hb => if_neg (fun e => h (insB_iff.2 (by omega)))), sg_zero]
  rw [sg_congr _ _ _ (fun j _ => e1 j), sg_swap]
  refine sg_congr _ _ _ (fun a ha => ?_)
  rw [sg_swap]
  refine sg_congr _ _ _ (fun b hb => ?_)
  rw [← wgt_sg n m k i a b hn hm hk hi ha hb, ← sg_if]
  refine sg_congr _ _ _ (fun j _ => ?_)
  by_cases hp : P a b = true
  · simp [hp]
  · simp [hp]

/-- The rows of the colour board, when some cells have been put. -/
def bbI (m k : Nat) (cs : List (List Int)) (i : Nat) : Int := cs.foldl (fun s x => s + wgt m k i (x.getD 0 0).toNat (x.getD 1 0).toNat) 0
theorem bbI_app (m k : Nat) (cs ds : List (List Int)) (i : Nat) : bbI m k (cs ++ ds) i = bbI m k cs i + bbI m k ds i := by
  have h : ∀ (l : List (List Int)) (s : Int), l.foldl (fun s x => s + wgt m k i (x.getD 0 0).toNat (x.getD 1 0).toNat) s = s + l.foldl (fun s x => s + wgt m k i (x.getD 0 0).toNat (x.getD 1 0).toNat) 0 := by
    intro l
    induction l with
    | nil => intro s; simp
    | cons x l ih => intro s; rw [List.foldl_cons, List.foldl_cons, ih (s + _), ih (0 + _)]; omega
  unfold bbI
  rw [List.foldl_append, h ds]
theorem bbI_one (m k : Nat) (x : List Int) (i : Nat) : bbI m k [x] i = wgt m k i (x.getD 0 0).toNat (x.getD 1 0).toNat := by simp [bbI]
theorem bbI_row (m k : Nat) (xs : List Int) (i a j : Nat) : bbI m k (rowC xs a j) i = sg j (fun b => if (xs.getD a 0).toNat.testBit b then wgt m k i a b else 0) := by
  induction j with
  | zero => rfl
  | succ j ih =>
    rw [sg, ← ih]
    unfold rowC
    rw [List.range_succ, List.filter_append, List.map_append, bbI_app]
    congr 1
    by_cases h : (xs.getD a 0).toNat.testBit j = true
    · rw [if_pos h]
      have : ([j].filter (fun b => (xs.getD a 0).toNat.testBit b)) = [j] := by simp only [List.filter_cons, h, if_true, List.filter_nil]
      rw [this, List.map_cons, List.map_nil, bbI_one]
      simp
    · rw [if_neg h]
      have : ([j].filter (fun b => (xs.getD a 0).toNat.testBit b)) = [] := by simp only [List.filter_cons, h, List.filter_nil]; rfl
      rw [this]; rfl
theorem bbI_rows (m k : Nat) (xs : List Int) (i n : Nat) : bbI m k ((List.range n).flatMap (fun a => rowC xs a m)) i = sg n (fun a => sg m (fun b => if (xs.getD a 0).toNat.testBit b then wgt m k i a b else 0)) := by
  induction n with
  | zero => rfl
  | succ n ih =>
    have e : ([n].flatMap (fun a => rowC xs a m)) = rowC xs n m := by simp
    rw [List.range_succ, List.flatMap_append, bbI_app, ih, e, bbI_row, sg]
theorem bbI_cells (m k : Nat) (xs : List Int) (i n : Nat) : bbI m k (cellsL xs n m) i = sg n (fun a => sg m (fun b => if (xs.getD a 0).toNat.testBit b then wgt m k i a b else 0)) := by
  unfold cellsL cellsU
  rw [bbI_app, bbI_rows, bbI_row, sg, Int.add_zero]
theorem col_end (n m k i : Nat) (xs : List Int) (hn : n ≤ 6) (hm : m ≤ 6) (hk : k < 2) (hi : i < 6) :
    bbI m k (cellsL xs n m) i = (rowM (colB n m k (fun a b => (xs.getD a 0).toNat.testBit b) i) (lnI n m (fdI m k)) : Int) := by
  rw [bbI_cells, col_row n m k i _ hn hm hk hi]

end Go.Proofs.Ytakdiiccdkjjcaa
