import Derived.Test.YtdimbnkgomfojaaFold6
import Derived.Test.YtdimbnkgomfojaaFold16
import Derived.Test.YtdimbnkgomfojaaFold7
import Derived.Deep.RegionWith
import Derived.Deep.RegionHeld3
import Derived.Deep.DeepCutAuto
import Derived.Test.YtdimbnkgomfojaaFold18
import Derived.Deep.RegionLaw

section
namespace Go.Proofs.Ytdimbnkgomfojaa
open Go.RowKit Go.WideShapes

/-- The mask of the places c < n with p c. -/
def rowM (p : Nat → Bool) : Nat → Nat
  | 0 => 0
  | c + 1 => rowM p c + if p c then 2 ^ c else 0
theorem rowM_lt (p : Nat → Bool) (n : Nat) : rowM p n < 2 ^ n := by
  induction n with
  | zero => simp [rowM]
  | succ n ih => rw [rowM, Nat.pow_succ]; split <;> omega
theorem or_step (x : Nat) (c : Nat) (hc : c < 6) (h : x < 2 ^ c) : bits .or .i64 (x : Int) (wrap64 (2 ^ c)) = ((x + 2 ^ c : Nat) : Int) := by
  have key : ∀ c : Fin 6, ∀ x : Fin 64, (x : Nat) < 2 ^ (c : Nat) → bits .or .i64 ((x : Nat) : Int) (wrap64 (2 ^ (c : Nat))) = (((x : Nat) + 2 ^ (c : Nat) : Nat) : Int) := by decide +kernel
  have h64 : x < 64 := Nat.lt_of_lt_of_le h (by have := Nat.pow_le_pow_right (show 0 < 2 by omega) (show c ≤ 6 by omega); simpa using this)
  exact key ⟨c, hc⟩ ⟨x, h64⟩ h

/-- The masks when the rows before i and of row i the places before j are drawn. -/
def drawn (p : Nat → Nat → Bool) (m i j : Nat) : Nat → Int := fun k => if k < i then (rowM (p k) m : Int) else if k = i then (rowM (p i) j : Int) else 0
theorem drawn_next (p : Nat → Nat → Bool) (m i : Nat) : drawn p m i m = drawn p m (i + 1) 0 := by
  funext k
  unfold drawn
  by_cases h1 : k < i
  · rw [if_pos h1, if_pos (by omega)]
  · by_cases h2 : k = i
    · subst h2; rw [if_neg h1, if_pos rfl, if_pos (by omega)]
    · rw [if_neg h1, if_neg h2, if_neg (by omega)]
      split
      · simp [rowM]
      · rfl
theorem drawn_zero (p : Nat → Nat → Bool) (m : Nat) : drawn p m 0 0 = fun _ => 0 := by
  funext k
  unfold drawn
  rw [if_neg (by omega)]
  split
  · simp [rowM]
  · rfl
theorem drawn_skip (p : Nat → Nat → Bool) (m i j : Nat) (h : p i j = false) : drawn p m i (j + 1) = drawn p m i j := by
  funext k; unfold drawn; rw [rowM, h]; simp
theorem drawn_at (p : Nat → Nat → Bool) (m i j : Nat) : drawn p m i j i = (rowM (p i) j : Int) := by unfold drawn; rw [if_neg (by omega), if_pos rfl]
theorem drawn_put (p : Nat → Nat → Bool) (m i j : Nat) (h : p i j = true) : drawn p m i (j + 1) i = ((rowM (p i) j + 2 ^ j : Nat) : Int) := by rw [drawn_at, rowM, h]; simp
theorem drawn_off (p : Nat → Nat → Bool) (m i j k : Nat) (h : k ≠ i) : drawn p m i (j + 1) k = drawn p m i j k := by
  unfold drawn; rw [if_neg h, if_neg h]

/-- At the head of a round of the drawing: of what was there nothing has turned; the new board's block, and the grid. -/
structure Draw (w : World) (n m : Nat) (p : Nat → Nat → Bool) (i j : Nat) (wr : World) : Prop where
  below : Below w.heap.size w wr
  res : Has wr w.heap.size [.int .i64 0, .int .i64 0, .slice none 0 0] 29
  grid : Has wr (w.heap.size + 1) (gl n m (drawn p m i j)) 59

theorem Draw.kept {w : World} {n m : Nat} {p : Nat → Nat → Bool} {i j : Nat} {wr w' : World} (h : Draw w n m p i j wr) (hb : Below wr.heap.size wr w') : Draw w n m p i j w' :=
  ⟨below_on h.below hb, h.res.kept hb h.res.lt, h.grid.kept hb h.grid.lt⟩

theorem Draw.next {w : World} {n m : Nat} {p : Nat → Nat → Bool} {i : Nat} {wr : World} (h : Draw w n m p i m wr) : Draw w n m p (i + 1) 0 wr :=
  ⟨h.below, h.res, by rw [← drawn_next]; exact h.grid⟩
theorem Draw.skip {w : World} {n m : Nat} {p : Nat → Nat → Bool} {i j : Nat} {wr : World} (h : Draw w n m p i j wr) (hp : p i j = false) : Draw w n m p i (j + 1) wr :=
  ⟨h.below, h.res, by rw [drawn_skip p m i j hp]; exact h.grid⟩
theorem Draw.put {w : World} {n m : Nat} {p : Nat → Nat → Bool} {i j : Nat} {wr : World} (h : Draw w n m p i j wr) (hp : p i j = true) (hi : i < 6) :
    Draw w n m p i (j + 1) (wr.setCell ⟨w.heap.size + 1, 2 + i, none⟩ (.int .i64 ((rowM (p i) j + 2 ^ j : Nat) : Int))).drew := by
  refine ⟨(h.below.setCell (by simp <;> omega) _).drew, (h.res.other _ (by simp <;> omega) _).drew, ?_⟩
  have := h.grid.set (2 + i) (.int .i64 ((rowM (p i) j + 2 ^ j : Nat) : Int))
  rw [gl_set n m (drawn p m i j) (drawn p m i (j + 1)) i hi _ (drawn_put p m i j hp) (fun k hk => drawn_off p m i j k hk)] at this
  exact this.drew

end Go.Proofs.Ytdimbnkgomfojaa
end

section
namespace Go.Proofs.Ytdimbnkgomfojaa
open Go.RowKit Go.WideShapes

def fullB (r c : Int) : BR := if inB 1 r 6 && inB 1 c 6 then ⟨r, c, List.replicate r.toNat (pw c - 1), true⟩ else BR.zero

theorem rowM_full (m : Nat) : (rowM (fun _ => true) m : Int) = pw m - 1 := by
  have h : rowM (fun _ => true) m + 1 = 2 ^ m := by
    induction m with
    | zero => rfl
    | succ m ih => rw [rowM, Nat.pow_succ]; simp; omega
  unfold pw
  rw [Int.toNat_natCast]
  have : ((2 ^ m : Nat) : Int) = 2 ^ m := by simp
  omega
theorem full_cells (n m : Nat) (hn : n ≤ 6) : (([0, 1, 2, 3, 4, 5].take n).map fun k => (rowM ((fun _ _ => true : Nat → Nat → Bool) k) m : Int)) = List.replicate n (pw m - 1) := by
  simp only [rowM_full]
  have : n = 0 ∨ n = 1 ∨ n = 2 ∨ n = 3 ∨ n = 4 ∨ n = 5 ∨ n = 6 := by omega
  rcases this with rfl | rfl | rfl | rfl | rfl | rfl | rfl <;> rfl


theorem fullB_len (r c : Int) : (fullB r c).xs.length ≤ 1048576 := by
  unfold fullB
  split
  · rename_i h
    rw [Bool.and_eq_true, inB_iff] at h
    simp; omega
  · simp [BR.zero]

end Go.Proofs.Ytdimbnkgomfojaa
end

section
namespace Go.Proofs.Ytdimbnkgomfojaa
open Go.RowKit Go.WideShapes


/-- A zero board, and false: a call that fails. -/
theorem ansB_zero (w w' : World) (h : Below w.heap.size w w') : AnsB BR.zero w (.returned (.tuple #[.agg #[.int .i64 0, .int .i64 0, .slice none 0 0], .bool false])) w' := ⟨_, rfl, Own.nil _ _, h⟩

theorem cells_n (n : Nat) (f : Nat → Int) (xs : List Int) (hl : xs.length = n) (hn : n ≤ 6) (hf : ∀ k, k < n → f k = xs.getD k 0) : (([0, 1, 2, 3, 4, 5].take n).map f) = xs := by
  apply List.ext_getElem?
  intro j
  by_cases hj : j < n
  · have h6 : ([0, 1, 2, 3, 4, 5] : List Nat)[j]? = some j := by
      have : j = 0 ∨ j = 1 ∨ j = 2 ∨ j = 3 ∨ j = 4 ∨ j = 5 := by omega
      rcases this with rfl | rfl | rfl | rfl | rfl | rfl <;> rfl
    rw [List.getElem?_map, List.getElem?_take, if_pos hj, h6, Option.map_some, hf j hj]
    simp [List.getD, show j < xs.length by omega]
  · rw [List.getElem?_eq_none (by simp; omega), List.getElem?_eq_none (by omega)]


end Go.Proofs.Ytdimbnkgomfojaa
end

section
namespace Go.Proofs.Ytdimbnkgomfojaa
open Go.RowKit Go.WideShapes

/-- The index that i was, before a line went away. -/
def sk (i s : Nat) : Nat := if i < s then i else i + 1
/-- A row without its place j: m places are left. -/
def skv (x : Int) (j m : Nat) : Int := (rowM (fun c => x.toNat.testBit (sk c j)) m : Int)
def strikeL (xs : List Int) (i j m : Nat) : List Int := (xs.eraseIdx i).map (fun x => skv x j m)
def strikeB (r c : Int) (xs : List Int) (i j : Int) : BR := if placeB r c xs i j && (!(r == 1) && !(c == 1)) then ⟨r - 1, c - 1, strikeL xs i.toNat j.toNat (c - 1).toNat, true⟩ else BR.zero
theorem strikeL_len (xs : List Int) (i j m : Nat) (h : i < xs.length) : (strikeL xs i j m).length = xs.length - 1 := by
  simp [strikeL, List.length_eraseIdx, h]
theorem strikeB_len (r c : Int) (xs : List Int) (i j : Int) : (strikeB r c xs i j).xs.length ≤ 1048576 := by
  unfold strikeB
  split
  · rename_i h
    rw [Bool.and_eq_true, placeB, Bool.and_eq_true] at h
    have := good_facts h.1.1
    have := insB_iff.1 h.1.2
    rw [strikeL_len _ _ _ _ (by omega)]
    omega
  · simp [BR.zero]
theorem strike_cells (M : Nat → Int) (xs : List Int) (i j m n : Nat) (hM : ∀ k, M k = xs.getD k 0) (hl : xs.length = n + 1) (hn : n ≤ 6) (hi : i < n + 1) :
    (([0, 1, 2, 3, 4, 5].take n).map fun k => (rowM ((fun k l => (M (sk k i)).toNat.testBit (sk l j) : Nat → Nat → Bool) k) m : Int)) = strikeL xs i j m :=
  cells_n n _ _ (by rw [strikeL_len _ _ _ _ (by omega)]; omega) hn (fun k hk => by
    simp only [hM]
    show skv (xs.getD (sk k i) 0) j m = _
    have e : (xs.eraseIdx i)[k]? = xs[sk k i]? := by
      rw [List.getElem?_eraseIdx]
      unfold sk
      split <;> rfl
    have hs : sk k i < xs.length := by unfold sk; split <;> omega
    rw [List.getD_eq_getElem?_getD, List.getD_eq_getElem?_getD, strikeL, List.getElem?_map, e]
    simp [hs])

theorem gridOf_good (r c : Int) (a : Option Addr) (cap : Nat) (xs : List Int) (w : World) (hx : xs.length ≤ 1048576) (hr : Reads w a xs.length xs) (hg : goodB r c xs = true) :
    ∃ M : Nat → Int, (∀ k, M k = xs.getD k 0) ∧ Calls Try.prog 50 #[.agg #[.int .i64 r, .int .i64 c, .slice a xs.length cap]] w
      fun e w' => e = .returned (.tuple #[gv r c M, .bool true]) ∧ Below w.heap.size w w' :=
  ⟨_, fun _ => rfl, gridOf_yes r c a cap xs w hx hr hg⟩


end Go.Proofs.Ytdimbnkgomfojaa
end
