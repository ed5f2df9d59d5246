import Derived.Test.YtdimbnkgomfojaaFold9
import Derived.Test.YtdimbnkgomfojaaFold22
import Derived.Test.YtdimbnkgomfojaaFold10
import Derived.Deep.RegionWith
import Derived.Deep.RegionHeld3
import Derived.Deep.DeepCutAuto
import Derived.Test.YtdimbnkgomfojaaFold4
import Derived.Deep.AppendLies
import Derived.Deep.RegionLaw
import Derived.Test.YtdimbnkgomfojaaFold6
import Derived.Laws.Rows

section
namespace Go.Proofs.Ytdimbnkgomfojaa
open Go.RowKit Go.WideShapes

/-- The mask of the places c < n with p c. -/
def rowM (p : Nat → Bool) : Nat → Nat
  | 0 => 0
  | c + 1 => rowM p c + if p c then 2 ^ c else 0
theorem rowM_lt (p : Nat → Bool) (n : Nat) : rowM p n < 2 ^ n := by
  induction n with
  | zero => simp [rowM]
  | succ n ih => rw [rowM, Nat.pow_succ]; split <;> omega
theorem or_step (x : Nat) (c : Nat) (hc : c < 6) (h : x < 2 ^ c) : bits .or .i64 (x : Int) (wrap64 (2 ^ c)) = ((x + 2 ^ c : Nat) : Int) := by
  have key : ∀ c : Fin 6, ∀ x : Fin 64, (x : Nat) < 2 ^ (c : Nat) → bits .or .i64 ((x : Nat) : Int) (wrap64 (2 ^ (c : Nat))) = (((x : Nat) + 2 ^ (c : Nat) : Nat) : Int) := by decide +kernel
  have h64 : x < 64 := Nat.lt_of_lt_of_le h (by have := Nat.pow_le_pow_right (show 0 < 2 by omega) (show c ≤ 6 by omega); simpa using this)
  exact key ⟨c, hc⟩ ⟨x, h64⟩ h

/-- The masks when the rows before i and of row i the places before j are drawn. -/
def drawn (p : Nat → Nat → Bool) (m i j : Nat) : Nat → Int := fun k => if k < i then (rowM (p k) m : Int) else if k = i then (rowM (p i) j : Int) else 0
theorem drawn_next (p : Nat → Nat → Bool) (m i : Nat) : drawn p m i m = drawn p m (i + 1) 0 := by
  funext k
  unfold drawn
  by_cases h1 : k < i
  · rw [if_pos h1, if_pos (by omega)]
  · by_cases h2 : k = i
    · subst h2; rw [if_neg h1, if_pos rfl, if_pos (by omega)]
    · rw [if_neg h1, if_neg h2, if_neg (by omega)]
      split
      · simp [rowM]
      · rfl
theorem drawn_zero (p : Nat → Nat → Bool) (m : Nat) : drawn p m 0 0 = fun _ => 0 := by
  funext k
  unfold drawn
  rw [if_neg (by omega)]
  split
  · simp [rowM]
  · rfl
theorem drawn_skip (p : Nat → Nat → Bool) (m i j : Nat) (h : p i j = false) : drawn p m i (j + 1) = drawn p m i j := by
  funext k; unfold drawn; rw [rowM, h]; simp
theorem drawn_at (p : Nat → Nat → Bool) (m i j : Nat) : drawn p m i j i = (rowM (p i) j : Int) := by unfold drawn; rw [if_neg (by omega), if_pos rfl]
theorem drawn_put (p : Nat → Nat → Bool) (m i j : Nat) (h : p i j = true) : drawn p m i (j + 1) i = ((rowM (p i) j + 2 ^ j : Nat) : Int) := by rw [drawn_at, rowM, h]; simp
theorem drawn_off (p : Nat → Nat → Bool) (m i j k : Nat) (h : k ≠ i) : drawn p m i (j + 1) k = drawn p m i j k := by
  unfold drawn; rw [if_neg h, if_neg h]

/-- At the head of a round of the drawing: of what was there nothing has turned; the new board's block, and the grid. -/
structure Draw (w : World) (n m : Nat) (p : Nat → Nat → Bool) (i j : Nat) (wr : World) : Prop where
  below : Below w.heap.size w wr
  res : Has wr w.heap.size [.int .i64 0, .int .i64 0, .slice none 0 0] 29
  grid : Has wr (w.heap.size + 1) (gl n m (drawn p m i j)) 59

theorem Draw.kept {w : World} {n m : Nat} {p : Nat → Nat → Bool} {i j : Nat} {wr w' : World} (h : Draw w n m p i j wr) (hb : Below wr.heap.size wr w') : Draw w n m p i j w' :=
  ⟨below_on h.below hb, h.res.kept hb h.res.lt, h.grid.kept hb h.grid.lt⟩

theorem Draw.next {w : World} {n m : Nat} {p : Nat → Nat → Bool} {i : Nat} {wr : World} (h : Draw w n m p i m wr) : Draw w n m p (i + 1) 0 wr :=
  ⟨h.below, h.res, by rw [← drawn_next]; exact h.grid⟩
theorem Draw.skip {w : World} {n m : Nat} {p : Nat → Nat → Bool} {i j : Nat} {wr : World} (h : Draw w n m p i j wr) (hp : p i j = false) : Draw w n m p i (j + 1) wr :=
  ⟨h.below, h.res, by rw [drawn_skip p m i j hp]; exact h.grid⟩
theorem Draw.put {w : World} {n m : Nat} {p : Nat → Nat → Bool} {i j : Nat} {wr : World} (h : Draw w n m p i j wr) (hp : p i j = true) (hi : i < 6) :
    Draw w n m p i (j + 1) (wr.setCell ⟨w.heap.size + 1, 2 + i, none⟩ (.int .i64 ((rowM (p i) j + 2 ^ j : Nat) : Int))).drew := by
  refine ⟨(h.below.setCell (by simp <;> omega) _).drew, (h.res.other _ (by simp <;> omega) _).drew, ?_⟩
  have := h.grid.set (2 + i) (.int .i64 ((rowM (p i) j + 2 ^ j : Nat) : Int))
  rw [gl_set n m (drawn p m i j) (drawn p m i (j + 1)) i hi _ (drawn_put p m i j hp) (fun k hk => drawn_off p m i j k hk)] at this
  exact this.drew

end Go.Proofs.Ytdimbnkgomfojaa
end

section
namespace Go.Proofs.Ytdimbnkgomfojaa
open Go.RowKit Go.WideShapes

def fullB (r c : Int) : BR := if inB 1 r 6 && inB 1 c 6 then ⟨r, c, List.replicate r.toNat (pw c - 1), true⟩ else BR.zero

theorem rowM_full (m : Nat) : (rowM (fun _ => true) m : Int) = pw m - 1 := by
  have h : rowM (fun _ => true) m + 1 = 2 ^ m := by
    induction m with
    | zero => rfl
    | succ m ih => rw [rowM, Nat.pow_succ]; simp; omega
  unfold pw
  rw [Int.toNat_natCast]
  have : ((2 ^ m : Nat) : Int) = 2 ^ m := by simp
  omega
theorem full_cells (n m : Nat) (hn : n ≤ 6) : (([0, 1, 2, 3, 4, 5].take n).map fun k => (rowM ((fun _ _ => true : Nat → Nat → Bool) k) m : Int)) = List.replicate n (pw m - 1) := by
  simp only [rowM_full]
  have : n = 0 ∨ n = 1 ∨ n = 2 ∨ n = 3 ∨ n = 4 ∨ n = 5 ∨ n = 6 := by omega
  rcases this with rfl | rfl | rfl | rfl | rfl | rfl | rfl <;> rfl


theorem fullB_len (r c : Int) : (fullB r c).xs.length ≤ 1048576 := by
  unfold fullB
  split
  · rename_i h
    rw [Bool.and_eq_true, inB_iff] at h
    simp; omega
  · simp [BR.zero]

end Go.Proofs.Ytdimbnkgomfojaa
end

section
namespace Go.Proofs.Ytdimbnkgomfojaa
open Go.RowKit Go.WideShapes


/-- A zero board, and false: a call that fails. -/
theorem ansB_zero (w w' : World) (h : Below w.heap.size w w') : AnsB BR.zero w (.returned (.tuple #[.agg #[.int .i64 0, .int .i64 0, .slice none 0 0], .bool false])) w' := ⟨_, rfl, Own.nil _ _, h⟩

theorem cells_n (n : Nat) (f : Nat → Int) (xs : List Int) (hl : xs.length = n) (hn : n ≤ 6) (hf : ∀ k, k < n → f k = xs.getD k 0) : (([0, 1, 2, 3, 4, 5].take n).map f) = xs := by
  apply List.ext_getElem?
  intro j
  by_cases hj : j < n
  · have h6 : ([0, 1, 2, 3, 4, 5] : List Nat)[j]? = some j := by
      have : j = 0 ∨ j = 1 ∨ j = 2 ∨ j = 3 ∨ j = 4 ∨ j = 5 := by omega
      rcases this with rfl | rfl | rfl | rfl | rfl | rfl <;> rfl
    rw [List.getElem?_map, List.getElem?_take, if_pos hj, h6, Option.map_some, hf j hj]
    simp [List.getD, show j < xs.length by omega]
  · rw [List.getElem?_eq_none (by simp; omega), List.getElem?_eq_none (by omega)]


end Go.Proofs.Ytdimbnkgomfojaa
end

section
namespace Go.Proofs.Ytdimbnkgomfojaa
open Go.RowKit

/-- One of the things becomes another, on its own blocks and on new ones. -/
theorem Law.write' {w0 w w' : World} {ts ts' : List Thing} {t : Thing} (h : Law w0 (ts ++ t :: ts') w) (hc : Chg t.foot w w') (t' : Thing)
    (hf : ∀ k, t'.foot k → t.foot k ∨ (w.heap.size ≤ k ∧ k < w'.heap.size)) (ht : t'.holds w') : Law w0 (ts ++ t' :: ts') w' := by
  have hd := h.dis
  rw [List.pairwise_append, List.pairwise_cons] at hd
  obtain ⟨d1, ⟨d2, d3⟩, d4⟩ := hd
  have hrt := h.range t (by simp)
  have hrl : ∀ x, x ∈ ts → ∀ k, x.foot k → k < w.heap.size := fun x hm k hk => (h.range x (by simp [hm]) k hk).2
  have hrr : ∀ x, x ∈ ts' → ∀ k, x.foot k → k < w.heap.size := fun x hm k hk => (h.range x (by simp [hm]) k hk).2
  have keep : ∀ x, x ∈ ts ++ t :: ts' → (∀ k, x.foot k → ¬ t.foot k) → x.holds w' := fun x hm hn => x.stable w w' hc.size (fun k hk => hc.block k (h.range x hm k hk).2 (hn k hk)) (h.holds x hm)
  refine ⟨?_, ?_, ?_, ?_⟩
  · exact h.below.trans ⟨hc.os, hc.tape, hc.output, hc.size, fun k hk => hc.block k (by have := h.below.size; omega) (fun e => by have := (hrt k e).1; omega)⟩
  · intro x hm
    rcases List.mem_append.1 hm with hm | hm
    · exact keep x (by simp [hm]) (fun k hk e => d4 x hm t (by simp) k hk e)
    · rcases List.mem_cons.1 hm with rfl | hm
      · exact ht
      · exact keep x (by simp [hm]) (fun k hk e => d2 x hm k e hk)
  · intro x hm k hk
    rcases List.mem_append.1 hm with hm | hm
    · exact ⟨(h.range x (by simp [hm]) k hk).1, Nat.lt_of_lt_of_le (h.range x (by simp [hm]) k hk).2 hc.size⟩
    · rcases List.mem_cons.1 hm with rfl | hm
      · rcases hf k hk with hk | hk
        · exact ⟨(hrt k hk).1, Nat.lt_of_lt_of_le (hrt k hk).2 hc.size⟩
        · have := h.below.size
          omega
      · exact ⟨(h.range x (by simp [hm]) k hk).1, Nat.lt_of_lt_of_le (h.range x (by simp [hm]) k hk).2 hc.size⟩
  · rw [List.pairwise_append, List.pairwise_cons]
    refine ⟨d1, ⟨fun b hb k e1 e2 => ?_, d3⟩, fun a ha b hb k e e2 => ?_⟩
    · rcases hf k e1 with e1 | e1
      · exact d2 b hb k e1 e2
      · have := hrr b hb k e2
        omega
    · rcases List.mem_cons.1 hb with rfl | hb
      · rcases hf k e2 with e2 | e2
        · exact d4 a ha t (by simp) k e e2
        · have := hrl a ha k e
          omega
      · exact d4 a ha b (by simp [hb]) k e e2

/-- One of the slices has grown. -/
theorem Law.grow {w0 w w' : World} {ts ts' : List Thing} {s s' : Value} {xs ys : List Int} (h : Law w0 (ts ++ tOwn s xs :: ts') w) (hg : w.grownBy w' s.ownBlock) {lo : Nat} (hs : Own w' lo s' ys)
    (hb : ∀ k, s'.ownBlock = some k → s.ownBlock = some k ∨ k = w.heap.size) : Law w0 (ts ++ tOwn s' ys :: ts') w' :=
  h.write' (Chg.of_grown hg (fun _ e => e)) (tOwn s' ys) (fun k hk => by
    rcases hb k hk with e | e
    · exact .inl e
    · exact .inr ⟨by omega, (own_lt hs k hk).2⟩) (hs.lower (Nat.zero_le _))

/-- The third cell of a box is written. -/
theorem Law.set2 {w0 w : World} {ts ts' : List Thing} {n : Nat} {x y z : Value} (h : Law w0 (ts ++ tBox n x y z :: ts') w) (z' : Value) :
    Law w0 (ts ++ tBox n x y z' :: ts') (w.setCell ⟨n, 2, none⟩ z') := by
  have hb : Box w n x y z := h.holds (tBox n x y z) (by simp)
  refine h.write (t := tBox n x y z) (show Chg (tBox n x y z).foot w (w.setCell ⟨n, 2, none⟩ z') from ⟨rfl, rfl, rfl, by simp [World.setCell], fun k _ hf => Below.heap_setCell w ⟨n, 2, none⟩ z' k (fun e => hf e)⟩) (tBox n x y z') rfl ?_
  refine ⟨by have := hb.lt; simp [World.setCell]; omega, ?_, ?_, ?_, fun o => by rw [World.frozen?_setCell]; exact hb.fr o⟩
  · rw [World.cell?_setCell_other _ _ _ _ (by simp)]; exact hb.c0
  · rw [World.cell?_setCell_other _ _ _ _ (by simp)]; exact hb.c1
  · exact World.cell?_setCell_same _ _ _ hb.c2

/-- append of one number, as one step of a region that draws. -/
theorem step_app {ops : Array Oper} {o : Oper} {a : Act} {w : World} {K : Act → World → Prop} {Q : Exit → Act → World → Prop} {E : Prop} (hgd : o.guard = none) (s x : Operand)
    (ho : o.op = .call { callee := .builtin .append, args := #[s, x], argTypes := #[22, 22] }) (lo : Nat) (v : Value) (xs : List Int) (n : Nat) (y : Int) (g0 : Nat)
    (hs : a.eval s = v) (hx : a.eval x = .slice (some ⟨g0, 0, none⟩) 1 1) (hown : Own w lo v xs) (hn : xs.length = n) (hnew : w.cell? ⟨g0, 0, none⟩ = some (.int .i64 y)) (hl : n + 1 ≤ 1048576) (hlo : lo ≤ w.heap.size) (H : Nat) (hH : w.heap.size = H)
    (h : ∀ g cap w', Own w' lo (.slice (some ⟨g, 0, none⟩) (n + 1) cap) (xs ++ [y]) → w.grownBy w' v.ownBlock → (v.ownBlock = some g ∨ g = H) → g < w'.heap.size → K (a.put o.dst (.slice (some ⟨g, 0, none⟩) (n + 1) cap)) w') :
    if Region.wanted o (yielded ops a.tmps) = true then Oper.wp Try.prog o a w K Q else E := by
  subst hn
  obtain ⟨i0, hi, hz0, hz1, hz2⟩ := info_parts Try.infoI
  refine step_append_lies w hgd s x 22 ho lo 3 i0 (.int .i64 0) 1 8 Try.underlying22 hi hz0 hz1 hz2 rfl (by decide) v xs.length _ hs hown ⟨g0, 0, none⟩ 1 1 [.int .i64 y] hx rfl ?_ (by intro u hu; simp at hu; subst hu; rfl) (by decide) (by unfold maxLen; omega) (by omega) hlo H hH ?_
  · intro j u hu
    match j, hu with
    | 0, hu =>
      simp at hu
      subst hu
      rw [Addr.add_lit]
      exact hnew
  · intro g cap w' h1 h2 h3 h4
    refine h g cap w' ?_ h2 h3 h4
    unfold Own
    rw [List.length_append, List.map_append]
    exact h1

end Go.Proofs.Ytdimbnkgomfojaa
end

section
namespace Go.Proofs.Ytdimbnkgomfojaa
open Go.RowKit Go.WideShapes

/-- The index that i was, before a line went away. -/
def sk (i s : Nat) : Nat := if i < s then i else i + 1
/-- A row without its place j: m places are left. -/
def skv (x : Int) (j m : Nat) : Int := (rowM (fun c => x.toNat.testBit (sk c j)) m : Int)
def strikeL (xs : List Int) (i j m : Nat) : List Int := (xs.eraseIdx i).map (fun x => skv x j m)
def strikeB (r c : Int) (xs : List Int) (i j : Int) : BR := if placeB r c xs i j && (!(r == 1) && !(c == 1)) then ⟨r - 1, c - 1, strikeL xs i.toNat j.toNat (c - 1).toNat, true⟩ else BR.zero
theorem strikeL_len (xs : List Int) (i j m : Nat) (h : i < xs.length) : (strikeL xs i j m).length = xs.length - 1 := by
  simp [strikeL, List.length_eraseIdx, h]
theorem strikeB_len (r c : Int) (xs : List Int) (i j : Int) : (strikeB r c xs i j).xs.length ≤ 1048576 := by
  unfold strikeB
  split
  · rename_i h
    rw [Bool.and_eq_true, placeB, Bool.and_eq_true] at h
    have := good_facts h.1.1
    have := insB_iff.1 h.1.2
    rw [strikeL_len _ _ _ _ (by omega)]
    omega
  · simp [BR.zero]
theorem strike_cells (M : Nat → Int) (xs : List Int) (i j m n : Nat) (hM : ∀ k, M k = xs.getD k 0) (hl : xs.length = n + 1) (hn : n ≤ 6) (hi : i < n + 1) :
    (([0, 1, 2, 3, 4, 5].take n).map fun k => (rowM ((fun k l => (M (sk k i)).toNat.testBit (sk l j) : Nat → Nat → Bool) k) m : Int)) = strikeL xs i j m :=
  cells_n n _ _ (by rw [strikeL_len _ _ _ _ (by omega)]; omega) hn (fun k hk => by
    simp only [hM]
    show skv (xs.getD (sk k i) 0) j m = _
    have e : (xs.eraseIdx i)[k]? = xs[sk k i]? := by
      rw [List.getElem?_eraseIdx]
      unfold sk
      split <;> rfl
    have hs : sk k i < xs.length := by unfold sk; split <;> omega
    rw [List.getD_eq_getElem?_getD, List.getD_eq_getElem?_getD, strikeL, List.getElem?_map, e]
    simp [hs])

theorem gridOf_good (r c : Int) (a : Option Addr) (cap : Nat) (xs : List Int) (w : World) (hx : xs.length ≤ 1048576) (hr : Reads w a xs.length xs) (hg : goodB r c xs = true) :
    ∃ M : Nat → Int, (∀ k, M k = xs.getD k 0) ∧ Calls Try.prog 50 #[.agg #[.int .i64 r, .int .i64 c, .slice a xs.length cap]] w
      fun e w' => e = .returned (.tuple #[gv r c M, .bool true]) ∧ Below w.heap.size w w' :=
  ⟨_, fun _ => rfl, gridOf_yes r c a cap xs w hx hr hg⟩


end Go.Proofs.Ytdimbnkgomfojaa
end

section
namespace Go.Proofs.Ytdimbnkgomfojaa
open Go.RowKit Go.WideShapes

theorem firstCols_any (x : Int) (w : World) (hx : 0 ≤ x ∧ x ≤ 6) : Calls Try.prog 116 #[.int .i64 x] w fun e w' => e = .returned (.int .i64 (pw x - 1)) ∧ w' = w := by
  obtain ⟨hp1, hp2, hp3, hp4⟩ := pw_bd hx
  have h0 : 0 ≤ x := hx.1
  have h1 : x < 64 := by omega
  clear hx
  go_enter Try.func116, Try.ntmps116
  go_wp2_with fail
  go_ret
  exact ⟨rfl, rfl⟩

/-- The masks of rows behind k rounds. -/
def mskG (M : Nat → Int) (k q : Nat) : Int := if q < k then pw (M q) - 1 else 0

set_option maxRecDepth 100000 in
set_option maxHeartbeats 3200000 in
theorem serGrid_any (n : Nat) (M : Nat → Int) (w : World) (hn : n ≤ 6) (hM : ∀ k, 0 ≤ M k ∧ M k ≤ 6) :
    Calls Try.prog 123 #[sv n M] w fun e w' => e = .returned (gv n n (mskG M n)) ∧ Below w.heap.size w w' := by
  have L0 := (((Law.start w).has (sl n M) 88).has (gl 0 0 (fun _ => 0)) 59).has (gl n n (mskG M 0)) 59
  simp only [World.size_alloc] at L0
  have HL := Lib.hid L0
  have HY := Lib.hid hM
  clear L0 hM
  go_enter Try.func123, Try.ntmps123
  go_upto_region 2 with fail
  rw [show ((w.alloc (.cells (sl n M).toArray 88)).alloc (.cells (gl 0 0 (fun _ => 0)).toArray 59)).alloc (.cells (gl n n (mskG M 0)).toArray 59) = ((w.alloc (.cells #[.int .i64 n, .int .i64 (M 0), .int .i64 (M 1), .int .i64 (M 2), .int .i64 (M 3), .int .i64 (M 4), .int .i64 (M 5)] 88)).alloc (.cells #[.int .i64 0, .int .i64 0, .int .i64 0, .int .i64 0, .int .i64 0, .int .i64 0, .int .i64 0, .int .i64 0] 59)).alloc (.cells #[.int .i64 n, .int .i64 n, .int .i64 0, .int .i64 0, .int .i64 0, .int .i64 0, .int .i64 0, .int .i64 0] 59) from rfl] at HL
  generalize ((w.alloc _).alloc _).alloc _ = w6 at *
  have ⟨e0, _⟩ := HL.out.tl.tl.ownHas.seven
  go_wp2_with fail
  clear e0
  go_loopw [12] (fun i wr => ∃ k : Nat, k ≤ n ∧ i = .int .i64 k ∧ Law w [tHas (w.heap.size + 1 + 1) (gl n n (mskG M k)) 59, tHas (w.heap.size + 1) (gl 0 0 (fun _ => 0)) 59, tHas w.heap.size (sl n M) 88] wr) (fun i _ => n - (intOf i).toNat)
  case atStart => exact ⟨0, Nat.zero_le _, rfl, HL.out⟩
  case round =>
    clear HL
    obtain ⟨k, hk, rfl, L⟩ := hrel
    obtain ⟨wo, rfl⟩ : ∃ wo : World, wo = wr := ⟨_, rfl⟩
    by_cases hlt : k < n
    · have hcx := L.tl.tl.ownHas.cell (1 + k)
      rw [sl_get _ _ k (by omega)] at hcx
      have hcz := L.ownHas.cell (2 + k)
      rw [gl_get _ _ _ k (by omega)] at hcz
      have hfz := L.ownHas.free (2 + k)
      have hy := HY.out k
      have HF := Lib.hid (fun W => firstCols_any (M k) W hy)
      have hS := (Law.setHas (ts := []) L (2 + k) (.int .i64 (pw (M k) - 1)))
      rw [gl_set _ _ (mskG M k) (mskG M (k + 1)) k (by omega) _ (by unfold mskG; rw [if_pos (by omega)]) (fun q hq => by
        unfold mskG
        by_cases h : q < k
        · rw [if_pos h, if_pos (by omega)]
        · rw [if_neg h, if_neg (by omega)])] at hS
      have HS := Lib.hid hS
      generalize mskG M k k = u at *
      generalize M k = x at *
      clear L hS hy
      go_wp2_with fail
      refine (HF.out _).mono ?_
      rintro e w' ⟨rfl, hww⟩
      subst hww
      go_wp2_with fail
      go_roundw
      case rel => exact ⟨k + 1, by omega, by go_num, HS.out⟩
      case measure => simp [intOf]; omega
    · obtain rfl : k = n := by omega
      obtain ⟨c0, c1, c2, c3, c4, c5, c6, c7, _⟩ := L.ownHas.eight
      obtain ⟨f0, f1, f2, f3, f4, f5, f6, f7, ff⟩ := L.tl.ownHas.eight
      have hrow : wo.heap[w.heap.size + 1 + 1]? = some (.cells #[.int .i64 k, .int .i64 k, .int .i64 (mskG M k 0), .int .i64 (mskG M k 1), .int .i64 (mskG M k 2), .int .i64 (mskG M k 3), .int .i64 (mskG M k 4), .int .i64 (mskG M k 5)] 59 (0, 0)) := L.ownHas.row
      have HB := Lib.hid L.below
      clear L hlt
      go_wp2_with (refine wpList_load_row rfl 59 _ rfl _ rfl _ _ _ _ hrow Try.underlying59 rfl (by kernel_rfl) ?_)
      refine bodyPost_ret (v := gv k k (mskG M k)) (by simp [results, Try.results123, go_sem, f0, f1, f2, f3, f4, f5, f6, f7]) rfl ⟨rfl, ?_⟩
      have h2 := HB.out
      repeat (refine Below.setCell ?_ (by simp <;> omega) _)
      exact h2
end Go.Proofs.Ytdimbnkgomfojaa
end
