import Derived.Test.YtjmefcebldifaabFold15
import Derived.Test.YtjmefcebldifaabFold4
import Derived.Test.YtjmefcebldifaabFold14
import Derived.Test.YtjmefcebldifaabFold7
import Derived.Test.YtjmefcebldifaabFold8
import Derived.Test.YtjmefcebldifaabFold5
import Derived.Deep.RegionWith
import Derived.Deep.RegionHeld3
import Derived.Deep.DeepCutAuto
import Derived.Deep.RegionLaw
import Derived.IntWalk

section
namespace Go.Proofs.Ytjmefcebldifaab
open Go.RowKit Go.WideShapes

set_option maxRecDepth 100000 in
set_option maxHeartbeats 6400000 in
theorem walk_any (n m k : Nat) (M : Nat → Int) (V : FuncId) (first cap : Array Value) (foot : Nat → Prop) (I : Nat → World → Prop) (cont : Nat → Bool) (w : World)
    (hn : n ≤ 6) (hm : m ≤ 6) (hk : k ≤ 6) (hgc : ∀ k, k < 6 → 0 ≤ M k ∧ M k < 64)
    (hfoot : ∀ b, foot b → b < w.heap.size) (hkeep : ∀ j w1 w2, Chg (fun b => w.heap.size ≤ b) w1 w2 → I j w1 → I j w2)
    (hcall : ∀ (args : Array Value) (w : World), (callFunc V args).run Try.prog w = .ok (.enter V args) w)
    (hvis : ∀ j P, (pl m (bM M) n 0 0 k)[j]? = some P → ∀ w, I j w → Calls Try.prog V (first.push (pv6 (plF P n)) ++ cap) w fun e w' => e = .returned (.bool (cont j)) ∧ I (j + 1) w' ∧ Chg foot w w')
    (hI : I 0 w) :
    Calls Try.prog 79 #[gv n m M, .int .i64 k, .func (.func V) first cap] w fun e w' => e = .returned (.tuple #[]) ∧ I (runV cont 0 (wR m (bM M) n 0 0 k)).1 w' ∧ Chg foot w w' := by
  have L0 := ((Law.start w).has (gl n m M) 56).has [.func (.func V) first cap] 65
  simp only [World.size_alloc] at L0
  have HL := Lib.hid L0
  have HV := Lib.hid hvis
  have HKP := Lib.hid hkeep
  have HFT := Lib.hid hfoot
  have HIW := Lib.hid hI
  have HGC := Lib.hid hgc
  have HLEN := Lib.hid (pl_len m (bM M) n 0 0 k)
  clear L0 hvis hkeep hfoot hI hgc
  go_enter Try.func79, Try.ntmps79
  go_wp2_with fail
  refine (noPlaces_any _).mono ?_
  rintro e w1 ⟨rfl, hb⟩
  have L1 := ((HL.out.kept hb).has (pl6 (fun _ => -1)) 59).has [.func (.func 88) #[] #[.pointer (some ⟨w.heap.size, 0, none⟩), .pointer (some ⟨w.heap.size + 1, 0, none⟩), .pointer (some ⟨w1.heap.size, 0, none⟩), .pointer (some ⟨w1.heap.size + 1, 0, none⟩)]] 61
  simp only [World.size_alloc] at L1
  rw [show (w1.alloc (.cells (pl6 (fun _ => -1)).toArray 59)) = (w1.alloc (.cells #[.int .i64 (-1), .int .i64 (-1), .int .i64 (-1), .int .i64 (-1), .int .i64 (-1), .int .i64 (-1)] 59)) from rfl] at L1
  have hz1 := hb.size
  simp only [World.size_alloc] at hz1
  have L2 : Law w [tHas (w1.heap.size + 1) [.func (.func 88) #[] #[.pointer (some ⟨w.heap.size, 0, none⟩), .pointer (some ⟨w.heap.size + 1, 0, none⟩), .pointer (some ⟨w1.heap.size, 0, none⟩), .pointer (some ⟨w1.heap.size + 1, 0, none⟩)]] 61, tHas w1.heap.size (pl6 (fun _ => -1)) 59, tHas (w.heap.size + 1) [.func (.func V) first cap] 65, tHas w.heap.size (gl n m M) 56] ((w1.alloc (.cells #[.int .i64 (-1), .int .i64 (-1), .int .i64 (-1), .int .i64 (-1), .int .i64 (-1), .int .i64 (-1)] 59)).alloc (.cells #[.func (.func 88) #[] #[.pointer (some ⟨w.heap.size, 0, none⟩), .pointer (some ⟨w.heap.size + 1, 0, none⟩), .pointer (some ⟨w1.heap.size, 0, none⟩), .pointer (some ⟨w1.heap.size + 1, 0, none⟩)]] 61)) := L1
  have HL1 := Lib.hid L2
  clear L1 L2 hb HL
  go_upto_region 4 with fail
  generalize (w1.alloc (.cells #[.int .i64 (-1), .int .i64 (-1), .int .i64 (-1), .int .i64 (-1), .int .i64 (-1), .int .i64 (-1)] 59)).alloc (.cells #[.func (.func 88) #[] #[.pointer (some ⟨w.heap.size, 0, none⟩), .pointer (some ⟨w.heap.size + 1, 0, none⟩), .pointer (some ⟨w1.heap.size, 0, none⟩), .pointer (some ⟨w1.heap.size + 1, 0, none⟩)]] 61) = w5 at *
  have v0 := HL1.out.ownHas.cell 0
  simp only [List.getElem?_cons_zero] at v0
  have hok : WkOk n V first cap w.heap.size (w.heap.size + 1) w1.heap.size (w1.heap.size + 1) foot I cont (pl m (bM M) n 0 0 k) :=
    ⟨by omega, by omega, by omega, fun h => by have := HFT.out _ h; omega, fun h => by have := HFT.out _ h; omega, fun h => by have := HFT.out _ h; omega, fun h => by have := HFT.out _ h; omega,
      fun j a b hc hi => HKP.out j a b (hc.mono (fun q hq => by subst hq; omega)) hi, hcall, HV.out⟩
  have hwk : Wk n m M V first cap w.heap.size (w.heap.size + 1) w1.heap.size (w1.heap.size + 1) I (plF [] 0) 0 w5 :=
    ⟨HL1.out.tl.tl.tl.ownHas, HL1.out.tl.tl.ownHas, HL1.out.tl.ownHas, HL1.out.ownHas, HKP.out 0 w w5 (Chg.of_below HL1.out.below) HIW.out⟩
  have hr := walk1_any n m M V first cap w.heap.size (w.heap.size + 1) w1.heap.size (w1.heap.size + 1) foot I cont (pl m (bM M) n 0 0 k) hn hm HGC.out hok n 0 0 k [] (by omega) (by omega) hk rfl 0 [] (by simp) w5 hwk
  rw [show ((0 : Nat) : Int) = 0 from rfl, HLEN.out] at hr
  have HR := Lib.hid hr
  have HB := Lib.hid HL1.out.below
  clear hr hwk hok HL1 hcall
  go_wp2_with fail
  refine HR.out.mono ?_
  rintro e w6 ⟨rfl, hW, hC⟩
  rw [Nat.zero_add] at hW
  have HE := Lib.hid (show I (runV cont 0 (wR m (bM M) n 0 0 k)).1 w6 ∧ Chg foot w w6 from
    ⟨hW.inv, hC.os.trans HB.out.os, hC.tape.trans HB.out.tape, hC.output.trans HB.out.output, Nat.le_trans HB.out.size hC.size, fun b hb hf => (hC.block b (Nat.lt_of_lt_of_le hb HB.out.size) (fun h => h.elim (fun h2 => by omega) hf)).trans (HB.out.block b hb)⟩)
  clear hW hC HR
  go_wp2_with fail
  go_end0
  exact ⟨rfl, HE.out⟩
end Go.Proofs.Ytjmefcebldifaab
end

section
namespace Go.Proofs.Ytjmefcebldifaab
open Go.RowKit Go.WideShapes

/-- What the visitor has kept behind j placements. -/
def visF (L : List (List Int)) (n j : Nat) : Nat → Int := if j = 0 then fun _ => 0 else plF (L.getD (j - 1) []) n
/-- A walk that stops at a rank. -/
theorem runV_stop (cont : Nat → Bool) (rank : Nat) (hc : ∀ j, cont j = decide (j + 1 ≤ rank)) (s : Nat) : ∀ j, j ≤ rank → rank < j + s → runV cont j s = (rank + 1 - j, false) := by
  induction s with
  | zero => intro j h1 h2; omega
  | succ s ih =>
    intro j h1 h2
    rw [runV, hc j]
    by_cases h : j + 1 ≤ rank
    · rw [if_pos (by simpa using h), ih (j + 1) h (by omega)]
      simp only [Prod.mk.injEq, and_true]
      omega
    · rw [if_neg (by simpa using h)]
      simp only [Prod.mk.injEq, and_true]
      omega
theorem Has.setRow6 {w : World} {b : Nat} {G : Nat → Int} {t : TypeId} (h : Has w b (pl6 G) t) (F : Nat → Int) : Has (w.setRow b #[.int .i64 (F 0), .int .i64 (F 1), .int .i64 (F 2), .int .i64 (F 3), .int .i64 (F 4), .int .i64 (F 5)]) b (pl6 F) t :=
  setRow_heap w b _ _ t (0, 0) h
theorem Has.setRowOff {w : World} {b : Nat} {cs : List Value} {t : TypeId} (h : Has w b cs t) (g : Nat) (ds : Array Value) (hg : b ≠ g) : Has (w.setRow g ds) b cs t :=
  (setRow_other w g b ds hg).trans h
theorem Chg.setRow {foot : Nat → Prop} (w : World) (b : Nat) (ds : Array Value) (hf : foot b) : Chg foot w (w.setRow b ds) :=
  ⟨rfl, rfl, rfl, by simp, fun k _ hk => setRow_other w b k ds (fun e => hk (by rw [e]; exact hf))⟩
theorem Has.setOff {w : World} {b : Nat} {cs : List Value} {t : TypeId} (h : Has w b cs t) (g o : Nat) (v : Value) (hg : b ≠ g) : Has (w.setCell ⟨g, o, none⟩ v) b cs t :=
  (Below.heap_setCell w ⟨g, o, none⟩ v b hg).trans h
theorem Chg.of_set {foot : Nat → Prop} (w : World) (b o : Nat) (v : Value) (hf : foot b) : Chg foot w (w.setCell ⟨b, o, none⟩ v) :=
  ⟨rfl, rfl, rfl, by simp [World.setCell], fun k _ hk => Below.heap_setCell w ⟨b, o, none⟩ v k (fun e => hk (by rw [show k = b from e]; exact hf))⟩
theorem Has.one {w : World} {b : Nat} {v0 : Value} {t : TypeId} (h : Has w b [v0] t) : w.cell? ⟨b, 0, none⟩ = some v0 ∧ ∀ o, w.frozen? ⟨b, o, none⟩ = false := ⟨h.cell 0, h.free⟩

end Go.Proofs.Ytjmefcebldifaab
end

section
namespace Go.Proofs.Ytjmefcebldifaab
open Go.RowKit Go.WideShapes

/-- The mask of the places c < n with p c. -/
def rowM (p : Nat → Bool) : Nat → Nat
  | 0 => 0
  | c + 1 => rowM p c + if p c then 2 ^ c else 0
theorem rowM_lt (p : Nat → Bool) (n : Nat) : rowM p n < 2 ^ n := by
  induction n with
  | zero => simp [rowM]
  | succ n ih => rw [rowM, Nat.pow_succ]; split <;> omega
theorem or_step (x : Nat) (c : Nat) (hc : c < 6) (h : x < 2 ^ c) : bits .or .i64 (x : Int) (wrap64 (2 ^ c)) = ((x + 2 ^ c : Nat) : Int) := by
  have key : ∀ c : Fin 6, ∀ x : Fin 64, (x : Nat) < 2 ^ (c : Nat) → bits .or .i64 ((x : Nat) : Int) (wrap64 (2 ^ (c : Nat))) = (((x : Nat) + 2 ^ (c : Nat) : Nat) : Int) := by decide +kernel
  have h64 : x < 64 := Nat.lt_of_lt_of_le h (by have := Nat.pow_le_pow_right (show 0 < 2 by omega) (show c ≤ 6 by omega); simpa using this)
  exact key ⟨c, hc⟩ ⟨x, h64⟩ h

/-- The masks when the rows before i and of row i the places before j are drawn. -/
def drawn (p : Nat → Nat → Bool) (m i j : Nat) : Nat → Int := fun k => if k < i then (rowM (p k) m : Int) else if k = i then (rowM (p i) j : Int) else 0
theorem drawn_next (p : Nat → Nat → Bool) (m i : Nat) : drawn p m i m = drawn p m (i + 1) 0 := by
  funext k
  unfold drawn
  by_cases h1 : k < i
  · rw [if_pos h1, if_pos (by omega)]
  · by_cases h2 : k = i
    · subst h2; rw [if_neg h1, if_pos rfl, if_pos (by omega)]
    · rw [if_neg h1, if_neg h2, if_neg (by omega)]
      split
      · simp [rowM]
      · rfl
theorem drawn_zero (p : Nat → Nat → Bool) (m : Nat) : drawn p m 0 0 = fun _ => 0 := by
  funext k
  unfold drawn
  rw [if_neg (by omega)]
  split
  · simp [rowM]
  · rfl
theorem drawn_skip (p : Nat → Nat → Bool) (m i j : Nat) (h : p i j = false) : drawn p m i (j + 1) = drawn p m i j := by
  funext k; unfold drawn; rw [rowM, h]; simp
theorem drawn_at (p : Nat → Nat → Bool) (m i j : Nat) : drawn p m i j i = (rowM (p i) j : Int) := by unfold drawn; rw [if_neg (by omega), if_pos rfl]
theorem drawn_put (p : Nat → Nat → Bool) (m i j : Nat) (h : p i j = true) : drawn p m i (j + 1) i = ((rowM (p i) j + 2 ^ j : Nat) : Int) := by rw [drawn_at, rowM, h]; simp
theorem drawn_off (p : Nat → Nat → Bool) (m i j k : Nat) (h : k ≠ i) : drawn p m i (j + 1) k = drawn p m i j k := by
  unfold drawn; rw [if_neg h, if_neg h]

/-- At the head of a round of the drawing: of what was there nothing has turned; the new board's block, and the grid. -/
structure Draw (w : World) (n m : Nat) (p : Nat → Nat → Bool) (i j : Nat) (wr : World) : Prop where
  below : Below w.heap.size w wr
  res : Has wr w.heap.size [.int .i64 0, .int .i64 0, .slice none 0 0] 28
  grid : Has wr (w.heap.size + 1) (gl n m (drawn p m i j)) 56

theorem Draw.kept {w : World} {n m : Nat} {p : Nat → Nat → Bool} {i j : Nat} {wr w' : World} (h : Draw w n m p i j wr) (hb : Below wr.heap.size wr w') : Draw w n m p i j w' :=
  ⟨below_on h.below hb, h.res.kept hb h.res.lt, h.grid.kept hb h.grid.lt⟩

theorem Draw.next {w : World} {n m : Nat} {p : Nat → Nat → Bool} {i : Nat} {wr : World} (h : Draw w n m p i m wr) : Draw w n m p (i + 1) 0 wr :=
  ⟨h.below, h.res, by rw [← drawn_next]; exact h.grid⟩
theorem Draw.skip {w : World} {n m : Nat} {p : Nat → Nat → Bool} {i j : Nat} {wr : World} (h : Draw w n m p i j wr) (hp : p i j = false) : Draw w n m p i (j + 1) wr :=
  ⟨h.below, h.res, by rw [drawn_skip p m i j hp]; exact h.grid⟩
theorem Draw.put {w : World} {n m : Nat} {p : Nat → Nat → Bool} {i j : Nat} {wr : World} (h : Draw w n m p i j wr) (hp : p i j = true) (hi : i < 6) :
    Draw w n m p i (j + 1) (wr.setCell ⟨w.heap.size + 1, 2 + i, none⟩ (.int .i64 ((rowM (p i) j + 2 ^ j : Nat) : Int))).drew := by
  refine ⟨(h.below.setCell (by simp <;> omega) _).drew, (h.res.other _ (by simp <;> omega) _).drew, ?_⟩
  have := h.grid.set (2 + i) (.int .i64 ((rowM (p i) j + 2 ^ j : Nat) : Int))
  rw [gl_set n m (drawn p m i j) (drawn p m i (j + 1)) i hi _ (drawn_put p m i j hp) (fun k hk => drawn_off p m i j k hk)] at this
  exact this.drew

end Go.Proofs.Ytjmefcebldifaab
end

section
namespace Go.Proofs.Ytjmefcebldifaab
open Go.RowKit Go.WideShapes

def fullB (r c : Int) : BR := if inB 1 r 6 && inB 1 c 6 then ⟨r, c, List.replicate r.toNat (pw c - 1), true⟩ else BR.zero

set_option maxHeartbeats 800000 in
theorem boEmpty_any (n m : Nat) (w : World) (hn : n ≤ 6) :
    Calls Try.prog 60 #[.int .i64 n, .int .i64 m] w fun e w' => ∃ s, e = .returned (.agg #[.int .i64 n, .int .i64 m, s]) ∧ Own w' w.heap.size s (List.replicate n 0) ∧ Below w.heap.size w w' := by
  have hmk := run_make_row' (P := Try.prog) 22 3 (.int .i64 0) 8 Try.underlying22 Try.infoI rfl .i64 .i64 n (by omega) (by omega)
  go_enter Try.func60, Try.ntmps60
  go_wp2
  refine bodyPost_ret (v := .agg #[.int .i64 n, .int .i64 m, .slice (some ⟨w.heap.size + 1, 0, none⟩) n n]) (by simp [results, Try.results60, go_sem] <;> omega) rfl ⟨_, rfl, ?_, ?_⟩
  · exact own_made _ n _ _ (by simp) (by omega) (by omega)
  · exact below_on (below_new _) (below_new _)


theorem rowM_full (m : Nat) : (rowM (fun _ => true) m : Int) = pw m - 1 := by
  have h : rowM (fun _ => true) m + 1 = 2 ^ m := by
    induction m with
    | zero => rfl
    | succ m ih => rw [rowM, Nat.pow_succ]; simp; omega
  unfold pw
  rw [Int.toNat_natCast]
  have : ((2 ^ m : Nat) : Int) = 2 ^ m := by simp
  omega
theorem full_cells (n m : Nat) (hn : n ≤ 6) : (([0, 1, 2, 3, 4, 5].take n).map fun k => (rowM ((fun _ _ => true : Nat → Nat → Bool) k) m : Int)) = List.replicate n (pw m - 1) := by
  simp only [rowM_full]
  have : n = 0 ∨ n = 1 ∨ n = 2 ∨ n = 3 ∨ n = 4 ∨ n = 5 ∨ n = 6 := by omega
  rcases this with rfl | rfl | rfl | rfl | rfl | rfl | rfl <;> rfl


theorem fullB_len (r c : Int) : (fullB r c).xs.length ≤ 1048576 := by
  unfold fullB
  split
  · rename_i h
    rw [Bool.and_eq_true, inB_iff] at h
    simp; omega
  · simp [BR.zero]

end Go.Proofs.Ytjmefcebldifaab
end

section
namespace Go.Proofs.Ytjmefcebldifaab
open Go.RowKit Go.WideShapes


/-- A zero board, and false: a call that fails. -/
theorem ansB_zero (w w' : World) (h : Below w.heap.size w w') : AnsB BR.zero w (.returned (.tuple #[.agg #[.int .i64 0, .int .i64 0, .slice none 0 0], .bool false])) w' := ⟨_, rfl, Own.nil _ _, h⟩

theorem cells_n (n : Nat) (f : Nat → Int) (xs : List Int) (hl : xs.length = n) (hn : n ≤ 6) (hf : ∀ k, k < n → f k = xs.getD k 0) : (([0, 1, 2, 3, 4, 5].take n).map f) = xs := by
  apply List.ext_getElem?
  intro j
  by_cases hj : j < n
  · have h6 : ([0, 1, 2, 3, 4, 5] : List Nat)[j]? = some j := by
      have : j = 0 ∨ j = 1 ∨ j = 2 ∨ j = 3 ∨ j = 4 ∨ j = 5 := by omega
      rcases this with rfl | rfl | rfl | rfl | rfl | rfl <;> rfl
    rw [List.getElem?_map, List.getElem?_take, if_pos hj, h6, Option.map_some, hf j hj]
    simp [List.getD, show j < xs.length by omega]
  · rw [List.getElem?_eq_none (by simp; omega), List.getElem?_eq_none (by omega)]


end Go.Proofs.Ytjmefcebldifaab
end

section
namespace Go.Proofs.Ytjmefcebldifaab
open Go.RowKit Go.WideShapes

/-- The index that i was, before a line went away. -/
def sk (i s : Nat) : Nat := if i < s then i else i + 1
/-- A row without its place j: m places are left. -/
def skv (x : Int) (j m : Nat) : Int := (rowM (fun c => x.toNat.testBit (sk c j)) m : Int)
def strikeL (xs : List Int) (i j m : Nat) : List Int := (xs.eraseIdx i).map (fun x => skv x j m)
def strikeB (r c : Int) (xs : List Int) (i j : Int) : BR := if placeB r c xs i j && (!(r == 1) && !(c == 1)) then ⟨r - 1, c - 1, strikeL xs i.toNat j.toNat (c - 1).toNat, true⟩ else BR.zero
theorem strikeL_len (xs : List Int) (i j m : Nat) (h : i < xs.length) : (strikeL xs i j m).length = xs.length - 1 := by
  simp [strikeL, List.length_eraseIdx, h]
theorem strikeB_len (r c : Int) (xs : List Int) (i j : Int) : (strikeB r c xs i j).xs.length ≤ 1048576 := by
  unfold strikeB
  split
  · rename_i h
    rw [Bool.and_eq_true, placeB, Bool.and_eq_true] at h
    have := good_facts h.1.1
    have := insB_iff.1 h.1.2
    rw [strikeL_len _ _ _ _ (by omega)]
    omega
  · simp [BR.zero]
theorem strike_cells (M : Nat → Int) (xs : List Int) (i j m n : Nat) (hM : ∀ k, M k = xs.getD k 0) (hl : xs.length = n + 1) (hn : n ≤ 6) (hi : i < n + 1) :
    (([0, 1, 2, 3, 4, 5].take n).map fun k => (rowM ((fun k l => (M (sk k i)).toNat.testBit (sk l j) : Nat → Nat → Bool) k) m : Int)) = strikeL xs i j m :=
  cells_n n _ _ (by rw [strikeL_len _ _ _ _ (by omega)]; omega) hn (fun k hk => by
    simp only [hM]
    show skv (xs.getD (sk k i) 0) j m = _
    have e : (xs.eraseIdx i)[k]? = xs[sk k i]? := by
      rw [List.getElem?_eraseIdx]
      unfold sk
      split <;> rfl
    have hs : sk k i < xs.length := by unfold sk; split <;> omega
    rw [List.getD_eq_getElem?_getD, List.getD_eq_getElem?_getD, strikeL, List.getElem?_map, e]
    simp [hs])

theorem gridOf_good (r c : Int) (a : Option Addr) (cap : Nat) (xs : List Int) (w : World) (hx : xs.length ≤ 1048576) (hr : Reads w a xs.length xs) (hg : goodB r c xs = true) :
    ∃ M : Nat → Int, (∀ k, M k = xs.getD k 0) ∧ Calls Try.prog 74 #[.agg #[.int .i64 r, .int .i64 c, .slice a xs.length cap]] w
      fun e w' => e = .returned (.tuple #[gv r c M, .bool true]) ∧ Below w.heap.size w w' :=
  ⟨_, fun _ => rfl, gridOf_yes r c a cap xs w hx hr hg⟩


end Go.Proofs.Ytjmefcebldifaab
end

section
namespace Go.Proofs.Ytjmefcebldifaab
open Go.RowKit Go.WideShapes



end Go.Proofs.Ytjmefcebldifaab
end

section
namespace Go.Proofs.Ytjmefcebldifaab
open Go.RowKit Go.WideShapes

/-- The rook numbers. -/
def numL (n m : Nat) (B : Nat → Nat → Bool) : List Int := lstL (min n m + 1) (wR m B n 0 0)
theorem numL_len (n m : Nat) (B : Nat → Nat → Bool) : (numL n m B).length = min n m + 1 := lstL_len _ _
theorem numL_get (n m : Nat) (B : Nat → Nat → Bool) (k : Nat) (h : k < min n m + 1) : (numL n m B).getD k 0 = wR m B n 0 0 k := lstL_get _ _ k h
theorem numL_bd (n m : Nat) (hn : n ≤ 6) (hm : m ≤ 6) (B : Nat → Nat → Bool) (k : Nat) : 0 ≤ (numL n m B).getD k 0 ∧ (numL n m B).getD k 0 ≤ 117649 := by
  by_cases h : k < min n m + 1
  · rw [numL_get n m B k h]
    have := wR_le m hm B n 0 0 k
    have := pow7 n hn
    omega
  · rw [List.getD_eq_getElem?_getD, List.getElem?_eq_none (by rw [numL_len]; omega)]
    simp
/-- The beginning of a list up to its last number that is not 0. -/
def shK (xs : List Int) : Nat → Nat
  | 0 => 0
  | k + 1 => if xs.getD k 0 = 0 then shK xs k else k + 1
theorem shK_le (xs : List Int) (k : Nat) : shK xs k ≤ k := by
  induction k with
  | zero => simp [shK]
  | succ k ih => rw [shK]; split <;> omega

def numB (r c : Int) (xs : List Int) : LR := if goodB r c xs then ⟨numL r.toNat c.toNat (bt xs), true⟩ else ⟨[], false⟩
theorem numB_len (r c : Int) (xs : List Int) : (numB r c xs).ys.length ≤ 1048576 := by
  unfold numB
  split
  · rename_i h
    have := good_facts h
    show (numL _ _ _).length ≤ _
    rw [numL_len]
    omega
  · simp


end Go.Proofs.Ytjmefcebldifaab
end

section
namespace Go.Proofs.Ytjmefcebldifaab
open Go.RowKit Go.WideShapes

theorem Own.capLe {w : World} {lo g L p : Nat} {xs : List Int} (h : Own w lo (.slice (some ⟨g, 0, none⟩) L p) xs) : L ≤ p := by
  rcases h.cases with ⟨h0, _⟩ | ⟨g', p', h0, _, _, h1, _⟩
  · cases h0
  · injection h0 with _ h2 h3
    omega

def sliceLen : Value → Nat
  | .slice _ n _ => n
  | _ => 0




end Go.Proofs.Ytjmefcebldifaab
end

section
namespace Go.Proofs.Ytjmefcebldifaab
open Go.RowKit Go.WideShapes

def isPlB (r c : Int) (xs P : List Int) : R2 := if goodB r c xs then ⟨placeP r.toNat c.toNat xs P, true⟩ else ⟨false, false⟩

theorem own_cap {w : World} {lo : Nat} {a : Option Addr} {n p : Nat} {xs : List Int} (h : Own w lo (.slice a n p) xs) : n ≤ p := by
  rcases h.cases with ⟨h0, _⟩ | ⟨g', p', h0, _, _, h1, _⟩
  · injection h0 with _ h2 h3
    omega
  · injection h0 with _ h2 h3
    omega


end Go.Proofs.Ytjmefcebldifaab
end
