/- A board out of its cells: the plain part. No condition. -/
import Derived.Test.YtddmommamcgelabM4
import Derived.Test.YtddmommamcgelabK
import Derived.BigRegion
import Derived.Deep.RegionWith
import Derived.Deep.RegionHeld3
import Derived.Deep.DeepCutAuto
namespace Go.Proofs.Ytddmommamcgelab
open Go.RowKit Go.WideShapes

theorem OwnM.kept {w w' : World} {lo : Nat} {v : Value} {vs : List Value} {rss : List (List Int)} (h : OwnM w lo v vs rss) (hb : Below w.heap.size w w') : OwnM w' lo v vs rss := by
  refine h.stay (row := none) ⟨hb.os, hb.tape, hb.output, hb.size, fun k hk _ => hb.block k hk⟩ ?_ (fun u _ => ?_)
  · cases v.ownBlock <;> simp
  · cases u.ownBlock <;> simp

/-- May the cell x be put into a board of n rows and m columns with the masks M? -/
def okC (n m : Int) (M : Nat → Int) (x : List Int) : Bool := decide (x.length = 2) && (insB n m (x.getD 0 0) (x.getD 1 0) && !((M (x.getD 0 0).toNat).toNat.testBit (x.getD 1 0).toNat))
def addC (M : Nat → Int) (x : List Int) : Nat → Int := fun q => if q = (x.getD 0 0).toNat then M q + 2 ^ (x.getD 1 0).toNat else M q
def goC (n m : Int) : (Nat → Int) → List (List Int) → Option (Nat → Int)
  | M, [] => some M
  | M, x :: r => if okC n m M x = true then goC n m (addC M x) r else none
theorem goC_append (n m : Int) (l r : List (List Int)) : ∀ M M', goC n m M l = some M' → goC n m M (l ++ r) = goC n m M' r := by
  induction l with
  | nil => intro M M' h; simp [goC] at h; subst h; rfl
  | cons x l ih =>
    intro M M' h
    rw [goC] at h
    rw [List.cons_append, goC]
    split at h
    · rename_i hk
      rw [if_pos hk]
      exact ih _ _ h
    · cases h
theorem goC_next (n m : Int) (l : List (List Int)) (M M' : Nat → Int) (k : Nat) (hk : k < l.length) (h : goC n m M (l.take k) = some M') (ho : okC n m M' l[k] = true) : goC n m M (l.take (k + 1)) = some (addC M' l[k]) := by
  rw [List.take_succ_eq_append_getElem hk, goC_append n m _ _ M M' h, goC, if_pos ho]
  rfl
theorem goC_stop (n m : Int) (l : List (List Int)) (M M' : Nat → Int) (k : Nat) (hk : k < l.length) (h : goC n m M (l.take k) = some M') (ho : okC n m M' l[k] = false) : goC n m M l = none := by
  conv => lhs; rw [← List.take_append_drop k l, List.drop_eq_getElem_cons hk]
  rw [goC_append n m _ _ M M' h, goC, if_neg (by rw [ho]; simp)]

theorem pop_put (x : Int) (j : Nat) (h : 0 ≤ x ∧ x < 64) (hj : j < 6) (hb : x.toNat.testBit j = false) : pop (x + 2 ^ j) = pop x + 1 ∧ 0 ≤ x + 2 ^ j ∧ x + 2 ^ j < 64 ∧ bits .or .i64 x (wrap64 (2 ^ j)) = x + 2 ^ j := by
  obtain ⟨n, rfl⟩ := Int.eq_ofNat_of_zero_le h.1
  have key : ∀ n : Fin 64, ∀ j : Fin 6, ((n : Nat) : Int).toNat.testBit j = false → pop (((n : Nat) : Int) + 2 ^ (j : Nat)) = pop ((n : Nat) : Int) + 1 ∧ 0 ≤ ((n : Nat) : Int) + 2 ^ (j : Nat) ∧ ((n : Nat) : Int) + 2 ^ (j : Nat) < 64 ∧ bits .or .i64 ((n : Nat) : Int) (wrap64 (2 ^ (j : Nat))) = ((n : Nat) : Int) + 2 ^ (j : Nat) := by decide +kernel
  exact key ⟨n, by omega⟩ ⟨j, hj⟩ hb
/-- The masks are masks of n rows and m columns, with k cells. -/
structure Fit6 (M : Nat → Int) (k : Nat) : Prop where
  bd : ∀ q, 0 ≤ M q ∧ M q < 64
  sum : sumP M 6 = k
theorem fit_zero : Fit6 (fun _ => 0) 0 := ⟨fun _ => by simp, by decide +kernel⟩
theorem okC_facts {n m : Int} {M : Nat → Int} {x : List Int} (h : okC n m M x = true) : ∃ i j : Int, x = [i, j] ∧ 0 ≤ i ∧ i < n ∧ 0 ≤ j ∧ j < m ∧ (M i.toNat).toNat.testBit j.toNat = false := by
  unfold okC at h
  simp only [Bool.and_eq_true, decide_eq_true_eq, Bool.not_eq_true'] at h
  obtain ⟨h1, h2, h3⟩ := h
  match x, h1 with
  | [i, j], _ =>
    have h2 : insB n m i j = true := h2
    rw [insB_iff] at h2
    exact ⟨i, j, rfl, h2.1, h2.2.1, h2.2.2.1, h2.2.2.2, h3⟩
theorem fit_add {n m : Int} {M : Nat → Int} {k : Nat} {x : List Int} (hf : Fit6 M k) (h : okC n m M x = true) (hn : n ≤ 6) (hm : m ≤ 6) : Fit6 (addC M x) (k + 1) := by
  obtain ⟨i, j, rfl, h1, h2, h3, h4, h5⟩ := okC_facts h
  obtain ⟨a, rfl⟩ := Int.eq_ofNat_of_zero_le h1
  obtain ⟨b, rfl⟩ := Int.eq_ofNat_of_zero_le h3
  rw [Int.toNat_natCast, Int.toNat_natCast] at h5
  have ha : a < 6 := by omega
  obtain ⟨p1, p2, p3, _⟩ := pop_put (M a) b (hf.bd a) (by omega) h5
  have e : addC M [(a : Int), (b : Int)] = fun q => if q = a then M q + 2 ^ b else M q := by funext q; simp [addC]
  rw [e]
  refine ⟨fun q => ?_, ?_⟩
  · by_cases hq : q = a
    · subst hq; simp only [if_pos]; exact ⟨p2, p3⟩
    · simp only [if_neg hq]; exact hf.bd q
  · have hs := hf.sum
    simp only [sumP] at hs ⊢
    have : a = 0 ∨ a = 1 ∨ a = 2 ∨ a = 3 ∨ a = 4 ∨ a = 5 := by omega
    rcases this with rfl | rfl | rfl | rfl | rfl | rfl <;> simp <;> omega
theorem goC_fit (n m : Int) (hn : n ≤ 6) (hm : m ≤ 6) (l : List (List Int)) : ∀ (M M' : Nat → Int) (k : Nat), Fit6 M k → goC n m M l = some M' → Fit6 M' (k + l.length) := by
  induction l with
  | nil => intro M M' k hf h; simp [goC] at h; subst h; exact hf
  | cons x l ih =>
    intro M M' k hf h
    rw [goC] at h
    split at h
    · rename_i hk
      have := ih _ _ _ (fit_add hf hk hn hm) h
      rw [List.length_cons]
      rw [show k + (l.length + 1) = k + 1 + l.length by omega]
      exact this
    · cases h
theorem goC_len {n m : Int} (hn : n ≤ 6) (hm : m ≤ 6) {l : List (List Int)} {M' : Nat → Int} (h : goC n m (fun _ => 0) l = some M') : l.length ≤ 36 := by
  have := (goC_fit n m hn hm l _ _ 0 fit_zero h).sum
  have := (sumP_bd M' 6).2
  omega

/-- What FromCells answers. -/
def fromB (r c : Int) (cells : List (List Int)) : BR :=
  if inB 1 r 6 && inB 1 c 6 then (match goC r c (fun _ => 0) cells with | some M => ⟨r, c, [M 0, M 1, M 2, M 3, M 4, M 5].take r.toNat, true⟩ | none => BR.zero) else BR.zero
theorem fromB_len (r c : Int) (cells : List (List Int)) : (fromB r c cells).xs.length ≤ 1048576 := by
  unfold fromB
  split
  · split
    · simp; omega
    · simp [BR.zero]
  · simp [BR.zero]
theorem fromB_off {r c : Int} (cells : List (List Int)) (h : (inB 1 r 6 && inB 1 c 6) = false) : fromB r c cells = BR.zero := by unfold fromB; rw [h]; rfl
theorem fromB_none {r c : Int} {cells : List (List Int)} (h : goC r c (fun _ => 0) cells = none) : fromB r c cells = BR.zero := by
  unfold fromB
  split
  · rw [h]
  · rfl
theorem fromB_some {r c : Int} {cells : List (List Int)} {M : Nat → Int} (h1 : (inB 1 r 6 && inB 1 c 6) = true) (h : goC r c (fun _ => 0) cells = some M) : fromB r c cells = ⟨r, c, [M 0, M 1, M 2, M 3, M 4, M 5].take r.toNat, true⟩ := by
  unfold fromB
  rw [h1, if_pos rfl, h]


end Go.Proofs.Ytddmommamcgelab
