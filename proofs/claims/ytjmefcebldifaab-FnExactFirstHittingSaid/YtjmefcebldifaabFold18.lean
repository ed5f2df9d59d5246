import Derived.Test.YtjmefcebldifaabFold17
import Derived.Laws.OwnMore
import Derived.Laws.AppendOwnNone
import Derived.Test.YtjmefcebldifaabFold14
import Derived.Deep.RegionHeld3
import Derived.Test.YtjmefcebldifaabFold16
import Derived.IntWalk

section
namespace Go.Proofs.Ytjmefcebldifaab
open Go.RowKit Go.WideShapes

theorem own_oneCell {w : World} {lo : Nat} {v : Value} {xs : List Int} (h : Own w lo v xs) : v.oneCell' = true := by
  rcases h.cases with ⟨rfl, _⟩ | ⟨g, cap, rfl, _⟩ <;> rfl

theorem OwnM.formR {w : World} {lo : Nat} {v : Value} {vs : List Value} {rss : List (List Int)} (h : OwnM w lo v vs rss) : ∃ a cap, v = .slice a rss.length cap := by
  rcases h.cases with ⟨rfl, rfl⟩ | ⟨g, cap, rfl, _⟩
  · have : rss = [] := by simpa using h.len
    subst this
    exact ⟨none, 0, rfl⟩
  · rw [h.len]
    exact ⟨_, _, rfl⟩

/-- One row alone. -/
theorem OwnM.single {w : World} {lo : Nat} {u : Value} {r : List Int} (hu : Own w lo u r) (hlo : lo ≤ w.heap.size) :
    OwnM (w.alloc (.cells #[u] 22)) lo (.slice (some ⟨w.heap.size, 0, none⟩) 1 1) [u] [r] := by
  refine ⟨?_, rfl, ?_, by simp, ?_⟩
  · exact World.ownsRow_lit w #[u] 1 hlo (by unfold maxLen; omega) rfl
  · intro p hp
    simp at hp
    subst hp
    exact hu.kept (below_new _)
  · intro x hx k hk
    simp at hx
    subst hx
    have := own_lt hu k hk
    intro e
    have : k = w.heap.size := by simpa [Value.ownBlock] using e.symm
    omega

/-- append of all rows of another one, where nothing is drawn; of nothing, too. -/
theorem wp_joinE {w0 w : World} {ops : Array Oper} {rest : List Oper} {o : Oper} {a : Act} {Q : Exit → Act → World → Prop} (hgd : o.guard = none) (s x : Operand)
    (ho : o.op = .call { callee := .builtin .append, args := #[s, x], argTypes := #[34, 34] }) {ts : List Thing} {v v2 : Value} {vs vs2 : List Value} {rss rss2 : List (List Int)}
    (L : Law w0 (tM v2 vs2 rss2 :: tM v vs rss :: ts) w) (h2 : vs2 = [] → v2 = .slice none 0 0) (h1 : vs = [] → v = .slice none 0 0) (hs : a.eval s = v) (hx : a.eval x = v2) (hl : rss.length + rss2.length ≤ 1048576)
    (h : ∀ v' vs' w', Law w0 (tM v' vs' (rss ++ rss2) :: ts) w' → (vs' = [] → v' = .slice none 0 0) → wpList Try.prog ops Q rest (a.put o.dst v') w') : wpList Try.prog ops Q (o :: rest) a w := by
  have e1 := L.tl.ownM.len
  have e2 := L.ownM.len
  obtain ⟨i0, hi, hz0, hz1, hz2⟩ := info_parts Try.infoL
  by_cases hz : vs2 = []
  · have hv := h2 hz
    subst hz hv
    have hr : rss2 = [] := by simpa using e2
    subst hr
    refine wpList_append_own_none hgd s x 34 ho 0 22 i0 1 Try.underlying34 hi v vs.length vs hs L.tl.ownM.outer hx ?_
    refine h v vs w ?_ h1
    rw [List.append_nil]
    exact L.tl
  · rcases L.ownM.cases with ⟨_, h⟩ | ⟨g, cap, rfl, q1, q2, q3, q4⟩
    · exact absurd h hz
    · refine wpList_append_lies w hgd s x 34 ho 0 22 i0 (.slice none 0 0) 1 24 Try.underlying34 hi hz0 hz1 hz2 rfl (by decide) v vs.length vs hs L.tl.ownM.outer ⟨g, 0, none⟩ vs2.length cap vs2 hx (by omega) ?_ (fun u hu => ?_) (List.length_pos_iff.2 hz) (by unfold maxLen; omega) (by omega) (Nat.zero_le _) _ rfl ?_
      · intro j y hy
        obtain ⟨hj, rfl⟩ := List.getElem?_eq_some_iff.1 hy
        rw [Addr.add_lit]
        have := L.ownM.cell j hj
        simpa using this
      · obtain ⟨b, hb⟩ := mem_zip_of vs2 rss2 e2 u hu
        exact own_oneCell (L.ownM.rows _ hb)
      · intro g' cap' w' p1 p2 p3 p4
        refine h _ _ w' (L.joinM p2 (by simpa using p1) (fun k hk => ?_)) (fun e => by simp [hz] at e)
        have e : g' = k := by simpa [Value.ownBlock] using hk
        subst e
        exact ⟨p3, p4⟩

end Go.Proofs.Ytjmefcebldifaab
end

section
namespace Go.Proofs.Ytjmefcebldifaab
open Go.RowKit Go.WideShapes

/-- append of one number to a slice of the call's own, at a step of a region that draws its order. -/
theorem step_appI {w0 w : World} {ops : Array Oper} {o : Oper} {a : Act} {K : Act → World → Prop} {Q : Exit → Act → World → Prop} {E : Prop} (hgd : o.guard = none) (s x : Operand)
    (ho : o.op = .call { callee := .builtin .append, args := #[s, x], argTypes := #[22, 22] }) {ts : List Thing} {v : Value} {xs : List Int} (y : Int)
    (L : Law w0 (tOwn v xs :: ts) w) (g0 : Nat) (hs : a.eval s = v) (hx : a.eval x = .slice (some ⟨g0, 0, none⟩) 1 1) (hnew : w.cell? ⟨g0, 0, none⟩ = some (.int .i64 y)) (hl : xs.length + 1 ≤ 1048576)
    (h : ∀ g cap w', Law w0 (tOwn (.slice (some ⟨g, 0, none⟩) (xs.length + 1) cap) (xs ++ [y]) :: ts) w' → K (a.put o.dst (.slice (some ⟨g, 0, none⟩) (xs.length + 1) cap)) w') :
    if Region.wanted o (yielded ops a.tmps) = true then Oper.wp Try.prog o a w K Q else E := by
  refine step_app hgd s x ho 0 v xs xs.length y g0 hs hx L.ownInts rfl hnew hl (Nat.zero_le _) _ rfl ?_
  intro g cap w' h1 h2 h3 h4
  refine h g cap w' ?_
  exact Law.write' (ts := []) L (Chg.of_grown h2 (fun _ e => e)) (tOwn _ (xs ++ [y])) (fun k hk => by
    have e : g = k := by simpa [tOwn, Value.ownBlock] using hk
    subst e
    rcases h3 with h3 | h3
    · exact .inl h3
    · exact .inr ⟨by omega, h4⟩) h1

/-- append of all rows of another one, at a step of a region that draws its order; of nothing, too. -/
theorem step_joinE {w0 w : World} {ops : Array Oper} {o : Oper} {a : Act} {K : Act → World → Prop} {Q : Exit → Act → World → Prop} {E : Prop} (hgd : o.guard = none) (s x : Operand)
    (ho : o.op = .call { callee := .builtin .append, args := #[s, x], argTypes := #[34, 34] }) {ts : List Thing} {v v2 : Value} {vs vs2 : List Value} {rss rss2 : List (List Int)}
    (L : Law w0 (tM v2 vs2 rss2 :: tM v vs rss :: ts) w) (h2 : vs2 = [] → v2 = .slice none 0 0) (h1 : vs = [] → v = .slice none 0 0) (hs : a.eval s = v) (hx : a.eval x = v2) (hl : rss.length + rss2.length ≤ 1048576)
    (h : ∀ v' vs' w', Law w0 (tM v' vs' (rss ++ rss2) :: ts) w' → (vs' = [] → v' = .slice none 0 0) → K (a.put o.dst v') w') :
    if Region.wanted o (yielded ops a.tmps) = true then Oper.wp Try.prog o a w K Q else E := by
  have e1 := L.tl.ownM.len
  have e2 := L.ownM.len
  by_cases hz : vs2 = []
  · have hv := h2 hz
    subst hz hv
    have hr : rss2 = [] := by simpa using e2
    subst hr
    obtain ⟨i0, hi, hz0, hz1, hz2⟩ := info_parts Try.infoL
    have hrun := run_append_owned_none (P := Try.prog) (w := w) 0 34 o.type 22 i0 1 Try.underlying34 hi v vs.length vs L.tl.ownM.outer
    have hw : Region.wanted o (yielded ops a.tmps) = true := by simp [Region.wanted, hgd]
    rw [if_pos hw]
    unfold Oper.wp
    simp [execOp, ho, resolve, invoke, builtin, hs, hx, hrun, Result.andThen]
    refine h v vs w ?_ h1
    rw [List.append_nil]
    exact L.tl
  · rcases L.ownM.cases with ⟨_, h⟩ | ⟨g, cap, rfl, q1, q2, q3, q4⟩
    · exact absurd h hz
    · refine step_joinM hgd s x ho g vs2.length cap L rfl (List.length_pos_iff.2 hz) hs hx (fun u hu => ?_) (by omega) ?_
      · obtain ⟨b, hb⟩ := mem_zip_of vs2 rss2 e2 u hu
        exact own_oneCell (L.ownM.rows _ hb)
      · intro g' cap' w' L'
        exact h _ _ w' L' (fun e => by simp [hz] at e)

theorem take_col (t c q : Nat) : (t ||| 2 ^ c).testBit q = (t.testBit q || decide (c = q)) := by
  rw [Nat.testBit_or, Nat.testBit_two_pow]
theorem hasI_off (P : List Int) (q : Nat) : hasI (P ++ [-1]) (q : Int) = hasI P (q : Int) := by
  rw [hasI_snoc, show ((-1 : Int) == (q : Int)) = false by rw [beq_eq_false_iff_ne]; omega, Bool.or_false]
theorem hasI_on (P : List Int) (c q : Nat) : hasI (P ++ [(c : Int)]) (q : Int) = (hasI P (q : Int) || decide (c = q)) := by
  rw [hasI_snoc]
  congr 1
  rw [Bool.eq_iff_iff, beq_iff_eq, decide_eq_true_eq]
  omega
theorem allC_len (m : Nat) (hm : m ≤ 6) (B : Nat → Nat → Bool) (d f t k : Nat) (P : List Int) (most c : Nat) (hd : d ≤ 5) (hc : c ≤ m) : (allC m B d f t k P most c).length ≤ 117649 := by
  obtain ⟨tl, ht⟩ := plc_split m B d f t k c m hc
  have h1 : (plc m B d f t k c).length ≤ (pl m B (d + 1) f t k).length := by rw [← plc_full, ht, List.length_append]; omega
  rw [pl_len] at h1
  have h2 := Nat.le_trans (wR_le m (by omega) B (d + 1) f t k) (pow7 (d + 1) (by omega))
  unfold allC
  rw [List.length_take, List.length_map]
  omega
theorem allL_len (m : Nat) (hm : m ≤ 6) (B : Nat → Nat → Bool) (d f t k : Nat) (P : List Int) (most : Nat) (hd : d ≤ 6) : (allL m B d f t k P most).length ≤ 117649 := by
  have h2 := Nat.le_trans (wR_le m (by omega) B d f t k) (pow7 d (by omega))
  unfold allL
  rw [List.length_take, List.length_map, pl_len]
  omega


end Go.Proofs.Ytjmefcebldifaab
end

section
namespace Go.Proofs.Ytjmefcebldifaab
open Go.RowKit Go.WideShapes

def mostB (r c : Int) (xs : List Int) : R1 := if goodB r c xs then ⟨(shK (numL r.toNat c.toNat (bt xs)) (min r.toNat c.toNat + 1) : Int) - 1, true⟩ else ⟨0, false⟩
/-- As many rows as columns? -/
def sqB (r c : Int) (xs : List Int) : Bool := goodB r c xs && (r == c)
def permB (r c : Int) (xs : List Int) : R1 := if sqB r c xs then ⟨(numL r.toNat r.toNat (bt xs)).getD r.toNat 0, true⟩ else ⟨0, false⟩



theorem sq_facts {r c : Int} {xs : List Int} (h : sqB r c xs = true) : goodB r c xs = true ∧ r = c := by
  rw [sqB, Bool.and_eq_true, beq_iff_eq] at h
  exact h



end Go.Proofs.Ytjmefcebldifaab
end

section
namespace Go.Proofs.Ytjmefcebldifaab
open Go.RowKit Go.WideShapes



end Go.Proofs.Ytjmefcebldifaab
end

section
namespace Go.Proofs.Ytjmefcebldifaab
open Go.RowKit Go.WideShapes

/-- A board's cells without one. -/
def lessL (xs : List Int) (i j : Nat) : List Int := xs.set i (xs.getD i 0 - 2 ^ j)
theorem lessL_len (xs : List Int) (i j : Nat) : (lessL xs i j).length = xs.length := by simp [lessL]
theorem less_bd (x : Int) (j : Nat) (h : 0 ≤ x ∧ x < 64) (hj : j < 6) (hb : x.toNat.testBit j = true) : 0 ≤ x - 2 ^ j ∧ x - 2 ^ j < 64 ∧ bits .andNot .i64 x (wrap64 (2 ^ j)) = x - 2 ^ j ∧ IntKind.i64.wrap (x - wrap64 (2 ^ j)) = x - 2 ^ j ∧ wrap64 (x - wrap64 (2 ^ j)) = x - 2 ^ j := by
  obtain ⟨n, rfl⟩ := Int.eq_ofNat_of_zero_le h.1
  have key : ∀ n : Fin 64, ∀ j : Fin 6, ((n : Nat) : Int).toNat.testBit (j : Nat) = true → 0 ≤ ((n : Nat) : Int) - 2 ^ (j : Nat) ∧ ((n : Nat) : Int) - 2 ^ (j : Nat) < 64 ∧ bits .andNot .i64 ((n : Nat) : Int) (wrap64 (2 ^ (j : Nat))) = ((n : Nat) : Int) - 2 ^ (j : Nat) ∧ IntKind.i64.wrap (((n : Nat) : Int) - wrap64 (2 ^ (j : Nat))) = ((n : Nat) : Int) - 2 ^ (j : Nat) ∧ wrap64 (((n : Nat) : Int) - wrap64 (2 ^ (j : Nat))) = ((n : Nat) : Int) - 2 ^ (j : Nat) := by decide +kernel
  exact key ⟨n, by omega⟩ ⟨j, hj⟩ hb
theorem lessL_get (xs : List Int) (i j k : Nat) : (lessL xs i j).getD k 0 = if k = i ∧ i < xs.length then xs.getD i 0 - 2 ^ j else xs.getD k 0 := by
  unfold lessL
  by_cases e : k = i
  · subst e
    by_cases hl : k < xs.length
    · rw [if_pos ⟨rfl, hl⟩, List.getD_eq_getElem?_getD, List.getElem?_set_self hl]; rfl
    · rw [if_neg (fun h => hl h.2), List.set_eq_of_length_le (by omega)]
  · rw [if_neg (fun h => e h.1), List.getD_eq_getElem?_getD, List.getElem?_set_ne (fun h => e h.symm), ← List.getD_eq_getElem?_getD]
theorem lessL_cell (xs : List Int) (i j : Nat) (hc : ∀ k, 0 ≤ xs.getD k 0 ∧ xs.getD k 0 < 64) (hj : j < 6) (hb : (xs.getD i 0).toNat.testBit j = true) (k : Nat) : 0 ≤ (lessL xs i j).getD k 0 ∧ (lessL xs i j).getD k 0 < 64 := by
  rw [lessL_get]
  split
  · have := less_bd _ j (hc i) hj hb
    exact ⟨this.1, this.2.1⟩
  · exact hc k
theorem skv_bd (x : Int) (j m : Nat) (hm : m ≤ 6) : 0 ≤ skv x j m ∧ skv x j m < pw m ∧ skv x j m < 64 := by
  unfold skv
  have h1 := rowM_lt (fun c => x.toNat.testBit (sk c j)) m
  have h2 : 2 ^ m ≤ 2 ^ 6 := Nat.pow_le_pow_right (by omega) hm
  have h3 : pw (m : Int) = ((2 ^ m : Nat) : Int) := by unfold pw; simp
  rw [h3]
  omega
theorem strikeL_cell (xs : List Int) (i j m : Nat) (hm : m ≤ 6) (k : Nat) : 0 ≤ (strikeL xs i j m).getD k 0 ∧ (strikeL xs i j m).getD k 0 < 64 := by
  unfold strikeL
  rw [List.getD_eq_getElem?_getD, List.getElem?_map]
  cases h : (xs.eraseIdx i)[k]? with
  | none => simp
  | some x =>
    have := skv_bd x j m hm
    simp only [Option.map_some, Option.getD_some]
    omega
theorem strike_good (n m : Nat) (xs : List Int) (i j : Nat) (hl : xs.length = n + 1) (hi : i < xs.length) (hn : 1 ≤ n ∧ n ≤ 6) (hm : 1 ≤ m ∧ m ≤ 6) : goodB n m (strikeL xs i j m) = true := by
  have h1 : (strikeL xs i j m).length = n := by rw [strikeL_len _ _ _ _ hi]; omega
  simp only [goodB, Bool.and_eq_true, inB_iff, decide_eq_true_eq]
  refine ⟨by omega, by omega, by omega, ?_⟩
  rw [within, List.all_eq_true]
  intro x hx
  unfold strikeL at hx
  obtain ⟨y, _, rfl⟩ := List.mem_map.1 hx
  have := skv_bd y j m hm.2
  simp only [decide_eq_true_eq]
  omega
theorem wR_zero (m : Nat) (B : Nat → Nat → Bool) (d : Nat) : ∀ f t, wR m B d f t 0 = 1 := by
  induction d with
  | zero => intro f t; simp [wR]
  | succ d ih =>
    intro f t
    rw [wR, ih, sumN_range, sumN_congr _ (fun _ => 0) m (fun c _ => by unfold term; split <;> simp), sumN_zero]
theorem numL_one (n m : Nat) (B : Nat → Nat → Bool) (h : n = 0 ∨ m = 0) : numL n m B = [1] := by
  unfold numL
  rw [show min n m = 0 by omega]
  unfold lstL
  rw [show List.range (0 + 1) = [0] from rfl, List.map_cons, wR_zero]
  rfl

/-- What a call answers that tells two lists. -/
structure LL where
  ys0 : List Int
  ys1 : List Int
  ok : Bool
def AnsLL (R : LL) (w : World) (e : Ending) (w' : World) : Prop := ∃ s0, ∃ s1, e = .returned (.tuple #[s0, s1, .bool R.ok]) ∧ Own w' w.heap.size s0 R.ys0 ∧ Own w' w.heap.size s1 R.ys1 ∧ (∀ k, s0.ownBlock = some k → s1.ownBlock ≠ some k) ∧ Below w.heap.size w w'
def byB (r c : Int) (xs : List Int) (i j : Int) : LL := if placeB r c xs i j && bitB xs i j then ⟨numL r.toNat c.toNat (bt (lessL xs i.toNat j.toNat)), numL (r.toNat - 1) (c.toNat - 1) (bt (strikeL xs i.toNat j.toNat (c.toNat - 1))), true⟩ else ⟨[], [], false⟩
theorem byB_len (r c : Int) (xs : List Int) (i j : Int) : (byB r c xs i j).ys0.length ≤ 1048576 ∧ (byB r c xs i j).ys1.length ≤ 1048576 := by
  unfold byB
  split
  · rename_i h
    rw [Bool.and_eq_true, placeB, Bool.and_eq_true] at h
    have := good_facts h.1.1
    show (numL _ _ _).length ≤ _ ∧ (numL _ _ _).length ≤ _
    rw [numL_len, numL_len]
    omega
  · exact ⟨by simp, by simp⟩
theorem ansLL_no (w w' : World) (h : Below w.heap.size w w') : AnsLL ⟨[], [], false⟩ w (.returned (.tuple #[.slice none 0 0, .slice none 0 0, .bool false])) w' := ⟨_, _, rfl, Own.nil _ _, Own.nil _ _, (fun k e => by cases e), h⟩

end Go.Proofs.Ytjmefcebldifaab
end
