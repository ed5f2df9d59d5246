/- All lengths of n numbers as the program lists them: the plain part, and slices of series of the call's own. No condition. -/
import Derived.Test.YthkghbnmdebhpabGb
import Derived.Test.YthkghbnmdebhpabFs
namespace Go.Proofs.Ythkghbnmdebhpab
open Go.RowKit Go.WideShapes

/-- The last number of a list, or another one. -/
def lastD (l : Nat) (Q : List Int) : Int := if Q = [] then l else Q.getD (Q.length - 1) 0
/-- A list gone on by one number. -/
def extL (n : Nat) (l : Nat) (Q : List Int) : List (List Int) := (List.range (n + 1)).flatMap fun (m : Nat) => if lastD l Q ≤ (m : Int) then [Q ++ [(m : Int)]] else []
theorem lastD_cons (l m : Nat) (Q : List Int) : lastD l ((m : Int) :: Q) = lastD m Q := by
  unfold lastD
  rw [if_neg (by simp)]
  cases Q with
  | nil => simp
  | cons x t =>
    rw [if_neg (by simp)]
    simp [List.getD]
theorem extL_cons (n l m : Nat) (Q : List Int) : extL n l ((m : Int) :: Q) = (extL n m Q).map (fun t => (m : Int) :: t) := by
  unfold extL
  rw [List.map_flatMap]
  congr 1
  funext q
  rw [lastD_cons]
  split <;> simp
theorem goOn_ext (n d : Nat) : ∀ l, goOn n (d + 1) l = (goOn n d l).flatMap (extL n l) := by
  induction d with
  | zero =>
    intro l
    rw [goOn, goOn]
    simp only [List.flatMap_cons, List.flatMap_nil, List.append_nil, extL, lastD, if_true, List.nil_append]
    congr 1
    funext m
    rw [goOn]
    by_cases h : l ≤ m
    · rw [if_pos h, if_pos (by omega)]; rfl
    · rw [if_neg h, if_neg (by omega)]
  | succ d ih =>
    intro l
    rw [goOn, goOn, List.flatMap_assoc]
    congr 1
    funext m
    by_cases h : l ≤ m
    · rw [if_pos h, if_pos h, ih m, List.map_flatMap, List.flatMap_map]
      congr 1
      funext Q
      rw [extL_cons]
    · rw [if_neg h, if_neg h]
      rfl

theorem Try.infoS : (Try.prog.info? 64).map (fun i => (i.zero, i.size, i.bytes)) = some (some (.agg #[.int .i64 0, .int .i64 0, .int .i64 0, .int .i64 0, .int .i64 0, .int .i64 0, .int .i64 0]), 7, 56) := by kernel_rfl
/-- The cells of lists as series, one behind the other. -/
def serC (n : Nat) (LL : List (List Int)) : List Value := LL.flatMap fun Q => sl n (fl Q)
theorem serC_cons (n : Nat) (Q : List Int) (LL : List (List Int)) : serC n (Q :: LL) = sl n (fl Q) ++ serC n LL := by simp [serC]
theorem serC_append (n : Nat) (A B : List (List Int)) : serC n (A ++ B) = serC n A ++ serC n B := by simp [serC, List.flatMap_append]
theorem serC_len (n : Nat) (LL : List (List Int)) : (serC n LL).length = LL.length * 7 := by
  induction LL with
  | nil => rfl
  | cons Q t ih => rw [serC_cons, List.length_append, ih, List.length_cons]; simp only [List.length_cons, List.length_nil]; omega
theorem serC_get (n : Nat) (LL : List (List Int)) (k j : Nat) (hk : k < LL.length) (hj : j < 7) : (serC n LL)[k * 7 + j]? = (sl n (fl LL[k]))[j]? := by
  induction LL generalizing k with
  | nil => simp at hk
  | cons Q t ih =>
    rw [serC_cons]
    cases k with
    | zero =>
      rw [Nat.zero_mul, Nat.zero_add, List.getElem?_append_left (by simpa using hj)]
      rfl
    | succ k =>
      rw [List.getElem?_append_right (by simp; omega), show (k + 1) * 7 + j - (sl n (fl Q)).length = k * 7 + j by simp; omega, ih k (by simpa using hk)]
      rfl
def OwnS (w : World) (lo : Nat) (v : Value) (n : Nat) (LL : List (List Int)) : Prop := w.ownsRow lo 64 7 v LL.length (serC n LL)
def tS (v : Value) (n : Nat) (LL : List (List Int)) : Thing :=
  ⟨fun k => v.ownBlock = some k, fun w => OwnS w 0 v n LL, fun _ _ _ hk h => by
    refine ⟨h.1, ?_⟩
    rcases h.2 with h2 | ⟨g, cap, cur, hv, hg, hh, r⟩
    · exact .inl h2
    · exact .inr ⟨g, cap, cur, hv, hg, by rw [hk g (by rw [hv]; rfl)]; exact hh, r⟩⟩
theorem OwnS.nil (w : World) (lo n : Nat) : OwnS w lo (.slice none 0 0) n [] := World.ownsRow_nil _ _ _ _
theorem OwnS.form {w : World} {lo : Nat} {v : Value} {n : Nat} {LL : List (List Int)} (h : OwnS w lo v n LL) : ∃ a cap, v = .slice a LL.length cap := by
  rcases h.2 with ⟨rfl, h2⟩ | ⟨g, cap, cur, rfl, _⟩
  · refine ⟨none, 0, ?_⟩
    rw [h2]
  · exact ⟨_, _, rfl⟩
/-- The cells of one element. -/
theorem OwnS.seven {w : World} {lo : Nat} {a : Option Addr} {cap n : Nat} {LL : List (List Int)} (h : OwnS w lo (.slice a LL.length cap) n LL) (k : Nat) (hk : k < LL.length) :
    ∃ g, a = some ⟨g, 0, none⟩ ∧ ∀ j v, (sl n (fl LL[k]))[j]? = some v → w.cell? ⟨g, k * 7 + j, none⟩ = some v := by
  have h0 := h
  rcases h.2 with ⟨e, _⟩ | ⟨g, cp, cur, e, _⟩
  · injection e with _ e2 _
    omega
  · injection e with e1 _ _
    subst e1
    refine ⟨g, rfl, fun j v hv => ?_⟩
    have hj : j < 7 := by
      have := (List.getElem?_eq_some_iff.1 hv).1
      simpa using this
    have hc := World.ownsRow.cellAt h0 (k * 7 + j) (by omega)
    rw [hc, serC_get n LL k j hk hj]
    exact hv
theorem Law.ownS {w0 w : World} {v : Value} {n : Nat} {LL : List (List Int)} {ts : List Thing} (h : Law w0 (tS v n LL :: ts) w) : OwnS w 0 v n LL := h.hd
theorem Law.addS {w0 w w' : World} {ts : List Thing} (h : Law w0 ts w) (hb : Below w.heap.size w w') {v : Value} {n : Nat} {LL : List (List Int)} (hs : OwnS w' w.heap.size v n LL) : Law w0 (tS v n LL :: ts) w' :=
  h.add hb (tS v n LL) (by
    refine ⟨hs.1, ?_⟩
    rcases hs.2 with h | ⟨g, cap, cur, e, hb, r⟩
    · exact .inl h
    · exact .inr ⟨g, cap, cur, e, Nat.zero_le _, r⟩) (fun k hk => World.ownsRow.lt hs k hk)
/-- append of one series, where nothing is drawn. -/
theorem wp_appendS {w0 w : World} {ops : Array Oper} {rest : List Oper} {o : Oper} {a : Act} {Q : Exit → Act → World → Prop} (hgd : o.guard = none) (s x : Operand)
    (ho : o.op = .call { callee := .builtin .append, args := #[s, x], argTypes := #[69, 69] }) {ts : List Thing} {v : Value} {n : Nat} {LL : List (List Int)} (P : List Int)
    (L : Law w0 (tS v n LL :: ts) w) (g0 : Nat) (hs : a.eval s = v) (hx : a.eval x = .slice (some ⟨g0, 0, none⟩) 1 1) (hnew : Has w g0 (sl n (fl P)) 64) (hl : LL.length + 1 ≤ 1048576)
    (h : ∀ v' w', Law w0 (tS v' n (LL ++ [P]) :: ts) w' → wpList Try.prog ops Q rest (a.put o.dst v') w') : wpList Try.prog ops Q (o :: rest) a w := by
  obtain ⟨i0, hi, hz0, hz1, hz2⟩ := info_parts Try.infoS
  refine wpList_append_lies w hgd s x 69 ho 0 64 i0 _ 7 56 Try.underlying69 hi hz0 hz1 hz2 rfl (by decide) v LL.length (serC n LL) hs L.ownS ⟨g0, 0, none⟩ 1 1 (sl n (fl P)) hx rfl ?_ ?_ (by decide) (by unfold maxLen; omega) (by omega) (Nat.zero_le _) _ rfl ?_
  · intro j y hy
    rw [Addr.add_lit, Nat.zero_add, hnew.cell j]
    exact hy
  · intro u hu
    simp only [List.mem_cons, List.not_mem_nil, or_false] at hu
    rcases hu with rfl | rfl | rfl | rfl | rfl | rfl | rfl <;> rfl
  · intro g cap w' h1 h2 h3 h4
    refine h _ w' ?_
    exact Law.write' (ts := []) L (Chg.of_grown h2 (fun _ e => e)) (tS _ n (LL ++ [P])) (fun k hk => by
      have e : g = k := by simpa [tS, Value.ownBlock] using hk
      subst e
      rcases h3 with h3 | h3
      · exact .inl h3
      · exact .inr ⟨by omega, h4⟩) (by
      show w'.ownsRow 0 64 7 _ (LL ++ [P]).length (serC n (LL ++ [P]))
      rw [serC_append, List.length_append]
      have e : serC n [P] = sl n (fl P) := by simp [serC]
      rw [e]
      exact h1)

end Go.Proofs.Ythkghbnmdebhpab
