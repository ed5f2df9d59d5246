import Derived.Test.YtaipcmplpjkebaaFold8
import Derived.Test.YtaipcmplpjkebaaFold3

section
namespace Go.Proofs.Ytaipcmplpjkebaa
open Go.RowKit

theorem Try.infoL : (Try.prog.info? 25).map (fun i => (i.zero, i.size, i.bytes)) = some (some (.slice none 0 0), 1, 24) := by kernel_rfl

/-- v is a slice of the call's own that holds the slices vs, and these hold the rows rss, each on a block of its own. -/
structure OwnM (w : World) (lo : Nat) (v : Value) (vs : List Value) (rss : List (List Int)) : Prop where
  outer : w.ownsRow lo 25 1 v vs.length vs
  len : rss.length = vs.length
  rows : ∀ p ∈ vs.zip rss, Own w lo p.1 p.2
  dis : vs.Pairwise fun a b => ∀ k, a.ownBlock = some k → b.ownBlock ≠ some k
  apart : ∀ u ∈ vs, ∀ k, u.ownBlock = some k → v.ownBlock ≠ some k

theorem mem_zip_of {α β : Type} (l : List α) (r : List β) (h : r.length = l.length) (u : α) (hu : u ∈ l) : ∃ b, (u, b) ∈ l.zip r := by
  obtain ⟨i, hi, rfl⟩ := List.getElem_of_mem hu
  exact ⟨r[i], by rw [List.mem_iff_getElem]; exact ⟨i, by simp; omega, by simp⟩⟩

theorem OwnM.nil (w : World) (lo : Nat) : OwnM w lo (.slice none 0 0) [] [] := ⟨World.ownsRow_nil _ _ _ _, rfl, by simp, by simp, by simp⟩
theorem OwnM.lower {w : World} {lo lo' : Nat} {v : Value} {vs : List Value} {rss : List (List Int)} (h : OwnM w lo v vs rss) (hl : lo' ≤ lo) : OwnM w lo' v vs rss := by
  refine ⟨⟨h.outer.1, ?_⟩, h.len, fun p hp => (h.rows p hp).lower hl, h.dis, h.apart⟩
  rcases h.outer.2 with h | ⟨g, cap, cur, e, hb, r⟩
  · exact .inl h
  · exact .inr ⟨g, cap, cur, e, by omega, r⟩
theorem OwnM.lt {w : World} {lo : Nat} {v : Value} {vs : List Value} {rss : List (List Int)} (h : OwnM w lo v vs rss) :
    (∀ k, v.ownBlock = some k → lo ≤ k ∧ k < w.heap.size) ∧ ∀ u ∈ vs, ∀ k, u.ownBlock = some k → lo ≤ k ∧ k < w.heap.size := by
  refine ⟨World.ownsRow.lt h.outer, fun u hu k hk => ?_⟩
  obtain ⟨b, hb⟩ := mem_zip_of vs rss h.len u hu
  exact own_lt (h.rows _ hb) k hk
/-- What is not written stays. -/
theorem OwnM.stay {w w' : World} {lo : Nat} {v : Value} {vs : List Value} {rss : List (List Int)} (h : OwnM w lo v vs rss) {row : Option Nat} (hg : w.grownBy w' row)
    (h1 : v.ownBlock = none ∨ v.ownBlock ≠ row) (h2 : ∀ u ∈ vs, u.ownBlock = none ∨ u.ownBlock ≠ row) : OwnM w' lo v vs rss := by
  refine ⟨World.ownsRow.kept h.outer hg h1, h.len, fun p hp => ?_, h.dis, h.apart⟩
  exact World.ownsRow.kept (h.rows p hp) hg (h2 p.1 (List.of_mem_zip hp).1)

/-- The two forms in which a walk meets it. -/
theorem OwnM.cases {w : World} {lo : Nat} {v : Value} {vs : List Value} {rss : List (List Int)} (h : OwnM w lo v vs rss) :
    (v = .slice none 0 0 ∧ vs = []) ∨ ∃ g cap, v = .slice (some ⟨g, 0, none⟩) vs.length cap ∧ lo ≤ g ∧ g < w.heap.size ∧ vs.length ≤ cap ∧ cap ≤ maxLen := by
  rcases h.outer.2 with ⟨h1, h2⟩ | ⟨g, cap, cur, e, hb, hh, hn, hc, r⟩
  · exact .inl ⟨h1, by simpa using h2⟩
  · exact .inr ⟨g, cap, e, hb, (Array.getElem?_eq_some_iff.1 hh).1, hn, hc⟩
theorem OwnM.cell {w : World} {lo g cap : Nat} {vs : List Value} {rss : List (List Int)} (h : OwnM w lo (.slice (some ⟨g, 0, none⟩) vs.length cap) vs rss) (j : Nat) (hj : j < vs.length) :
    w.cell? ⟨g, j, none⟩ = some vs[j] := by
  rw [World.ownsRow.cellAt h.outer j (by omega)]
  simp [hj]
theorem OwnM.row {w : World} {lo : Nat} {v : Value} {vs : List Value} {rss : List (List Int)} (h : OwnM w lo v vs rss) (j : Nat) (hj : j < vs.length) : Own w lo vs[j] (rss[j]'(by rw [h.len]; exact hj)) :=
  h.rows (vs[j], rss[j]'(by rw [h.len]; exact hj)) (by rw [List.mem_iff_getElem]; exact ⟨j, by simp; rw [h.len]; omega, by simp⟩)

/-- A slice of slices, as a thing. -/
def tM (v : Value) (vs : List Value) (rss : List (List Int)) : Thing :=
  ⟨fun k => v.ownBlock = some k ∨ ∃ u ∈ vs, u.ownBlock = some k, fun w => OwnM w 0 v vs rss, fun w w' hs hk h => by
    have keep : ∀ (e : TypeId) (n : Nat) (u : Value) (xs : List Value), (∀ k, u.ownBlock = some k → w'.heap[k]? = w.heap[k]?) → w.ownsRow 0 e 1 u n xs → w'.ownsRow 0 e 1 u n xs := fun e n u xs hq h => by
      refine ⟨h.1, ?_⟩
      rcases h.2 with h2 | ⟨g, cap, cur, hv, hg, hh, r⟩
      · exact .inl h2
      · exact .inr ⟨g, cap, cur, hv, hg, by rw [hq g (by rw [hv]; rfl)]; exact hh, r⟩
    refine ⟨keep _ _ _ _ (fun k e => hk k (.inl e)) h.outer, h.len, fun p hp => ?_, h.dis, h.apart⟩
    exact keep _ _ _ _ (fun k e => hk k (.inr ⟨p.1, (List.of_mem_zip hp).1, e⟩)) (h.rows p hp)⟩

theorem Law.addM {w0 w w' : World} {ts : List Thing} (h : Law w0 ts w) (hb : Below w.heap.size w w') {v : Value} {vs : List Value} {rss : List (List Int)} (hm : OwnM w' w.heap.size v vs rss) : Law w0 (tM v vs rss :: ts) w' :=
  h.add hb (tM v vs rss) (hm.lower (Nat.zero_le _)) (fun k hk => by
    rcases hk with hk | ⟨u, hu, hk⟩
    · exact hm.lt.1 k hk
    · exact hm.lt.2 u hu k hk)
theorem Law.nilM {w0 w : World} {ts : List Thing} (h : Law w0 ts w) : Law w0 (tM (.slice none 0 0) [] [] :: ts) w := h.addM (Below.refl _ _) (OwnM.nil _ _)
theorem Law.ownM {w0 w : World} {v : Value} {vs : List Value} {rss : List (List Int)} {ts : List Thing} (h : Law w0 (tM v vs rss :: ts) w) : OwnM w 0 v vs rss := h.hd
theorem Law.ownMLo {w0 w : World} {v : Value} {vs : List Value} {rss : List (List Int)} {ts : List Thing} (h : Law w0 (tM v vs rss :: ts) w) : OwnM w w0.heap.size v vs rss := by
  have hm := h.ownM
  have hr := h.range _ (List.mem_cons_self ..)
  have up : ∀ (e : TypeId) (n : Nat) (u : Value) (xs : List Value), (∀ k, u.ownBlock = some k → (tM v vs rss).foot k) → w.ownsRow 0 e 1 u n xs → w.ownsRow w0.heap.size e 1 u n xs := fun e n u xs hq h => by
    refine ⟨h.1, ?_⟩
    rcases h.2 with h2 | ⟨g, cap, cur, hv, hg, r⟩
    · exact .inl h2
    · exact .inr ⟨g, cap, cur, hv, (hr g (hq g (by rw [hv]; rfl))).1, r⟩
  exact ⟨up _ _ _ _ (fun k e => .inl e) hm.outer, hm.len, fun p hp => up _ _ _ _ (fun k e => .inr ⟨p.1, (List.of_mem_zip hp).1, e⟩) (hm.rows p hp), hm.dis, hm.apart⟩

/-- A row is put behind the others. -/
theorem Law.pushM {w0 w w' : World} {ts : List Thing} {u : Value} {rs : List Int} {v v' : Value} {vs : List Value} {rss : List (List Int)} (h : Law w0 (tOwn u rs :: tM v vs rss :: ts) w)
    (hg : w.grownBy w' v.ownBlock) (ho : w'.ownsRow 0 25 1 v' (vs ++ [u]).length (vs ++ [u])) (hv : ∀ k, v'.ownBlock = some k → (v.ownBlock = some k ∨ k = w.heap.size) ∧ k < w'.heap.size) :
    Law w0 (tM v' (vs ++ [u]) (rss ++ [rs]) :: ts) w' := by
  have hu := h.ownInts
  have hM := h.tl.ownM
  have d1 := (List.pairwise_cons.1 h.dis).1
  have d2 := (List.pairwise_cons.1 (List.pairwise_cons.1 h.dis).2).1
  have rM := h.range (tM v vs rss) (by simp)
  have rU := h.range (tOwn u rs) (by simp)
  have rT : ∀ t ∈ ts, ∀ k, t.foot k → w0.heap.size ≤ k ∧ k < w.heap.size := fun t ht k hk => h.range t (by simp [ht]) k hk
  have huM : ∀ k, u.ownBlock = some k → ¬ (tM v vs rss).foot k := fun k hk => d1 (tM v vs rss) (by simp) k hk
  have hc : Chg (tM v vs rss).foot w w' := Chg.of_grown hg (fun k e => .inl e)
  have hne : ∀ x : Value, (∀ k, x.ownBlock = some k → v.ownBlock ≠ some k) → x.ownBlock = none ∨ x.ownBlock ≠ v.ownBlock := fun x hx => by
    cases e : x.ownBlock with
    | none => exact .inl rfl
    | some k => exact .inr (fun e2 => hx k e e2.symm)
  have hnew : OwnM w' 0 v' (vs ++ [u]) (rss ++ [rs]) := by
    refine ⟨ho, by simp [hM.len], ?_, ?_, ?_⟩
    · intro p hp
      rw [List.zip_append hM.len.symm] at hp
      rcases List.mem_append.1 hp with hp | hp
      · exact World.ownsRow.kept (hM.rows p hp) hg (hne p.1 (fun k hk => hM.apart p.1 (List.of_mem_zip hp).1 k hk))
      · simp at hp
        subst hp
        exact World.ownsRow.kept hu hg (hne u (fun k hk e => huM k hk (.inl e)))
    · rw [List.pairwise_append]
      refine ⟨hM.dis, by simp, fun a ha b hb k hk e => ?_⟩
      simp at hb
      subst hb
      exact huM k e (.inr ⟨a, ha, hk⟩)
    · intro x hx k hk e
      have hlt : k < w.heap.size ∧ v.ownBlock ≠ some k := by
        rcases List.mem_append.1 hx with hx | hx
        · exact ⟨(rM k (.inr ⟨x, hx, hk⟩)).2, hM.apart x hx k hk⟩
        · simp at hx
          subst hx
          exact ⟨(rU k hk).2, fun e => huM k hk (.inl e)⟩
      rcases (hv k e).1 with e | e
      · exact hlt.2 e
      · omega
  have hfoot : ∀ k, (tM v' (vs ++ [u]) (rss ++ [rs])).foot k → (tM v vs rss).foot k ∨ u.ownBlock = some k ∨ (k = w.heap.size ∧ k < w'.heap.size) := by
    intro k hk
    rcases hk with hk | ⟨x, hx, hk⟩
    · rcases (hv k hk).1 with e | e
      · exact .inl (.inl e)
      · exact .inr (.inr ⟨e, (hv k hk).2⟩)
    · rcases List.mem_append.1 hx with hx | hx
      · exact .inl (.inr ⟨x, hx, hk⟩)
      · simp at hx
        subst hx
        exact .inr (.inl hk)
  refine ⟨?_, ?_, ?_, ?_⟩
  · exact h.below.trans ⟨hc.os, hc.tape, hc.output, hc.size, fun k hk => hc.block k (by have := h.below.size; omega) (fun e => by have := (rM k e).1; omega)⟩
  · intro x hm
    rcases List.mem_cons.1 hm with rfl | hm
    · exact hnew
    · exact x.stable w w' hc.size (fun k hk => hc.block k (rT x hm k hk).2 (fun e => d2 x hm k e hk)) (h.holds x (by simp [hm]))
  · intro x hm k hk
    rcases List.mem_cons.1 hm with rfl | hm
    · rcases hfoot k hk with e | e | e
      · exact ⟨(rM k e).1, Nat.lt_of_lt_of_le (rM k e).2 hc.size⟩
      · exact ⟨(rU k e).1, Nat.lt_of_lt_of_le (rU k e).2 hc.size⟩
      · have := h.below.size
        omega
    · exact ⟨(rT x hm k hk).1, Nat.lt_of_lt_of_le (rT x hm k hk).2 hc.size⟩
  · refine List.pairwise_cons.2 ⟨fun x hm k e1 e2 => ?_, (List.pairwise_cons.1 (List.pairwise_cons.1 h.dis).2).2⟩
    rcases hfoot k e1 with e | e | e
    · exact d2 x hm k e e2
    · exact d1 x (by simp [hm]) k e e2
    · have := (rT x hm k e2).2
      omega

/-- append of one row, where nothing is drawn. -/
theorem wp_appendM {w0 w : World} {ops : Array Oper} {rest : List Oper} {o : Oper} {a : Act} {Q : Exit → Act → World → Prop} (hgd : o.guard = none) (s x : Operand)
    (ho : o.op = .call { callee := .builtin .append, args := #[s, x], argTypes := #[89, 89] }) {ts : List Thing} {u : Value} {rs : List Int} {v : Value} {vs : List Value} {rss : List (List Int)}
    (L : Law w0 (tOwn u rs :: tM v vs rss :: ts) w) (g0 : Nat) (hs : a.eval s = v) (hx : a.eval x = .slice (some ⟨g0, 0, none⟩) 1 1) (hnew : w.cell? ⟨g0, 0, none⟩ = some u) (hu1 : u.oneCell' = true) (hl : vs.length + 1 ≤ 1048576)
    (h : ∀ g cap w', Law w0 (tM (.slice (some ⟨g, 0, none⟩) (vs.length + 1) cap) (vs ++ [u]) (rss ++ [rs]) :: ts) w' → wpList Try.prog ops Q rest (a.put o.dst (.slice (some ⟨g, 0, none⟩) (vs.length + 1) cap)) w') :
    wpList Try.prog ops Q (o :: rest) a w := by
  obtain ⟨i0, hi, hz0, hz1, hz2⟩ := info_parts Try.infoL
  refine wpList_append_lies w hgd s x 89 ho 0 25 i0 (.slice none 0 0) 1 24 Try.underlying89 hi hz0 hz1 hz2 rfl (by decide) v vs.length vs hs L.tl.ownM.outer ⟨g0, 0, none⟩ 1 1 [u] hx rfl ?_ (by intro y hy; simp at hy; subst hy; exact hu1) (by decide) (by unfold maxLen; omega) (by omega) (Nat.zero_le _) _ rfl ?_
  · intro j y hy
    match j, hy with
    | 0, hy =>
      simp at hy
      subst hy
      rw [Addr.add_lit]
      exact hnew
  · intro g cap w' h1 h2 h3 h4
    refine h g cap w' (L.pushM h2 (by simpa using h1) (fun k hk => ?_))
    have e : g = k := by simpa [Value.ownBlock] using hk
    subst e
    exact ⟨h3, h4⟩

end Go.Proofs.Ytaipcmplpjkebaa
end

section
namespace Go.Proofs.Ytaipcmplpjkebaa
open Go.RowKit Go.WideShapes

/-- The mask of the places c < n with p c. -/
def rowM (p : Nat → Bool) : Nat → Nat
  | 0 => 0
  | c + 1 => rowM p c + if p c then 2 ^ c else 0
theorem rowM_lt (p : Nat → Bool) (n : Nat) : rowM p n < 2 ^ n := by
  induction n with
  | zero => simp [rowM]
  | succ n ih => rw [rowM, Nat.pow_succ]; split <;> omega
theorem or_step (x : Nat) (c : Nat) (hc : c < 6) (h : x < 2 ^ c) : bits .or .i64 (x : Int) (wrap64 (2 ^ c)) = ((x + 2 ^ c : Nat) : Int) := by
  have key : ∀ c : Fin 6, ∀ x : Fin 64, (x : Nat) < 2 ^ (c : Nat) → bits .or .i64 ((x : Nat) : Int) (wrap64 (2 ^ (c : Nat))) = (((x : Nat) + 2 ^ (c : Nat) : Nat) : Int) := by decide +kernel
  have h64 : x < 64 := Nat.lt_of_lt_of_le h (by have := Nat.pow_le_pow_right (show 0 < 2 by omega) (show c ≤ 6 by omega); simpa using this)
  exact key ⟨c, hc⟩ ⟨x, h64⟩ h

/-- The masks when the rows before i and of row i the places before j are drawn. -/
def drawn (p : Nat → Nat → Bool) (m i j : Nat) : Nat → Int := fun k => if k < i then (rowM (p k) m : Int) else if k = i then (rowM (p i) j : Int) else 0
theorem drawn_next (p : Nat → Nat → Bool) (m i : Nat) : drawn p m i m = drawn p m (i + 1) 0 := by
  funext k
  unfold drawn
  by_cases h1 : k < i
  · rw [if_pos h1, if_pos (by omega)]
  · by_cases h2 : k = i
    · subst h2; rw [if_neg h1, if_pos rfl, if_pos (by omega)]
    · rw [if_neg h1, if_neg h2, if_neg (by omega)]
      split
      · simp [rowM]
      · rfl
theorem drawn_zero (p : Nat → Nat → Bool) (m : Nat) : drawn p m 0 0 = fun _ => 0 := by
  funext k
  unfold drawn
  rw [if_neg (by omega)]
  split
  · simp [rowM]
  · rfl
theorem drawn_skip (p : Nat → Nat → Bool) (m i j : Nat) (h : p i j = false) : drawn p m i (j + 1) = drawn p m i j := by
  funext k; unfold drawn; rw [rowM, h]; simp
theorem drawn_at (p : Nat → Nat → Bool) (m i j : Nat) : drawn p m i j i = (rowM (p i) j : Int) := by unfold drawn; rw [if_neg (by omega), if_pos rfl]
theorem drawn_put (p : Nat → Nat → Bool) (m i j : Nat) (h : p i j = true) : drawn p m i (j + 1) i = ((rowM (p i) j + 2 ^ j : Nat) : Int) := by rw [drawn_at, rowM, h]; simp
theorem drawn_off (p : Nat → Nat → Bool) (m i j k : Nat) (h : k ≠ i) : drawn p m i (j + 1) k = drawn p m i j k := by
  unfold drawn; rw [if_neg h, if_neg h]

/-- At the head of a round of the drawing: of what was there nothing has turned; the new board's block, and the grid. -/
structure Draw (w : World) (n m : Nat) (p : Nat → Nat → Bool) (i j : Nat) (wr : World) : Prop where
  below : Below w.heap.size w wr
  res : Has wr w.heap.size [.int .i64 0, .int .i64 0, .slice none 0 0] 27
  grid : Has wr (w.heap.size + 1) (gl n m (drawn p m i j)) 67

theorem Draw.kept {w : World} {n m : Nat} {p : Nat → Nat → Bool} {i j : Nat} {wr w' : World} (h : Draw w n m p i j wr) (hb : Below wr.heap.size wr w') : Draw w n m p i j w' :=
  ⟨below_on h.below hb, h.res.kept hb h.res.lt, h.grid.kept hb h.grid.lt⟩

theorem Draw.next {w : World} {n m : Nat} {p : Nat → Nat → Bool} {i : Nat} {wr : World} (h : Draw w n m p i m wr) : Draw w n m p (i + 1) 0 wr :=
  ⟨h.below, h.res, by rw [← drawn_next]; exact h.grid⟩
theorem Draw.skip {w : World} {n m : Nat} {p : Nat → Nat → Bool} {i j : Nat} {wr : World} (h : Draw w n m p i j wr) (hp : p i j = false) : Draw w n m p i (j + 1) wr :=
  ⟨h.below, h.res, by rw [drawn_skip p m i j hp]; exact h.grid⟩
theorem Draw.put {w : World} {n m : Nat} {p : Nat → Nat → Bool} {i j : Nat} {wr : World} (h : Draw w n m p i j wr) (hp : p i j = true) (hi : i < 6) :
    Draw w n m p i (j + 1) (wr.setCell ⟨w.heap.size + 1, 2 + i, none⟩ (.int .i64 ((rowM (p i) j + 2 ^ j : Nat) : Int))).drew := by
  refine ⟨(h.below.setCell (by simp <;> omega) _).drew, (h.res.other _ (by simp <;> omega) _).drew, ?_⟩
  have := h.grid.set (2 + i) (.int .i64 ((rowM (p i) j + 2 ^ j : Nat) : Int))
  rw [gl_set n m (drawn p m i j) (drawn p m i (j + 1)) i hi _ (drawn_put p m i j hp) (fun k hk => drawn_off p m i j k hk)] at this
  exact this.drew

set_option maxHeartbeats 1600000 in
theorem drawBoard_any (n m : Nat) (F : FuncId) (first cap : Array Value) (p : Nat → Nat → Bool) (w : World) (hn : n ≤ 6) (hm : m ≤ 6)
    (hcall : ∀ (args : Array Value) (w : World), (callFunc F args).run Try.prog w = .ok (.enter F args) w)
    (hat : ∀ (r c : Nat) (w' : World), r < n → c < m → Below w.heap.size w w' → Calls Try.prog F (first ++ (#[.int .i64 r, .int .i64 c] ++ cap)) w' fun e w'' => e = .returned (.bool (p r c)) ∧ Below w'.heap.size w' w'') :
    Calls Try.prog 99 #[.int .i64 n, .int .i64 m, .func (.func F) first cap] w
      fun e w' => ∃ s, e = .returned (.agg #[.int .i64 n, .int .i64 m, s]) ∧ Own w' w.heap.size s (([0, 1, 2, 3, 4, 5].take n).map fun k => (rowM (p k) m : Int)) ∧ Below w.heap.size w w' := by
  go_enter Try.func99, Try.ntmps99
  go_wp2_with fail
  have HD : Draw w n m p 0 0 ((w.alloc (.cells #[.int .i64 0, .int .i64 0, .slice none 0 0] 27)).alloc (.cells #[.int .i64 n, .int .i64 m, .int .i64 0, .int .i64 0, .int .i64 0, .int .i64 0, .int .i64 0, .int .i64 0] 67)) := by
    refine ⟨below_on (below_new _) (below_new _), (Has.new w [.int .i64 0, .int .i64 0, .slice none 0 0] 27).kept (below_new _) (by simp), ?_⟩
    have := Has.new (w.alloc (.cells #[.int .i64 0, .int .i64 0, .slice none 0 0] 27)) (gl n m (drawn p m 0 0)) 67
    rw [drawn_zero] at this ⊢
    simpa [gl] using this
  go_loopw [8, 9] (fun i _ wr => ∃ k : Nat, k ≤ n ∧ i = .int .i64 k ∧ Draw w n m p k 0 wr) (fun i _ _ => n - (intOf i).toNat)
  case atStart => exact ⟨0, Nat.zero_le _, rfl, HD⟩
  case round =>
    clear HD
    obtain ⟨i, hi, rfl, HD⟩ := hrel
    obtain ⟨wo, rfl⟩ : ∃ wo : World, wo = wr := ⟨_, rfl⟩
    by_cases hin : i < n
    · go_wp2_with fail
      go_loopw [9] (fun j wr => ∃ l : Nat, l ≤ m ∧ j = .int .i64 l ∧ Draw w n m p i l wr) (fun j _ => m - (intOf j).toNat)
      case atStart => exact ⟨0, Nat.zero_le _, rfl, HD⟩
      case round =>
        clear HD
        obtain ⟨j, hj, rfl, HD⟩ := hrel
        by_cases hjm : j < m
        · go_wp2_with fail
          refine (hat i j wr hin hjm HD.below).mono ?_
          rintro e w2 ⟨rfl, hb⟩
          have HD2 := HD.kept hb
          clear HD hb
          cases hp : p i j
          · have HS := Lib.hid (HD2.skip hp)
            clear HD2 hp
            go_wp2_with fail
            go_roundw
            case rel => exact ⟨j + 1, by omega, by go_num, HS.out⟩
            case measure => simp [intOf]; omega
          · have HS := Lib.hid (HD2.put hp (by omega))
            have hce := HD2.grid.cell (2 + i)
            rw [gl_get _ _ _ i (by omega), drawn_at] at hce
            have hfe := HD2.grid.free (2 + i)
            have hor := or_step (rowM (p i) j) j (by omega) (rowM_lt _ _)
            generalize ((rowM (p i) j + 2 ^ j : Nat) : Int) = z at *
            clear HD2 hp
            go_wp2_with fail
            go_region
            go_wp2_with fail
            go_roundw
            case rel => exact ⟨j + 1, by omega, by go_num, HS.out⟩
            case measure => simp [intOf]; omega
        · go_wp2_with fail
          obtain rfl : j = m := by omega
          have HN := HD.next
          go_roundw
          case rel => exact ⟨i + 1, by omega, by go_num, HN⟩
          case measure => simp [intOf]; omega
    · obtain rfl : i = n := by omega
      obtain ⟨e0, e1, e2, e3, e4, e5, e6, e7, _⟩ := HD.grid.eight
      go_wp2_with fail
      refine (board_any i m _ _ _ _ _ _ wo hn).mono ?_
      rintro e w2 ⟨s, rfl, hO, hb⟩
      have hR := HD.res.kept hb HD.res.lt
      obtain ⟨f0, f1, f2, ff⟩ := hR.three
      have HB := Lib.hid (below_on HD.below hb)
      have hlo : w.heap.size + 1 < wo.heap.size := HD.grid.lt
      have hO2 : Own w2 wo.heap.size s (([0, 1, 2, 3, 4, 5].take i).map fun k => (rowM (p k) m : Int)) := by
        have e : ([drawn p m i 0 0, drawn p m i 0 1, drawn p m i 0 2, drawn p m i 0 3, drawn p m i 0 4, drawn p m i 0 5].take i) = (([0, 1, 2, 3, 4, 5].take i).map fun k => (rowM (p k) m : Int)) := by
          have : i = 0 ∨ i = 1 ∨ i = 2 ∨ i = 3 ∨ i = 4 ∨ i = 5 ∨ i = 6 := by omega
          rcases this with rfl | rfl | rfl | rfl | rfl | rfl | rfl <;> simp [drawn]
        rw [← e]; exact hO
      obtain ⟨a1, cap1, hs, _⟩ := hO2.reads
      clear hO HD hb hR e0 e1 e2 e3 e4 e5 e6 e7
      rw [hs] at hO2 ⊢
      clear hs
      go_wp2_with fail
      refine bodyPost_ret (v := .agg #[.int .i64 i, .int .i64 m, .slice a1 (([0, 1, 2, 3, 4, 5].take i).map fun k => (rowM (p k) m : Int)).length cap1]) (by simp [results, Try.results99, go_sem, f0, f1, f2] <;> omega) rfl ⟨_, rfl, ?_, ?_⟩
      · exact (((hO2.set (by simp <;> omega) _).set (by simp <;> omega) _).set (by simp <;> omega) _).lower (by omega)
      · have h2 := HB.out
        repeat (refine Below.setCell ?_ (by simp <;> omega) _)
        exact h2

end Go.Proofs.Ytaipcmplpjkebaa
end
