/- Slices of slices of ints of the call's own. No condition. -/
import Derived.Test.YtmhlpaenfknofaaT3
namespace Go.Proofs.Ytmhlpaenfknofaa
open Go.RowKit

theorem Try.infoL : (Try.prog.info? 22).map (fun i => (i.zero, i.size, i.bytes)) = some (some (.slice none 0 0), 1, 24) := by kernel_rfl

/-- v is a slice of the call's own that holds the slices vs, and these hold the rows rss, each on a block of its own. -/
structure OwnM (w : World) (lo : Nat) (v : Value) (vs : List Value) (rss : List (List Int)) : Prop where
  outer : w.ownsRow lo 22 1 v vs.length vs
  len : rss.length = vs.length
  rows : ∀ p ∈ vs.zip rss, Own w lo p.1 p.2
  dis : vs.Pairwise fun a b => ∀ k, a.ownBlock = some k → b.ownBlock ≠ some k
  apart : ∀ u ∈ vs, ∀ k, u.ownBlock = some k → v.ownBlock ≠ some k

theorem mem_zip_of {α β : Type} (l : List α) (r : List β) (h : r.length = l.length) (u : α) (hu : u ∈ l) : ∃ b, (u, b) ∈ l.zip r := by
  obtain ⟨i, hi, rfl⟩ := List.getElem_of_mem hu
  exact ⟨r[i], by rw [List.mem_iff_getElem]; exact ⟨i, by simp; omega, by simp⟩⟩

theorem OwnM.nil (w : World) (lo : Nat) : OwnM w lo (.slice none 0 0) [] [] := ⟨World.ownsRow_nil _ _ _ _, rfl, by simp, by simp, by simp⟩
theorem OwnM.lower {w : World} {lo lo' : Nat} {v : Value} {vs : List Value} {rss : List (List Int)} (h : OwnM w lo v vs rss) (hl : lo' ≤ lo) : OwnM w lo' v vs rss := by
  refine ⟨⟨h.outer.1, ?_⟩, h.len, fun p hp => (h.rows p hp).lower hl, h.dis, h.apart⟩
  rcases h.outer.2 with h | ⟨g, cap, cur, e, hb, r⟩
  · exact .inl h
  · exact .inr ⟨g, cap, cur, e, by omega, r⟩
theorem OwnM.lt {w : World} {lo : Nat} {v : Value} {vs : List Value} {rss : List (List Int)} (h : OwnM w lo v vs rss) :
    (∀ k, v.ownBlock = some k → lo ≤ k ∧ k < w.heap.size) ∧ ∀ u ∈ vs, ∀ k, u.ownBlock = some k → lo ≤ k ∧ k < w.heap.size := by
  refine ⟨World.ownsRow.lt h.outer, fun u hu k hk => ?_⟩
  obtain ⟨b, hb⟩ := mem_zip_of vs rss h.len u hu
  exact own_lt (h.rows _ hb) k hk
/-- What is not written stays. -/
theorem OwnM.stay {w w' : World} {lo : Nat} {v : Value} {vs : List Value} {rss : List (List Int)} (h : OwnM w lo v vs rss) {row : Option Nat} (hg : w.grownBy w' row)
    (h1 : v.ownBlock = none ∨ v.ownBlock ≠ row) (h2 : ∀ u ∈ vs, u.ownBlock = none ∨ u.ownBlock ≠ row) : OwnM w' lo v vs rss := by
  refine ⟨World.ownsRow.kept h.outer hg h1, h.len, fun p hp => ?_, h.dis, h.apart⟩
  exact World.ownsRow.kept (h.rows p hp) hg (h2 p.1 (List.of_mem_zip hp).1)

/-- The two forms in which a walk meets it. -/
theorem OwnM.cases {w : World} {lo : Nat} {v : Value} {vs : List Value} {rss : List (List Int)} (h : OwnM w lo v vs rss) :
    (v = .slice none 0 0 ∧ vs = []) ∨ ∃ g cap, v = .slice (some ⟨g, 0, none⟩) vs.length cap ∧ lo ≤ g ∧ g < w.heap.size ∧ vs.length ≤ cap ∧ cap ≤ maxLen := by
  rcases h.outer.2 with ⟨h1, h2⟩ | ⟨g, cap, cur, e, hb, hh, hn, hc, r⟩
  · exact .inl ⟨h1, by simpa using h2⟩
  · exact .inr ⟨g, cap, e, hb, (Array.getElem?_eq_some_iff.1 hh).1, hn, hc⟩
theorem OwnM.cell {w : World} {lo g cap : Nat} {vs : List Value} {rss : List (List Int)} (h : OwnM w lo (.slice (some ⟨g, 0, none⟩) vs.length cap) vs rss) (j : Nat) (hj : j < vs.length) :
    w.cell? ⟨g, j, none⟩ = some vs[j] := by
  rw [World.ownsRow.cellAt h.outer j (by omega)]
  simp [hj]
theorem OwnM.row {w : World} {lo : Nat} {v : Value} {vs : List Value} {rss : List (List Int)} (h : OwnM w lo v vs rss) (j : Nat) (hj : j < vs.length) : Own w lo vs[j] (rss[j]'(by rw [h.len]; exact hj)) :=
  h.rows (vs[j], rss[j]'(by rw [h.len]; exact hj)) (by rw [List.mem_iff_getElem]; exact ⟨j, by simp; rw [h.len]; omega, by simp⟩)

/-- A slice of slices, as a thing. -/
def tM (v : Value) (vs : List Value) (rss : List (List Int)) : Thing :=
  ⟨fun k => v.ownBlock = some k ∨ ∃ u ∈ vs, u.ownBlock = some k, fun w => OwnM w 0 v vs rss, fun w w' hs hk h => by
    have keep : ∀ (e : TypeId) (n : Nat) (u : Value) (xs : List Value), (∀ k, u.ownBlock = some k → w'.heap[k]? = w.heap[k]?) → w.ownsRow 0 e 1 u n xs → w'.ownsRow 0 e 1 u n xs := fun e n u xs hq h => by
      refine ⟨h.1, ?_⟩
      rcases h.2 with h2 | ⟨g, cap, cur, hv, hg, hh, r⟩
      · exact .inl h2
      · exact .inr ⟨g, cap, cur, hv, hg, by rw [hq g (by rw [hv]; rfl)]; exact hh, r⟩
    refine ⟨keep _ _ _ _ (fun k e => hk k (.inl e)) h.outer, h.len, fun p hp => ?_, h.dis, h.apart⟩
    exact keep _ _ _ _ (fun k e => hk k (.inr ⟨p.1, (List.of_mem_zip hp).1, e⟩)) (h.rows p hp)⟩

theorem Law.addM {w0 w w' : World} {ts : List Thing} (h : Law w0 ts w) (hb : Below w.heap.size w w') {v : Value} {vs : List Value} {rss : List (List Int)} (hm : OwnM w' w.heap.size v vs rss) : Law w0 (tM v vs rss :: ts) w' :=
  h.add hb (tM v vs rss) (hm.lower (Nat.zero_le _)) (fun k hk => by
    rcases hk with hk | ⟨u, hu, hk⟩
    · exact hm.lt.1 k hk
    · exact hm.lt.2 u hu k hk)
theorem Law.nilM {w0 w : World} {ts : List Thing} (h : Law w0 ts w) : Law w0 (tM (.slice none 0 0) [] [] :: ts) w := h.addM (Below.refl _ _) (OwnM.nil _ _)
theorem Law.ownM {w0 w : World} {v : Value} {vs : List Value} {rss : List (List Int)} {ts : List Thing} (h : Law w0 (tM v vs rss :: ts) w) : OwnM w 0 v vs rss := h.hd
theorem Law.ownMLo {w0 w : World} {v : Value} {vs : List Value} {rss : List (List Int)} {ts : List Thing} (h : Law w0 (tM v vs rss :: ts) w) : OwnM w w0.heap.size v vs rss := by
  have hm := h.ownM
  have hr := h.range _ (List.mem_cons_self ..)
  have up : ∀ (e : TypeId) (n : Nat) (u : Value) (xs : List Value), (∀ k, u.ownBlock = some k → (tM v vs rss).foot k) → w.ownsRow 0 e 1 u n xs → w.ownsRow w0.heap.size e 1 u n xs := fun e n u xs hq h => by
    refine ⟨h.1, ?_⟩
    rcases h.2 with h2 | ⟨g, cap, cur, hv, hg, r⟩
    · exact .inl h2
    · exact .inr ⟨g, cap, cur, hv, (hr g (hq g (by rw [hv]; rfl))).1, r⟩
  exact ⟨up _ _ _ _ (fun k e => .inl e) hm.outer, hm.len, fun p hp => up _ _ _ _ (fun k e => .inr ⟨p.1, (List.of_mem_zip hp).1, e⟩) (hm.rows p hp), hm.dis, hm.apart⟩

/-- A row is put behind the others. -/
theorem Law.pushM {w0 w w' : World} {ts : List Thing} {u : Value} {rs : List Int} {v v' : Value} {vs : List Value} {rss : List (List Int)} (h : Law w0 (tOwn u rs :: tM v vs rss :: ts) w)
    (hg : w.grownBy w' v.ownBlock) (ho : w'.ownsRow 0 22 1 v' (vs ++ [u]).length (vs ++ [u])) (hv : ∀ k, v'.ownBlock = some k → (v.ownBlock = some k ∨ k = w.heap.size) ∧ k < w'.heap.size) :
    Law w0 (tM v' (vs ++ [u]) (rss ++ [rs]) :: ts) w' := by
  have hu := h.ownInts
  have hM := h.tl.ownM
  have d1 := (List.pairwise_cons.1 h.dis).1
  have d2 := (List.pairwise_cons.1 (List.pairwise_cons.1 h.dis).2).1
  have rM := h.range (tM v vs rss) (by simp)
  have rU := h.range (tOwn u rs) (by simp)
  have rT : ∀ t ∈ ts, ∀ k, t.foot k → w0.heap.size ≤ k ∧ k < w.heap.size := fun t ht k hk => h.range t (by simp [ht]) k hk
  have huM : ∀ k, u.ownBlock = some k → ¬ (tM v vs rss).foot k := fun k hk => d1 (tM v vs rss) (by simp) k hk
  have hc : Chg (tM v vs rss).foot w w' := Chg.of_grown hg (fun k e => .inl e)
  have hne : ∀ x : Value, (∀ k, x.ownBlock = some k → v.ownBlock ≠ some k) → x.ownBlock = none ∨ x.ownBlock ≠ v.ownBlock := fun x hx => by
    cases e : x.ownBlock with
    | none => exact .inl rfl
    | some k => exact .inr (fun e2 => hx k e e2.symm)
  have hnew : OwnM w' 0 v' (vs ++ [u]) (rss ++ [rs]) := by
    refine ⟨ho, by simp [hM.len], ?_, ?_, ?_⟩
    · intro p hp
      rw [List.zip_append hM.len.symm] at hp
      rcases List.mem_append.1 hp with hp | hp
      · exact World.ownsRow.kept (hM.rows p hp) hg (hne p.1 (fun k hk => hM.apart p.1 (List.of_mem_zip hp).1 k hk))
      · simp at hp
        subst hp
        exact World.ownsRow.kept hu hg (hne u (fun k hk e => huM k hk (.inl e)))
    · rw [List.pairwise_append]
      refine ⟨hM.dis, by simp, fun a ha b hb k hk e => ?_⟩
      simp at hb
      subst hb
      exact huM k e (.inr ⟨a, ha, hk⟩)
    · intro x hx k hk e
      have hlt : k < w.heap.size ∧ v.ownBlock ≠ some k := by
        rcases List.mem_append.1 hx with hx | hx
        · exact ⟨(rM k (.inr ⟨x, hx, hk⟩)).2, hM.apart x hx k hk⟩
        · simp at hx
          subst hx
          exact ⟨(rU k hk).2, fun e => huM k hk (.inl e)⟩
      rcases (hv k e).1 with e | e
      · exact hlt.2 e
      · omega
  have hfoot : ∀ k, (tM v' (vs ++ [u]) (rss ++ [rs])).foot k → (tM v vs rss).foot k ∨ u.ownBlock = some k ∨ (k = w.heap.size ∧ k < w'.heap.size) := by
    intro k hk
    rcases hk with hk | ⟨x, hx, hk⟩
    · rcases (hv k hk).1 with e | e
      · exact .inl (.inl e)
      · exact .inr (.inr ⟨e, (hv k hk).2⟩)
    · rcases List.mem_append.1 hx with hx | hx
      · exact .inl (.inr ⟨x, hx, hk⟩)
      · simp at hx
        subst hx
        exact .inr (.inl hk)
  refine ⟨?_, ?_, ?_, ?_⟩
  · exact h.below.trans ⟨hc.os, hc.tape, hc.output, hc.size, fun k hk => hc.block k (by have := h.below.size; omega) (fun e => by have := (rM k e).1; omega)⟩
  · intro x hm
    rcases List.mem_cons.1 hm with rfl | hm
    · exact hnew
    · exact x.stable w w' hc.size (fun k hk => hc.block k (rT x hm k hk).2 (fun e => d2 x hm k e hk)) (h.holds x (by simp [hm]))
  · intro x hm k hk
    rcases List.mem_cons.1 hm with rfl | hm
    · rcases hfoot k hk with e | e | e
      · exact ⟨(rM k e).1, Nat.lt_of_lt_of_le (rM k e).2 hc.size⟩
      · exact ⟨(rU k e).1, Nat.lt_of_lt_of_le (rU k e).2 hc.size⟩
      · have := h.below.size
        omega
    · exact ⟨(rT x hm k hk).1, Nat.lt_of_lt_of_le (rT x hm k hk).2 hc.size⟩
  · refine List.pairwise_cons.2 ⟨fun x hm k e1 e2 => ?_, (List.pairwise_cons.1 (List.pairwise_cons.1 h.dis).2).2⟩
    rcases hfoot k e1 with e | e | e
    · exact d2 x hm k e e2
    · exact d1 x (by simp [hm]) k e e2
    · have := (rT x hm k e2).2
      omega

/-- append of one row, where nothing is drawn. -/
theorem wp_appendM {w0 w : World} {ops : Array Oper} {rest : List Oper} {o : Oper} {a : Act} {Q : Exit → Act → World → Prop} (hgd : o.guard = none) (s x : Operand)
    (ho : o.op = .call { callee := .builtin .append, args := #[s, x], argTypes := #[28, 28] }) {ts : List Thing} {u : Value} {rs : List Int} {v : Value} {vs : List Value} {rss : List (List Int)}
    (L : Law w0 (tOwn u rs :: tM v vs rss :: ts) w) (g0 : Nat) (hs : a.eval s = v) (hx : a.eval x = .slice (some ⟨g0, 0, none⟩) 1 1) (hnew : w.cell? ⟨g0, 0, none⟩ = some u) (hu1 : u.oneCell' = true) (hl : vs.length + 1 ≤ 1048576)
    (h : ∀ g cap w', Law w0 (tM (.slice (some ⟨g, 0, none⟩) (vs.length + 1) cap) (vs ++ [u]) (rss ++ [rs]) :: ts) w' → wpList Try.prog ops Q rest (a.put o.dst (.slice (some ⟨g, 0, none⟩) (vs.length + 1) cap)) w') :
    wpList Try.prog ops Q (o :: rest) a w := by
  obtain ⟨i0, hi, hz0, hz1, hz2⟩ := info_parts Try.infoL
  refine wpList_append_lies w hgd s x 28 ho 0 22 i0 (.slice none 0 0) 1 24 Try.underlying28 hi hz0 hz1 hz2 rfl (by decide) v vs.length vs hs L.tl.ownM.outer ⟨g0, 0, none⟩ 1 1 [u] hx rfl ?_ (by intro y hy; simp at hy; subst hy; exact hu1) (by decide) (by unfold maxLen; omega) (by omega) (Nat.zero_le _) _ rfl ?_
  · intro j y hy
    match j, hy with
    | 0, hy =>
      simp at hy
      subst hy
      rw [Addr.add_lit]
      exact hnew
  · intro g cap w' h1 h2 h3 h4
    refine h g cap w' (L.pushM h2 (by simpa using h1) (fun k hk => ?_))
    have e : g = k := by simpa [Value.ownBlock] using hk
    subst e
    exact ⟨h3, h4⟩

end Go.Proofs.Ytmhlpaenfknofaa
