/- Slices of slices whose rows belong to others; append of one row that stays where it is. No condition. -/
import Derived.Test.YtakdiiccdkjjcabM4
import Derived.Test.YtakdiiccdkjjcabT3
namespace Go.Proofs.Ytakdiiccdkjjcab
open Go.RowKit Go.WideShapes

def tV (v : Value) (vs : List Value) : Thing :=
  ⟨fun k => v.ownBlock = some k, fun w => w.ownsRow 0 22 1 v vs.length vs, fun _ _ _ hk h => by
    refine ⟨h.1, ?_⟩
    rcases h.2 with h2 | ⟨g, cap, cur, hv, hg, hh, r⟩
    · exact .inl h2
    · exact .inr ⟨g, cap, cur, hv, hg, by rw [hk g (by rw [hv]; rfl)]; exact hh, r⟩⟩
theorem Law.nilV {w0 w : World} {ts : List Thing} (h : Law w0 ts w) : Law w0 (tV (.slice none 0 0) [] :: ts) w :=
  h.add (Below.refl _ _) (tV (.slice none 0 0) []) (World.ownsRow_nil _ _ _ _) (fun k hk => by simp [tV, Value.ownBlock] at hk)
theorem Law.ownV {w0 w : World} {v : Value} {vs : List Value} {ts : List Thing} (h : Law w0 (tV v vs :: ts) w) : w.ownsRow 0 22 1 v vs.length vs := h.hd

theorem wp_appendV {w0 w : World} {ops : Array Oper} {rest : List Oper} {o : Oper} {a : Act} {Q : Exit → Act → World → Prop} (hgd : o.guard = none) (s x : Operand)
    (ho : o.op = .call { callee := .builtin .append, args := #[s, x], argTypes := #[37, 37] }) {ts : List Thing} {u : Value} {v : Value} {vs : List Value}
    (L : Law w0 (tV v vs :: ts) w) (g0 : Nat) (hs : a.eval s = v) (hx : a.eval x = .slice (some ⟨g0, 0, none⟩) 1 1) (hnew : w.cell? ⟨g0, 0, none⟩ = some u) (hu1 : u.oneCell' = true) (hl : vs.length + 1 ≤ 1048576)
    (h : ∀ g cap w', Law w0 (tV (.slice (some ⟨g, 0, none⟩) (vs.length + 1) cap) (vs ++ [u]) :: ts) w' → wpList Try.prog ops Q rest (a.put o.dst (.slice (some ⟨g, 0, none⟩) (vs.length + 1) cap)) w') :
    wpList Try.prog ops Q (o :: rest) a w := by
  obtain ⟨i0, hi, hz0, hz1, hz2⟩ := info_parts Try.infoL
  refine wpList_append_lies w hgd s x 37 ho 0 22 i0 (.slice none 0 0) 1 24 Try.underlying37 hi hz0 hz1 hz2 rfl (by decide) v vs.length vs hs L.ownV ⟨g0, 0, none⟩ 1 1 [u] hx rfl ?_ (by intro y hy; simp at hy; subst hy; exact hu1) (by decide) (by unfold maxLen; omega) (by omega) (Nat.zero_le _) _ rfl ?_
  · intro j y hy
    match j, hy with
    | 0, hy =>
      simp at hy
      subst hy
      rw [Addr.add_lit]
      exact hnew
  · intro g cap w' h1 h2 h3 h4
    refine h g cap w' (Law.write' (ts := []) L (Chg.of_grown h2 (fun _ e => e)) (tV _ (vs ++ [u])) (fun k hk => by
      have e : g = k := by simpa [tV, Value.ownBlock] using hk
      subst e
      rcases h3 with h3 | h3
      · exact .inl h3
      · exact .inr ⟨by omega, h4⟩) ?_)
    show w'.ownsRow 0 22 1 _ (vs ++ [u]).length (vs ++ [u])
    have e : (vs ++ [u]).length = vs.length + 1 := by simp
    rw [e]
    exact h1

/-- Reading such a slice: each of its rows reads as a list. -/
theorem readsV {w0 w : World} {ts : List Thing} {v : Value} {vs : List Value} {rss : List (List Int)} (L : Law w0 (tV v vs :: ts) w) (hl : rss.length = vs.length)
    (hr : ∀ j (hj : j < rss.length), ∃ aj cj, vs[j]'(by omega) = .slice aj rss[j].length cj ∧ Reads w aj rss[j].length rss[j]) :
    ∃ a cap, v = .slice a rss.length cap ∧ ReadsM w a rss.length rss := by
  have h := L.ownV
  rcases h.2 with ⟨h2, h3⟩ | ⟨g, cap, cur, hv, hg, hh, r⟩
  · have : rss.length = 0 := by rw [hl, h3]
    exact ⟨none, 0, by rw [this]; exact h2, rfl, .inl this⟩
  · have hlt : g < w.heap.size := by
      rcases Nat.lt_or_ge g w.heap.size with h | h
      · exact h
      · rw [Array.getElem?_eq_none h] at hh; cases hh
    refine ⟨some ⟨g, 0, none⟩, cap, by rw [hl]; exact hv, rfl, .inr ⟨g, 0, rfl, hlt, fun j hj => ?_⟩⟩
    obtain ⟨aj, cj, e, rd⟩ := hr j hj
    refine ⟨aj, cj, ?_, rd⟩
    rw [hv] at h
    rw [Nat.zero_add, World.ownsRow.cellAt h j (by omega), List.getElem?_eq_getElem (by omega), e]

/-- A row is stored where it lies already. -/
theorem Law.sameM {w0 w : World} {ts : List Thing} {g n cap : Nat} {vs : List Value} {rss : List (List Int)} (h : Law w0 (tM (.slice (some ⟨g, 0, none⟩) n cap) vs rss :: ts) w)
    (hn : vs.length = n) (k : Nat) (hk : k < vs.length) : Law w0 (tM (.slice (some ⟨g, 0, none⟩) n cap) vs rss :: ts) (w.setCell ⟨g, k, none⟩ vs[k]) := by
  subst hn
  have hM := h.ownM
  obtain ⟨ho, hg⟩ := World.ownsRow.stored hM.outer k vs[k]
  rw [List.set_getElem_self] at ho
  have hc : Chg (tM (.slice (some ⟨g, 0, none⟩) vs.length cap) vs rss).foot w (w.setCell ⟨g, k, none⟩ vs[k]) := Chg.of_grown hg (fun k e => .inl e)
  have hne : ∀ x : Value, (∀ k, x.ownBlock = some k → k ≠ g) → x.ownBlock = none ∨ x.ownBlock ≠ some g := fun x hx => by
    cases e : x.ownBlock with
    | none => exact .inl rfl
    | some k => exact .inr (fun e2 => hx k e (by simpa using e2))
  refine Law.write (ts := []) h hc (tM _ vs rss) rfl ?_
  refine ⟨ho, hM.len, fun p hp => ?_, hM.dis, hM.apart⟩
  exact World.ownsRow.kept (hM.rows p hp) hg (hne p.1 (fun k hk e => hM.apart p.1 (List.of_mem_zip hp).1 k hk (by rw [e]; rfl)))

end Go.Proofs.Ytakdiiccdkjjcab
