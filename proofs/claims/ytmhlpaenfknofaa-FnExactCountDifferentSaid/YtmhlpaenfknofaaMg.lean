/- Slices of slices of the call's own: their form, one row alone, and one put behind another where nothing is drawn. No condition. -/
import Derived.Test.YtmhlpaenfknofaaM7
import Derived.Laws.OwnMore
import Derived.Laws.AppendOwnNone
namespace Go.Proofs.Ytmhlpaenfknofaa
open Go.RowKit Go.WideShapes

theorem own_oneCell {w : World} {lo : Nat} {v : Value} {xs : List Int} (h : Own w lo v xs) : v.oneCell' = true := by
  rcases h.cases with ⟨rfl, _⟩ | ⟨g, cap, rfl, _⟩ <;> rfl

theorem OwnM.formR {w : World} {lo : Nat} {v : Value} {vs : List Value} {rss : List (List Int)} (h : OwnM w lo v vs rss) : ∃ a cap, v = .slice a rss.length cap := by
  rcases h.cases with ⟨rfl, rfl⟩ | ⟨g, cap, rfl, _⟩
  · have : rss = [] := by simpa using h.len
    subst this
    exact ⟨none, 0, rfl⟩
  · rw [h.len]
    exact ⟨_, _, rfl⟩

/-- One row alone. -/
theorem OwnM.single {w : World} {lo : Nat} {u : Value} {r : List Int} (hu : Own w lo u r) (hlo : lo ≤ w.heap.size) :
    OwnM (w.alloc (.cells #[u] 22)) lo (.slice (some ⟨w.heap.size, 0, none⟩) 1 1) [u] [r] := by
  refine ⟨?_, rfl, ?_, by simp, ?_⟩
  · exact World.ownsRow_lit w #[u] 1 hlo (by unfold maxLen; omega) rfl
  · intro p hp
    simp at hp
    subst hp
    exact hu.kept (below_new _)
  · intro x hx k hk
    simp at hx
    subst hx
    have := own_lt hu k hk
    intro e
    have : k = w.heap.size := by simpa [Value.ownBlock] using e.symm
    omega

/-- append of all rows of another one, where nothing is drawn; of nothing, too. -/
theorem wp_joinE {w0 w : World} {ops : Array Oper} {rest : List Oper} {o : Oper} {a : Act} {Q : Exit → Act → World → Prop} (hgd : o.guard = none) (s x : Operand)
    (ho : o.op = .call { callee := .builtin .append, args := #[s, x], argTypes := #[28, 28] }) {ts : List Thing} {v v2 : Value} {vs vs2 : List Value} {rss rss2 : List (List Int)}
    (L : Law w0 (tM v2 vs2 rss2 :: tM v vs rss :: ts) w) (h2 : vs2 = [] → v2 = .slice none 0 0) (h1 : vs = [] → v = .slice none 0 0) (hs : a.eval s = v) (hx : a.eval x = v2) (hl : rss.length + rss2.length ≤ 1048576)
    (h : ∀ v' vs' w', Law w0 (tM v' vs' (rss ++ rss2) :: ts) w' → (vs' = [] → v' = .slice none 0 0) → wpList Try.prog ops Q rest (a.put o.dst v') w') : wpList Try.prog ops Q (o :: rest) a w := by
  have e1 := L.tl.ownM.len
  have e2 := L.ownM.len
  obtain ⟨i0, hi, hz0, hz1, hz2⟩ := info_parts Try.infoL
  by_cases hz : vs2 = []
  · have hv := h2 hz
    subst hz hv
    have hr : rss2 = [] := by simpa using e2
    subst hr
    refine wpList_append_own_none hgd s x 28 ho 0 22 i0 1 Try.underlying28 hi v vs.length vs hs L.tl.ownM.outer hx ?_
    refine h v vs w ?_ h1
    rw [List.append_nil]
    exact L.tl
  · rcases L.ownM.cases with ⟨_, h⟩ | ⟨g, cap, rfl, q1, q2, q3, q4⟩
    · exact absurd h hz
    · refine wpList_append_lies w hgd s x 28 ho 0 22 i0 (.slice none 0 0) 1 24 Try.underlying28 hi hz0 hz1 hz2 rfl (by decide) v vs.length vs hs L.tl.ownM.outer ⟨g, 0, none⟩ vs2.length cap vs2 hx (by omega) ?_ (fun u hu => ?_) (List.length_pos_iff.2 hz) (by unfold maxLen; omega) (by omega) (Nat.zero_le _) _ rfl ?_
      · intro j y hy
        obtain ⟨hj, rfl⟩ := List.getElem?_eq_some_iff.1 hy
        rw [Addr.add_lit]
        have := L.ownM.cell j hj
        simpa using this
      · obtain ⟨b, hb⟩ := mem_zip_of vs2 rss2 e2 u hu
        exact own_oneCell (L.ownM.rows _ hb)
      · intro g' cap' w' p1 p2 p3 p4
        refine h _ _ w' (L.joinM p2 (by simpa using p1) (fun k hk => ?_)) (fun e => by simp [hz] at e)
        have e : g' = k := by simpa [Value.ownBlock] using hk
        subst e
        exact ⟨p3, p4⟩

end Go.Proofs.Ytmhlpaenfknofaa
