/- Two slices of slices of the call's own, one put behind the other. No condition. -/
import Derived.Test.YtmhlpaenfknofaaM
namespace Go.Proofs.Ytmhlpaenfknofaa
open Go.RowKit

theorem Law.joinM {w0 w w' : World} {ts : List Thing} {v2 v v' : Value} {vs2 vs : List Value} {rss2 rss : List (List Int)} (h : Law w0 (tM v2 vs2 rss2 :: tM v vs rss :: ts) w)
    (hg : w.grownBy w' v.ownBlock) (ho : w'.ownsRow 0 22 1 v' (vs ++ vs2).length (vs ++ vs2)) (hv : ∀ k, v'.ownBlock = some k → (v.ownBlock = some k ∨ k = w.heap.size) ∧ k < w'.heap.size) :
    Law w0 (tM v' (vs ++ vs2) (rss ++ rss2) :: ts) w' := by
  have hu := h.ownM
  have hM := h.tl.ownM
  have d1 := (List.pairwise_cons.1 h.dis).1
  have d2 := (List.pairwise_cons.1 (List.pairwise_cons.1 h.dis).2).1
  have rM := h.range (tM v vs rss) (by simp)
  have rU := h.range (tM v2 vs2 rss2) (by simp)
  have rT : ∀ t ∈ ts, ∀ k, t.foot k → w0.heap.size ≤ k ∧ k < w.heap.size := fun t ht k hk => h.range t (by simp [ht]) k hk
  have huM : ∀ x ∈ vs2, ∀ k, x.ownBlock = some k → ¬ (tM v vs rss).foot k := fun x hx k hk => d1 (tM v vs rss) (by simp) k (.inr ⟨x, hx, hk⟩)
  have hc : Chg (tM v vs rss).foot w w' := Chg.of_grown hg (fun k e => .inl e)
  have hne : ∀ x : Value, (∀ k, x.ownBlock = some k → v.ownBlock ≠ some k) → x.ownBlock = none ∨ x.ownBlock ≠ v.ownBlock := fun x hx => by
    cases e : x.ownBlock with
    | none => exact .inl rfl
    | some k => exact .inr (fun e2 => hx k e e2.symm)
  have hnew : OwnM w' 0 v' (vs ++ vs2) (rss ++ rss2) := by
    refine ⟨ho, by simp [hM.len, hu.len], ?_, ?_, ?_⟩
    · intro p hp
      rw [List.zip_append hM.len.symm] at hp
      rcases List.mem_append.1 hp with hp | hp
      · exact World.ownsRow.kept (hM.rows p hp) hg (hne p.1 (fun k hk => hM.apart p.1 (List.of_mem_zip hp).1 k hk))
      · exact World.ownsRow.kept (hu.rows p hp) hg (hne p.1 (fun k hk e => huM p.1 (List.of_mem_zip hp).1 k hk (.inl e)))
    · rw [List.pairwise_append]
      refine ⟨hM.dis, hu.dis, fun a ha b hb k hk e => ?_⟩
      exact huM b hb k e (.inr ⟨a, ha, hk⟩)
    · intro x hx k hk e
      have hlt : k < w.heap.size ∧ v.ownBlock ≠ some k := by
        rcases List.mem_append.1 hx with hx | hx
        · exact ⟨(rM k (.inr ⟨x, hx, hk⟩)).2, hM.apart x hx k hk⟩
        · exact ⟨(rU k (.inr ⟨x, hx, hk⟩)).2, fun e => huM x hx k hk (.inl e)⟩
      rcases (hv k e).1 with e | e
      · exact hlt.2 e
      · omega
  have hfoot : ∀ k, (tM v' (vs ++ vs2) (rss ++ rss2)).foot k → (tM v vs rss).foot k ∨ (tM v2 vs2 rss2).foot k ∨ (k = w.heap.size ∧ k < w'.heap.size) := by
    intro k hk
    rcases hk with hk | ⟨x, hx, hk⟩
    · rcases (hv k hk).1 with e | e
      · exact .inl (.inl e)
      · exact .inr (.inr ⟨e, (hv k hk).2⟩)
    · rcases List.mem_append.1 hx with hx | hx
      · exact .inl (.inr ⟨x, hx, hk⟩)
      · exact .inr (.inl (.inr ⟨x, hx, hk⟩))
  refine ⟨?_, ?_, ?_, ?_⟩
  · exact h.below.trans ⟨hc.os, hc.tape, hc.output, hc.size, fun k hk => hc.block k (by have := h.below.size; omega) (fun e => by have := (rM k e).1; omega)⟩
  · intro x hm
    rcases List.mem_cons.1 hm with rfl | hm
    · exact hnew
    · exact x.stable w w' hc.size (fun k hk => hc.block k (rT x hm k hk).2 (fun e => d2 x hm k e hk)) (h.holds x (by simp [hm]))
  · intro x hm k hk
    rcases List.mem_cons.1 hm with rfl | hm
    · rcases hfoot k hk with e | e | e
      · exact ⟨(rM k e).1, Nat.lt_of_lt_of_le (rM k e).2 hc.size⟩
      · exact ⟨(rU k e).1, Nat.lt_of_lt_of_le (rU k e).2 hc.size⟩
      · have := h.below.size
        omega
    · exact ⟨(rT x hm k hk).1, Nat.lt_of_lt_of_le (rT x hm k hk).2 hc.size⟩
  · refine List.pairwise_cons.2 ⟨fun x hm k e1 e2 => ?_, (List.pairwise_cons.1 (List.pairwise_cons.1 h.dis).2).2⟩
    rcases hfoot k e1 with e | e | e
    · exact d2 x hm k e e2
    · exact d1 x (by simp [hm]) k e e2
    · have := (rT x hm k e2).2
      omega

/-- append of all rows of another one, that has some, at a step of a region that draws its order. -/
theorem step_joinM {w0 w : World} {ops : Array Oper} {o : Oper} {a : Act} {K : Act → World → Prop} {Q : Exit → Act → World → Prop} {E : Prop} (hgd : o.guard = none) (s x : Operand)
    (ho : o.op = .call { callee := .builtin .append, args := #[s, x], argTypes := #[28, 28] }) {ts : List Thing} {v : Value} {vs vs2 : List Value} {rss rss2 : List (List Int)} (g0 n0 c0 : Nat)
    (L : Law w0 (tM (.slice (some ⟨g0, 0, none⟩) n0 c0) vs2 rss2 :: tM v vs rss :: ts) w) (hn0 : n0 = vs2.length) (h0 : 0 < n0) (hs : a.eval s = v) (hx : a.eval x = .slice (some ⟨g0, 0, none⟩) n0 c0) (hu1 : ∀ u ∈ vs2, u.oneCell' = true) (hl : vs.length + n0 ≤ 1048576)
    (h : ∀ g cap w', Law w0 (tM (.slice (some ⟨g, 0, none⟩) (vs.length + n0) cap) (vs ++ vs2) (rss ++ rss2) :: ts) w' → K (a.put o.dst (.slice (some ⟨g, 0, none⟩) (vs.length + n0) cap)) w') :
    if Region.wanted o (yielded ops a.tmps) = true then Oper.wp Try.prog o a w K Q else E := by
  subst hn0
  obtain ⟨i0, hi, hz0, hz1, hz2⟩ := info_parts Try.infoL
  refine step_append_lies w hgd s x 28 ho 0 22 i0 (.slice none 0 0) 1 24 Try.underlying28 hi hz0 hz1 hz2 rfl (by decide) v vs.length vs hs L.tl.ownM.outer ⟨g0, 0, none⟩ vs2.length c0 vs2 hx (by omega) ?_ hu1 h0 (by unfold maxLen; omega) (by omega) (Nat.zero_le _) _ rfl ?_
  · intro j y hy
    obtain ⟨hj, rfl⟩ := List.getElem?_eq_some_iff.1 hy
    rw [Addr.add_lit]
    have := L.ownM.cell j hj
    simpa using this
  · intro g cap w' h1 h2 h3 h4
    refine h g cap w' (L.joinM h2 (by simpa using h1) (fun k hk => ?_))
    have e : g = k := by simpa [Value.ownBlock] using hk
    subst e
    exact ⟨h3, h4⟩

end Go.Proofs.Ytmhlpaenfknofaa
