/- append at a step of a region that draws its order. No condition but the sizes. -/
import Derived.Test.YtdimbnkgomfojabM7
import Derived.Test.YtdimbnkgomfojabMg
import Derived.Test.YtdimbnkgomfojabAp
import Derived.Test.YtdimbnkgomfojabT3
import Derived.Laws.OwnMore
import Derived.Deep.RegionHeld3
namespace Go.Proofs.Ytdimbnkgomfojab
open Go.RowKit Go.WideShapes

/-- append of one number to a slice of the call's own, at a step of a region that draws its order. -/
theorem step_appI {w0 w : World} {ops : Array Oper} {o : Oper} {a : Act} {K : Act → World → Prop} {Q : Exit → Act → World → Prop} {E : Prop} (hgd : o.guard = none) (s x : Operand)
    (ho : o.op = .call { callee := .builtin .append, args := #[s, x], argTypes := #[22, 22] }) {ts : List Thing} {v : Value} {xs : List Int} (y : Int)
    (L : Law w0 (tOwn v xs :: ts) w) (g0 : Nat) (hs : a.eval s = v) (hx : a.eval x = .slice (some ⟨g0, 0, none⟩) 1 1) (hnew : w.cell? ⟨g0, 0, none⟩ = some (.int .i64 y)) (hl : xs.length + 1 ≤ 1048576)
    (h : ∀ g cap w', Law w0 (tOwn (.slice (some ⟨g, 0, none⟩) (xs.length + 1) cap) (xs ++ [y]) :: ts) w' → K (a.put o.dst (.slice (some ⟨g, 0, none⟩) (xs.length + 1) cap)) w') :
    if Region.wanted o (yielded ops a.tmps) = true then Oper.wp Try.prog o a w K Q else E := by
  refine step_app hgd s x ho 0 v xs xs.length y g0 hs hx L.ownInts rfl hnew hl (Nat.zero_le _) _ rfl ?_
  intro g cap w' h1 h2 h3 h4
  refine h g cap w' ?_
  exact Law.write' (ts := []) L (Chg.of_grown h2 (fun _ e => e)) (tOwn _ (xs ++ [y])) (fun k hk => by
    have e : g = k := by simpa [tOwn, Value.ownBlock] using hk
    subst e
    rcases h3 with h3 | h3
    · exact .inl h3
    · exact .inr ⟨by omega, h4⟩) h1

/-- append of all rows of another one, at a step of a region that draws its order; of nothing, too. -/
theorem step_joinE {w0 w : World} {ops : Array Oper} {o : Oper} {a : Act} {K : Act → World → Prop} {Q : Exit → Act → World → Prop} {E : Prop} (hgd : o.guard = none) (s x : Operand)
    (ho : o.op = .call { callee := .builtin .append, args := #[s, x], argTypes := #[35, 35] }) {ts : List Thing} {v v2 : Value} {vs vs2 : List Value} {rss rss2 : List (List Int)}
    (L : Law w0 (tM v2 vs2 rss2 :: tM v vs rss :: ts) w) (h2 : vs2 = [] → v2 = .slice none 0 0) (h1 : vs = [] → v = .slice none 0 0) (hs : a.eval s = v) (hx : a.eval x = v2) (hl : rss.length + rss2.length ≤ 1048576)
    (h : ∀ v' vs' w', Law w0 (tM v' vs' (rss ++ rss2) :: ts) w' → (vs' = [] → v' = .slice none 0 0) → K (a.put o.dst v') w') :
    if Region.wanted o (yielded ops a.tmps) = true then Oper.wp Try.prog o a w K Q else E := by
  have e1 := L.tl.ownM.len
  have e2 := L.ownM.len
  by_cases hz : vs2 = []
  · have hv := h2 hz
    subst hz hv
    have hr : rss2 = [] := by simpa using e2
    subst hr
    obtain ⟨i0, hi, hz0, hz1, hz2⟩ := info_parts Try.infoL
    have hrun := run_append_owned_none (P := Try.prog) (w := w) 0 35 o.type 22 i0 1 Try.underlying35 hi v vs.length vs L.tl.ownM.outer
    have hw : Region.wanted o (yielded ops a.tmps) = true := by simp [Region.wanted, hgd]
    rw [if_pos hw]
    unfold Oper.wp
    simp [execOp, ho, resolve, invoke, builtin, hs, hx, hrun, Result.andThen]
    refine h v vs w ?_ h1
    rw [List.append_nil]
    exact L.tl
  · rcases L.ownM.cases with ⟨_, h⟩ | ⟨g, cap, rfl, q1, q2, q3, q4⟩
    · exact absurd h hz
    · refine step_joinM hgd s x ho g vs2.length cap L rfl (List.length_pos_iff.2 hz) hs hx (fun u hu => ?_) (by omega) ?_
      · obtain ⟨b, hb⟩ := mem_zip_of vs2 rss2 e2 u hu
        exact own_oneCell (L.ownM.rows _ hb)
      · intro g' cap' w' L'
        exact h _ _ w' L' (fun e => by simp [hz] at e)


end Go.Proofs.Ytdimbnkgomfojab
