/- append of one number to a slice of the call's own, in the law's state. No condition. -/
import Derived.Test.YtmhlpaenfknofaaT3
namespace Go.Proofs.Ytmhlpaenfknofaa
open Go.RowKit Go.WideShapes

/-- append of one number, where nothing is drawn. -/
theorem wp_appendI {w0 w : World} {ops : Array Oper} {rest : List Oper} {o : Oper} {a : Act} {Q : Exit → Act → World → Prop} (hgd : o.guard = none) (s x : Operand)
    (ho : o.op = .call { callee := .builtin .append, args := #[s, x], argTypes := #[22, 22] }) {ts : List Thing} {v : Value} {xs : List Int} (y : Int)
    (L : Law w0 (tOwn v xs :: ts) w) (g0 : Nat) (hs : a.eval s = v) (hx : a.eval x = .slice (some ⟨g0, 0, none⟩) 1 1) (hnew : w.cell? ⟨g0, 0, none⟩ = some (.int .i64 y)) (hl : xs.length + 1 ≤ 1048576) (xs' : List Int) (hxs : xs ++ [y] = xs')
    (h : ∀ g cap w', Law w0 (tOwn (.slice (some ⟨g, 0, none⟩) xs'.length cap) xs' :: ts) w' → wpList Try.prog ops Q rest (a.put o.dst (.slice (some ⟨g, 0, none⟩) xs'.length cap)) w') :
    wpList Try.prog ops Q (o :: rest) a w := by
  subst hxs
  obtain ⟨i0, hi, hz0, hz1, hz2⟩ := info_parts Try.infoI
  refine wpList_append_lies w hgd s x 22 ho 0 3 i0 (.int .i64 0) 1 8 Try.underlying22 hi hz0 hz1 hz2 rfl (by decide) v xs.length _ hs L.ownInts ⟨g0, 0, none⟩ 1 1 [.int .i64 y] hx rfl ?_ (by intro y hy; simp at hy; subst hy; rfl) (by decide) (by unfold maxLen; omega) (by omega) (Nat.zero_le _) _ rfl ?_
  · intro j y hy
    match j, hy with
    | 0, hy =>
      simp at hy
      subst hy
      rw [Addr.add_lit]
      exact hnew
  · intro g cap w' h1 h2 h3 h4
    have e : (xs ++ [y]).length = xs.length + 1 := by simp
    rw [← e] at h1
    have h5 := h g cap w'
    rw [e] at h5 h1
    refine h5 ?_
    have hO : Own w' 0 (.slice (some ⟨g, 0, none⟩) (xs.length + 1) cap) (xs ++ [y]) := by
      unfold Own
      rw [e, List.map_append]
      exact h1
    exact Law.write' (ts := []) L (Chg.of_grown h2 (fun _ e => e)) (tOwn _ (xs ++ [y])) (fun k hk => by
      have e : g = k := by simpa [tOwn, Value.ownBlock] using hk
      subst e
      rcases h3 with h3 | h3
      · exact .inl h3
      · exact .inr ⟨by omega, h4⟩) hO

end Go.Proofs.Ytmhlpaenfknofaa
