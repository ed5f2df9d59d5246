/- More words for the law's state: what grows, and one cell of a box. No condition. -/
import Derived.Test.YtmhlpaenfknofaaT2
import Derived.Test.YtmhlpaenfknofaaP
import Derived.Deep.AppendLies
namespace Go.Proofs.Ytmhlpaenfknofaa
open Go.RowKit

/-- One of the things becomes another, on its own blocks and on new ones. -/
theorem Law.write' {w0 w w' : World} {ts ts' : List Thing} {t : Thing} (h : Law w0 (ts ++ t :: ts') w) (hc : Chg t.foot w w') (t' : Thing)
    (hf : ∀ k, t'.foot k → t.foot k ∨ (w.heap.size ≤ k ∧ k < w'.heap.size)) (ht : t'.holds w') : Law w0 (ts ++ t' :: ts') w' := by
  have hd := h.dis
  rw [List.pairwise_append, List.pairwise_cons] at hd
  obtain ⟨d1, ⟨d2, d3⟩, d4⟩ := hd
  have hrt := h.range t (by simp)
  have hrl : ∀ x, x ∈ ts → ∀ k, x.foot k → k < w.heap.size := fun x hm k hk => (h.range x (by simp [hm]) k hk).2
  have hrr : ∀ x, x ∈ ts' → ∀ k, x.foot k → k < w.heap.size := fun x hm k hk => (h.range x (by simp [hm]) k hk).2
  have keep : ∀ x, x ∈ ts ++ t :: ts' → (∀ k, x.foot k → ¬ t.foot k) → x.holds w' := fun x hm hn => x.stable w w' hc.size (fun k hk => hc.block k (h.range x hm k hk).2 (hn k hk)) (h.holds x hm)
  refine ⟨?_, ?_, ?_, ?_⟩
  · exact h.below.trans ⟨hc.os, hc.tape, hc.output, hc.size, fun k hk => hc.block k (by have := h.below.size; omega) (fun e => by have := (hrt k e).1; omega)⟩
  · intro x hm
    rcases List.mem_append.1 hm with hm | hm
    · exact keep x (by simp [hm]) (fun k hk e => d4 x hm t (by simp) k hk e)
    · rcases List.mem_cons.1 hm with rfl | hm
      · exact ht
      · exact keep x (by simp [hm]) (fun k hk e => d2 x hm k e hk)
  · intro x hm k hk
    rcases List.mem_append.1 hm with hm | hm
    · exact ⟨(h.range x (by simp [hm]) k hk).1, Nat.lt_of_lt_of_le (h.range x (by simp [hm]) k hk).2 hc.size⟩
    · rcases List.mem_cons.1 hm with rfl | hm
      · rcases hf k hk with hk | hk
        · exact ⟨(hrt k hk).1, Nat.lt_of_lt_of_le (hrt k hk).2 hc.size⟩
        · have := h.below.size
          omega
      · exact ⟨(h.range x (by simp [hm]) k hk).1, Nat.lt_of_lt_of_le (h.range x (by simp [hm]) k hk).2 hc.size⟩
  · rw [List.pairwise_append, List.pairwise_cons]
    refine ⟨d1, ⟨fun b hb k e1 e2 => ?_, d3⟩, fun a ha b hb k e e2 => ?_⟩
    · rcases hf k e1 with e1 | e1
      · exact d2 b hb k e1 e2
      · have := hrr b hb k e2
        omega
    · rcases List.mem_cons.1 hb with rfl | hb
      · rcases hf k e2 with e2 | e2
        · exact d4 a ha t (by simp) k e e2
        · have := hrl a ha k e
          omega
      · exact d4 a ha b (by simp [hb]) k e e2

/-- One of the slices has grown. -/
theorem Law.grow {w0 w w' : World} {ts ts' : List Thing} {s s' : Value} {xs ys : List Int} (h : Law w0 (ts ++ tOwn s xs :: ts') w) (hg : w.grownBy w' s.ownBlock) {lo : Nat} (hs : Own w' lo s' ys)
    (hb : ∀ k, s'.ownBlock = some k → s.ownBlock = some k ∨ k = w.heap.size) : Law w0 (ts ++ tOwn s' ys :: ts') w' :=
  h.write' (Chg.of_grown hg (fun _ e => e)) (tOwn s' ys) (fun k hk => by
    rcases hb k hk with e | e
    · exact .inl e
    · exact .inr ⟨by omega, (own_lt hs k hk).2⟩) (hs.lower (Nat.zero_le _))

/-- The third cell of a box is written. -/
theorem Law.set2 {w0 w : World} {ts ts' : List Thing} {n : Nat} {x y z : Value} (h : Law w0 (ts ++ tBox n x y z :: ts') w) (z' : Value) :
    Law w0 (ts ++ tBox n x y z' :: ts') (w.setCell ⟨n, 2, none⟩ z') := by
  have hb : Box w n x y z := h.holds (tBox n x y z) (by simp)
  refine h.write (t := tBox n x y z) (show Chg (tBox n x y z).foot w (w.setCell ⟨n, 2, none⟩ z') from ⟨rfl, rfl, rfl, by simp [World.setCell], fun k _ hf => Below.heap_setCell w ⟨n, 2, none⟩ z' k (fun e => hf e)⟩) (tBox n x y z') rfl ?_
  refine ⟨by have := hb.lt; simp [World.setCell]; omega, ?_, ?_, ?_, fun o => by rw [World.frozen?_setCell]; exact hb.fr o⟩
  · rw [World.cell?_setCell_other _ _ _ _ (by simp)]; exact hb.c0
  · rw [World.cell?_setCell_other _ _ _ _ (by simp)]; exact hb.c1
  · exact World.cell?_setCell_same _ _ _ hb.c2

/-- append of one number, as one step of a region that draws. -/
theorem step_app {ops : Array Oper} {o : Oper} {a : Act} {w : World} {K : Act → World → Prop} {Q : Exit → Act → World → Prop} {E : Prop} (hgd : o.guard = none) (s x : Operand)
    (ho : o.op = .call { callee := .builtin .append, args := #[s, x], argTypes := #[22, 22] }) (lo : Nat) (v : Value) (xs : List Int) (n : Nat) (y : Int) (g0 : Nat)
    (hs : a.eval s = v) (hx : a.eval x = .slice (some ⟨g0, 0, none⟩) 1 1) (hown : Own w lo v xs) (hn : xs.length = n) (hnew : w.cell? ⟨g0, 0, none⟩ = some (.int .i64 y)) (hl : n + 1 ≤ 1048576) (hlo : lo ≤ w.heap.size) (H : Nat) (hH : w.heap.size = H)
    (h : ∀ g cap w', Own w' lo (.slice (some ⟨g, 0, none⟩) (n + 1) cap) (xs ++ [y]) → w.grownBy w' v.ownBlock → (v.ownBlock = some g ∨ g = H) → g < w'.heap.size → K (a.put o.dst (.slice (some ⟨g, 0, none⟩) (n + 1) cap)) w') :
    if Region.wanted o (yielded ops a.tmps) = true then Oper.wp Try.prog o a w K Q else E := by
  subst hn
  obtain ⟨i0, hi, hz0, hz1, hz2⟩ := info_parts Try.infoI
  refine step_append_lies w hgd s x 22 ho lo 3 i0 (.int .i64 0) 1 8 Try.underlying22 hi hz0 hz1 hz2 rfl (by decide) v xs.length _ hs hown ⟨g0, 0, none⟩ 1 1 [.int .i64 y] hx rfl ?_ (by intro u hu; simp at hu; subst hu; rfl) (by decide) (by unfold maxLen; omega) (by omega) hlo H hH ?_
  · intro j u hu
    match j, hu with
    | 0, hu =>
      simp at hu
      subst hu
      rw [Addr.add_lit]
      exact hnew
  · intro g cap w' h1 h2 h3 h4
    refine h g cap w' ?_ h2 h3 h4
    unfold Own
    rw [List.length_append, List.map_append]
    exact h1

end Go.Proofs.Ytmhlpaenfknofaa
