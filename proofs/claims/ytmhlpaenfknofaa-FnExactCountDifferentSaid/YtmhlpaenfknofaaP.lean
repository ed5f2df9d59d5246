/- append on slices of ints of the call's own; the copy of a list. No condition but the sizes. -/
import Derived.Test.YtmhlpaenfknofaaT
import Derived.Laws.AppendOwnNone
namespace Go.Proofs.Ytmhlpaenfknofaa
open Go.RowKit

/-- What is appended: nothing at all, or a row of cells. -/
def Src (w : World) (src : Value) (ys : List Int) : Prop :=
  (src = .slice none 0 0 ∧ ys = []) ∨ ∃ ad cap, src = .slice (some ad) ys.length cap ∧ ∀ j, j < ys.length → w.cell? (ad.add j) = some (.int .i64 (ys.getD j 0))

theorem Own.src {w : World} {lo : Nat} {v : Value} {xs : List Int} (h : Own w lo v xs) : Src w v xs := by
  rcases h.cases with h2 | ⟨g, cap, rfl, h1, h2, h3, h4⟩
  · exact .inl h2
  · refine .inr ⟨_, cap, rfl, fun j hj => ?_⟩
    rw [Addr.add_lit, Nat.zero_add]
    exact h.cell j hj

theorem Src.kept {w w' : World} {v : Value} {ys : List Int} (h : Src w v ys) (hb : Below w.heap.size w w') : Src w' v ys := by
  rcases h with h | ⟨ad, cap, hv, hc⟩
  · exact .inl h
  · refine .inr ⟨ad, cap, hv, fun j hj => ?_⟩
    have := hc j hj
    have hlt := World.block_lt_of_cell? _ _ this
    rw [hb.cell hlt]
    exact this

theorem wp_append {w : World} {ops : Array Oper} {rest : List Oper} {o : Oper} {a : Act} {Q : Exit → Act → World → Prop} (hgd : o.guard = none) (s x : Operand)
    (ho : o.op = .call { callee := .builtin .append, args := #[s, x], argTypes := #[22, 22] }) (lo : Nat) (v : Value) (xs ys : List Int) (src : Value)
    (hs : a.eval s = v) (hx : a.eval x = src) (hown : Own w lo v xs) (hsrc : Src w src ys) (hl : xs.length + ys.length ≤ 1048576) (hlo : lo ≤ w.heap.size)
    (h : ∀ v' w', Own w' lo v' (xs ++ ys) → w.grownBy w' v.ownBlock → wpList Try.prog ops Q rest (a.put o.dst v') w') : wpList Try.prog ops Q (o :: rest) a w := by
  obtain ⟨i0, hi, hz0, hz1, hz2⟩ := info_parts Try.infoI
  rcases hsrc with ⟨rfl, rfl⟩ | ⟨ad, cap, rfl, hc⟩
  · refine wpList_append_own_none hgd s x 22 ho lo 3 i0 1 Try.underlying22 hi v xs.length _ hs hown hx ?_
    exact h v w (by simpa using hown) (World.grownBy.refl _ _)
  · refine wpList_append_own w hgd s x 22 ho lo 3 i0 (.int .i64 0) 1 8 Try.underlying22 hi hz0 hz1 hz2 rfl (by decide) v xs.length _ hs hown ad ys.length cap (ys.map (Value.int .i64)) hx (by simp) ?_ (ints_oneCell _ _) (by unfold maxLen; omega) (by omega) hlo ?_
    · intro j u hu
      obtain ⟨hj, rfl⟩ := List.getElem?_eq_some_iff.1 hu
      simp only [List.length_map] at hj
      rw [hc j hj]
      simp [List.getD, hj]
    · intro v' w' h1 h2 _
      refine h v' w' ?_ h2
      unfold Own
      rw [List.length_append, List.map_append]
      exact h1

/-- A new slice of nothing. -/
theorem own_empty (w : World) : Own (w.alloc (.cells #[] 3)) w.heap.size (.slice (some ⟨w.heap.size, 0, none⟩) 0 0) [] :=
  ⟨by simp, .inr ⟨w.heap.size, 0, #[], rfl, Nat.le_refl _, heap_alloc_new w _, Nat.le_refl _, by unfold maxLen; omega, by simp, by simp⟩⟩

set_option maxHeartbeats 800000 in
theorem l1Own_any (xs : List Int) (w : World) (hx : xs.length ≤ 1048576) (src : Value) (hs : Src w src xs) :
    Calls Try.prog 73 #[src] w fun e w' => ∃ v, e = .returned v ∧ Own w' w.heap.size v xs ∧ Below w.heap.size w w' := by
  have hb := below_new (w := w) (.cells #[] 3)
  have hs1 := hs.kept hb
  have HO := Lib.hid (own_empty w)
  have HS := Lib.hid hs1
  have HB := Lib.hid hb
  clear hs hb hs1
  go_enter Try.func73, Try.ntmps73
  go_wp2_with (at_builtin; refine wp_append rfl _ _ rfl w.heap.size _ [] xs _ rfl rfl HO.out HS.out ?h1 ?h2 ?_)
  case h1 => simp; omega
  case h2 => simp
  intro v w1 hO hg
  have HO1 := Lib.hid hO; clear hO
  have HB1 := Lib.hid (HB.out.grown hg (by simp) (by intro k hk; simp [Value.ownBlock] at hk; omega))
  clear hg
  go_wp2
  go_ret
  exact ⟨_, rfl, by simpa using HO1.out, HB1.out⟩

end Go.Proofs.Ytmhlpaenfknofaa
