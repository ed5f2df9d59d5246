/- The library's sort of a series' numbers; factors and lists of a series. No condition but the sizes. -/
import Derived.Test.YtdimbnkgomfojaaFc
namespace Go.Proofs.Ytdimbnkgomfojaa
open Go.RowKit Go.WideShapes

theorem Chg.set (b j : Nat) (v : Value) (w : World) : Chg (fun k => k = b) w (w.setCell ⟨b, j, none⟩ v) :=
  ⟨rfl, rfl, rfl, by simp [World.setCell], fun k _ hf => Below.heap_setCell w ⟨b, j, none⟩ v k (fun e => hf e)⟩
theorem Chg.drew {foot : Nat → Prop} (w : World) : Chg foot w w.drew := Chg.of_below (Below.refl _ _).drew

theorem Has.drewN {w : World} {b : Nat} {cs : List Value} {t : TypeId} (h : Has w b cs t) (n : Nat) : Has (w.drewN n) b cs t := h.kept (below_drewN (Below.refl w.heap.size w) n) h.lt
theorem Chg.drewN {foot : Nat → Prop} {w w' : World} (h : Chg foot w w') (n : Nat) : Chg foot w (w'.drewN n) := h.trans (Chg.of_below (below_drewN (Below.refl _ _) n))

/-- A series' numbers by a list. -/
abbrev fl (L : List Int) : Nat → Int := fun k => L.getD k 0

/-- In the middle of bringing x in. -/
def cur (p : List Int) (x : Int) (rest : List Int) (j : Nat) : List Int := p.take j ++ x :: (p.drop j ++ rest)
theorem cur_mid (A D : List Int) (u v : Int) : (A ++ u :: v :: D).getD A.length 0 = u ∧ (A ++ u :: v :: D).getD (A.length + 1) 0 = v ∧ ∀ u' v' k, k ≠ A.length → k ≠ A.length + 1 → (A ++ u' :: v' :: D).getD k 0 = (A ++ u :: v :: D).getD k 0 := by
  refine ⟨by simp [List.getD], by simp [List.getD], fun u' v' k h1 h2 => ?_⟩
  by_cases h : k < A.length
  · simp [List.getD, List.getElem?_append_left h]
  · obtain ⟨q, rfl⟩ : ∃ q, k = A.length + (q + 2) := ⟨k - A.length - 2, by omega⟩
    simp only [List.getD, List.getElem?_append_right (Nat.le_add_right _ _), Nat.add_sub_cancel_left]
    rfl
theorem cur_facts (p : List Int) (x : Int) (rest : List Int) (j : Nat) (hj : j + 1 ≤ p.length) :
    (cur p x rest (j + 1)).getD (j + 1) 0 = x ∧ (cur p x rest (j + 1)).getD j 0 = p.getD j 0 ∧ (cur p x rest j).getD j 0 = x ∧ (cur p x rest j).getD (j + 1) 0 = p.getD j 0 ∧ ∀ k, k ≠ j → k ≠ j + 1 → (cur p x rest j).getD k 0 = (cur p x rest (j + 1)).getD k 0 := by
  have l : (p.take j).length = j := by simp; omega
  have e1 : cur p x rest (j + 1) = p.take j ++ p.getD j 0 :: x :: (p.drop (j + 1) ++ rest) := by
    unfold cur
    rw [List.take_succ_eq_append_getElem (by omega : j < p.length), List.append_assoc]
    simp [List.getD, show j < p.length by omega]
  have e2 : cur p x rest j = p.take j ++ x :: p.getD j 0 :: (p.drop (j + 1) ++ rest) := by
    unfold cur
    have e : p.drop j = p.getD j 0 :: p.drop (j + 1) := by
      rw [List.drop_eq_getElem_cons (by omega : j < p.length)]
      simp [List.getD, show j < p.length by omega]
    rw [e]
    rfl
  obtain ⟨a1, a2, a3⟩ := cur_mid (p.take j) (p.drop (j + 1) ++ rest) (p.getD j 0) x
  obtain ⟨b1, b2, _⟩ := cur_mid (p.take j) (p.drop (j + 1) ++ rest) x (p.getD j 0)
  rw [l] at a1 a2 a3 b1 b2
  rw [e1, e2]
  exact ⟨a2, a1, b1, b2, fun k h1 h2 => a3 _ _ k h1 h2⟩
theorem cur_start (xs : List Int) (i : Nat) (hi : i < xs.length) : sortL (xs.take i) ++ xs.drop i = cur (sortL (xs.take i)) (xs.getD i 0) (xs.drop (i + 1)) i := by
  have l : (sortL (xs.take i)).length = i := by rw [sortL_len, List.length_take]; omega
  unfold cur
  have e1 : (sortL (xs.take i)).take i = sortL (xs.take i) := List.take_of_length_le (by omega)
  have e2 : (sortL (xs.take i)).drop i = [] := List.drop_eq_nil_of_le (by omega)
  have e3 : xs.drop i = xs.getD i 0 :: xs.drop (i + 1) := by
    rw [List.drop_eq_getElem_cons hi]
    simp [List.getD, hi]
  rw [e1, e2, e3, List.nil_append]
theorem cur_done (xs : List Int) (i j : Nat) (hi : i < xs.length) (hj : j ≤ i) (h1 : ∀ q, j ≤ q → q < i → xs.getD i 0 < (sortL (xs.take i)).getD q 0) (h2 : 0 < j → (sortL (xs.take i)).getD (j - 1) 0 ≤ xs.getD i 0) :
    cur (sortL (xs.take i)) (xs.getD i 0) (xs.drop (i + 1)) j = sortL (xs.take (i + 1)) ++ xs.drop (i + 1) := by
  have l : (sortL (xs.take i)).length = i := by rw [sortL_len, List.length_take]; omega
  rw [sortL_succ xs i hi, insL_at _ _ j (by omega)]
  · simp [cur]
  · intro q hq
    have := h2 (by omega)
    by_cases e : q = j - 1
    · subst e; exact this
    · have := sortL_get (xs.take i) q (j - 1) (by omega) (by rw [List.length_take]; omega)
      omega
  · intro hq
    exact h1 j (Nat.le_refl _) (by omega)

end Go.Proofs.Ytdimbnkgomfojaa
