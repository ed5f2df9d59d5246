/- The visitor that counts up to one placement. No condition. -/
import Derived.Test.YtcacechmgdfckaaWg
import Derived.ChangeKeysEq
namespace Go.Proofs.Ytcacechmgdfckaa
open Go.RowKit Go.WideShapes

/-- The same six numbers. -/
def eq6 (F G : Nat → Int) : Bool := (List.range 6).all fun i => F i == G i
/-- Of the first j things so many are not it. -/
def visN (p : List Int → Bool) (L : List (List Int)) (j : Nat) : Nat := ((L.take j).filter (fun P => !p P)).length
theorem visN_succ (p : List Int → Bool) (L : List (List Int)) (j : Nat) (P : List Int) (h : L[j]? = some P) : visN p L (j + 1) = visN p L j + if p P then 0 else 1 := by
  obtain ⟨hl, he⟩ := List.getElem?_eq_some_iff.1 h
  unfold visN
  rw [List.take_succ_eq_append_getElem hl, List.filter_append, List.length_append, he, List.filter_cons]
  cases p P <;> rfl
theorem visN_le (p : List Int → Bool) (L : List (List Int)) (j : Nat) : visN p L j ≤ j := by
  unfold visN
  refine Nat.le_trans (List.length_filter_le _ _) ?_
  simp
  omega
/-- A walk that stops at it has counted what is before it. -/
theorem visN_stop (p : List Int → Bool) (cont : Nat → Bool) (L : List (List Int)) : ∀ j, (∀ i P, L[i]? = some P → cont (j + i) = !p P) → visN p L (runV cont j L.length).1 = L.findIdx p := by
  induction L with
  | nil => intro j _; simp [visN]
  | cons P L ih =>
    intro j h
    have h0 := h 0 P rfl
    rw [Nat.add_zero] at h0
    rw [List.length_cons, runV, h0]
    cases hp : p P
    · rw [if_pos (by rfl)]
      have := ih (j + 1) (fun i Q hi => by rw [show j + 1 + i = j + (i + 1) by omega]; exact h (i + 1) Q (by simpa using hi))
      show visN p (P :: L) ((runV cont (j + 1) L.length).1 + 1) = _
      unfold visN at this ⊢
      rw [List.take_succ_cons, List.filter_cons, hp, List.findIdx_cons, hp]
      simp only [Bool.not_false, if_true, List.length_cons, this, cond_false]
    · rw [if_neg (by simp)]
      unfold visN
      rw [List.findIdx_cons, hp]
      simp [hp]
theorem eqItems_ints (P : Program) (d : Nat) (e : TypeId) (he : P.plainKey e = true) (hu : P.underlying e = some (.int .i64)) (xs ys : Array Value) (F G : Nat → Int) (W : World) : ∀ is : List Nat, (∀ i ∈ is, xs[i]? = some (.int .i64 (F i)) ∧ ys[i]? = some (.int .i64 (G i))) →
    (Op.eqItems (d + 1) e 1 xs ys is).run P W = .ok (is.all fun i => F i == G i) W := by
  intro is
  induction is with
  | nil => intro _; simp [Op.eqItems]
  | cons i is ih =>
    intro h
    obtain ⟨h1, h2⟩ := h i (by simp)
    have ih := ih (fun k hk => h k (by simp [hk]))
    simp only [Op.eqItems, Sem.run_bind, Nat.mul_one, run_part_plain W he h1, run_part_plain W he h2, Result.andThen_ok, run_equalIn_int W d e .i64 .i64 (F i) (G i) hu, List.all_cons]
    cases hh : F i == G i
    · simp
    · simp only [Bool.not_true, Bool.false_eq_true, if_false, ih, Bool.true_and]

end Go.Proofs.Ytcacechmgdfckaa
