/- Boards turned, in both texts. No condition but the sizes. -/
import Derived.Test.YtakdiiccdkjjcacJ
import Derived.Test.YtakdiiccdkjjcacMf
import Derived.IntWalk
namespace Go.Proofs.Ytakdiiccdkjjcac
open Go.RowKit Go.WideShapes

/-- A row of two numbers, as a walk meets it. -/
theorem OwnM.pair {w : World} {lo : Nat} {v : Value} {vs : List Value} {rss : List (List Int)} (h : OwnM w lo v vs rss) (k : Nat) (hk : k < vs.length) (x y : Int) (he : rss[k]? = some [x, y]) :
    ∃ g cp, vs[k] = .slice (some ⟨g, 0, none⟩) 2 cp ∧ w.cell? ⟨g, 0, none⟩ = some (.int .i64 x) ∧ w.cell? ⟨g, 1, none⟩ = some (.int .i64 y) := by
  have hr := h.row k hk
  have hk2 : k < rss.length := by rw [h.len]; exact hk
  have e : rss[k] = [x, y] := by rw [List.getElem?_eq_getElem hk2] at he; injection he
  rw [e] at hr
  rcases hr.cases with ⟨_, h2⟩ | ⟨g, cp, hv, _⟩
  · cases h2
  · rw [hv] at hr
    exact ⟨g, cp, hv, hr.cell 0 (by simp), hr.cell 1 (by simp)⟩
theorem pow_facts (a : Nat) (ha : a < 6) : ∃ P : Int, P = 2 ^ a ∧ IntKind.i64.wrap (2 ^ a) = P ∧ wrap64 (2 ^ a) = P ∧ 0 ≤ P ∧ P ≤ 32 := by
  have key : ∀ a : Fin 6, IntKind.i64.wrap (2 ^ (a : Nat)) = 2 ^ (a : Nat) ∧ wrap64 (2 ^ (a : Nat)) = 2 ^ (a : Nat) ∧ (0 : Int) ≤ 2 ^ (a : Nat) ∧ (2 : Int) ^ (a : Nat) ≤ 32 := by decide +kernel
  obtain ⟨h1, h2, h3, h4⟩ := key ⟨a, ha⟩
  exact ⟨_, rfl, h1, h2, h3, h4⟩

theorem sum_in (x P : Int) (h : 0 ≤ x ∧ x ≤ 2000) (h3 : 0 ≤ P) (h4 : P ≤ 32) : IntKind.i64.wrap (x + P) = x + P := IntWalk.i64_in _ (by omega)


end Go.Proofs.Ytakdiiccdkjjcac
