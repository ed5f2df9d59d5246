/- A slice of slices taken apart. No condition. -/
import Derived.Test.YtmhlpaenfknofaaM
import Derived.Test.YtmhlpaenfknofaaT2
namespace Go.Proofs.Ytmhlpaenfknofaa
open Go.RowKit Go.WideShapes

theorem Law.perm {w0 w : World} {ts ts' : List Thing} (h : Law w0 ts w) (hp : ts.Perm ts') : Law w0 ts' w :=
  ⟨h.below, fun t ht => h.holds t (hp.mem_iff.2 ht), fun t ht => h.range t (hp.mem_iff.2 ht), h.dis.perm hp (fun h k e1 e2 => h k e2 e1)⟩
/-- The outer row alone. -/
def tRowO (v : Value) (vs : List Value) : Thing :=
  ⟨fun k => v.ownBlock = some k, fun w => w.ownsRow 0 22 1 v vs.length vs, fun _ _ _ hk h => by
    refine ⟨h.1, ?_⟩
    rcases h.2 with h2 | ⟨g, cap, cur, hv, hg, hh, r⟩
    · exact .inl h2
    · exact .inr ⟨g, cap, cur, hv, hg, by rw [hk g (by rw [hv]; rfl)]; exact hh, r⟩⟩
/-- The rows, each a thing. -/
def tRows (vs : List Value) (rss : List (List Int)) : List Thing := (vs.zip rss).map fun p => tOwn p.1 p.2
theorem tRows_foot {vs : List Value} {rss : List (List Int)} {t : Thing} (h : t ∈ tRows vs rss) : ∃ u r, (u, r) ∈ vs.zip rss ∧ t = tOwn u r := by
  unfold tRows at h
  obtain ⟨p, hp, rfl⟩ := List.mem_map.1 h
  exact ⟨p.1, p.2, hp, rfl⟩
theorem Law.apartM {w0 w : World} {ts : List Thing} {v : Value} {vs : List Value} {rss : List (List Int)} (h : Law w0 (tM v vs rss :: ts) w) : Law w0 (tRowO v vs :: (tRows vs rss ++ ts)) w := by
  have hM := h.ownM
  have hr := h.range (tM v vs rss) (by simp)
  have hd := List.pairwise_cons.1 h.dis
  have hfo : ∀ t ∈ tRows vs rss, ∀ k, t.foot k → (tM v vs rss).foot k := fun t ht k hk => by
    obtain ⟨u, r, hm, rfl⟩ := tRows_foot ht
    exact .inr ⟨u, (List.of_mem_zip hm).1, hk⟩
  refine ⟨h.below, ?_, ?_, ?_⟩
  · intro t ht
    rcases List.mem_cons.1 ht with rfl | ht
    · exact hM.outer
    · rcases List.mem_append.1 ht with ht | ht
      · obtain ⟨u, r, hm, rfl⟩ := tRows_foot ht
        exact hM.rows _ hm
      · exact h.holds t (by simp [ht])
  · intro t ht k hk
    rcases List.mem_cons.1 ht with rfl | ht
    · exact hr k (.inl hk)
    · rcases List.mem_append.1 ht with ht | ht
      · exact hr k (hfo t ht k hk)
      · exact h.range t (by simp [ht]) k hk
  · refine List.pairwise_cons.2 ⟨fun t ht k e1 e2 => ?_, ?_⟩
    · rcases List.mem_append.1 ht with ht | ht
      · obtain ⟨u, r, hm, rfl⟩ := tRows_foot ht
        exact hM.apart u (List.of_mem_zip hm).1 k e2 e1
      · exact hd.1 t ht k (.inl e1) e2
    · rw [List.pairwise_append]
      refine ⟨?_, hd.2, fun a ha b hb k e1 e2 => hd.1 b hb k (hfo a ha k e1) e2⟩
      unfold tRows
      rw [List.pairwise_map]
      have hp := hM.dis
      have : (vs.zip rss).Pairwise (fun p q => ∀ k, p.1.ownBlock = some k → q.1.ownBlock ≠ some k) := by
        have h2 : ((vs.zip rss).map Prod.fst).Pairwise (fun a b => ∀ k, a.ownBlock = some k → b.ownBlock ≠ some k) := by
          rw [List.map_fst_zip (by rw [hM.len]; exact Nat.le_refl _)]
          exact hp
        rwa [List.pairwise_map] at h2
      exact this
theorem tRows_cons (vs : List Value) (rss : List (List Int)) (k : Nat) (h1 : k < vs.length) (h2 : k < rss.length) : tRows (vs.drop k) (rss.drop k) = tOwn vs[k] rss[k] :: tRows (vs.drop (k + 1)) (rss.drop (k + 1)) := by
  unfold tRows
  rw [List.drop_eq_getElem_cons h1, List.drop_eq_getElem_cons h2]
  rfl
theorem filt_yes (L : List (List Int)) (p : List Int → Bool) (k : Nat) (hk : k < L.length) (h : p L[k] = true) : (L.take k).filter p ++ [L[k]] = (L.take (k + 1)).filter p := by
  rw [List.take_succ_eq_append_getElem hk, List.filter_append]
  simp [h]
theorem filt_no (L : List (List Int)) (p : List Int → Bool) (k : Nat) (hk : k < L.length) (h : p L[k] = false) : (L.take k).filter p = (L.take (k + 1)).filter p := by
  rw [List.take_succ_eq_append_getElem hk, List.filter_append]
  simp [h]

end Go.Proofs.Ytmhlpaenfknofaa
