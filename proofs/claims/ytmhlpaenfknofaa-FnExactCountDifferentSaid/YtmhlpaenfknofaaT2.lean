/- More words for the law's state. No condition. -/
import Derived.Test.YtmhlpaenfknofaaT
namespace Go.Proofs.Ytmhlpaenfknofaa
open Go.RowKit

theorem Law.sub {w0 w : World} {ts ts' : List Thing} (h : Law w0 ts w) (hs : ts'.Sublist ts) : Law w0 ts' w :=
  ⟨h.below, fun t ht => h.holds t (hs.subset ht), fun t ht => h.range t (hs.subset ht), h.dis.sublist hs⟩
theorem Law.swap {w0 w : World} {a b : Thing} {ts : List Thing} (h : Law w0 (a :: b :: ts) w) : Law w0 (b :: a :: ts) w := by
  have hm : ∀ t, t ∈ b :: a :: ts → t ∈ a :: b :: ts := fun t ht => by
    rcases List.mem_cons.1 ht with rfl | ht
    · simp
    · rcases List.mem_cons.1 ht with rfl | ht
      · simp
      · simp [ht]
  refine ⟨h.below, fun t ht => h.holds t (hm t ht), fun t ht => h.range t (hm t ht), ?_⟩
  have := h.dis
  simp only [List.pairwise_cons] at this ⊢
  obtain ⟨h1, h2, h3⟩ := this
  refine ⟨fun c hc k e => ?_, fun c hc => h1 c (by simp [hc]), h3⟩
  rcases List.mem_cons.1 hc with rfl | hc
  · exact fun e2 => h1 b (by simp) k e2 e
  · exact h2 c hc k e
theorem Law.boxOf {w0 w : World} {n : Nat} {x y z : Value} {ts : List Thing} (h : Law w0 ts w) (hm : tBox n x y z ∈ ts) : Box w n x y z := h.holds _ hm
theorem Law.ownOf {w0 w : World} {s : Value} {xs : List Int} {ts : List Thing} (h : Law w0 ts w) (hm : tOwn s xs ∈ ts) : Own w 0 s xs := h.holds _ hm
theorem Law.setBox {w0 w : World} {ts ts' : List Thing} {n : Nat} {x y z : Value} (h : Law w0 (ts ++ tBox n x y z :: ts') w) (x' y' z' : Value) :
    Law w0 (ts ++ tBox n x' y' z' :: ts') (((w.setCell ⟨n, 0, none⟩ x').setCell ⟨n, 1, none⟩ y').setCell ⟨n, 2, none⟩ z') := by
  have hb : Box w n x y z := h.holds (tBox n x y z) (by simp)
  have hs : ∀ (w : World) (j : Nat) (v : Value) (k : Nat), k ≠ n → (w.setCell ⟨n, j, none⟩ v).heap[k]? = w.heap[k]? := fun w j v k hk => Below.heap_setCell w ⟨n, j, none⟩ v k (fun e => hk e)
  refine h.write (t := tBox n x y z) (show Chg (tBox n x y z).foot w (((w.setCell ⟨n, 0, none⟩ x').setCell ⟨n, 1, none⟩ y').setCell ⟨n, 2, none⟩ z') from ⟨rfl, rfl, rfl, by simp [World.setCell], fun k _ hf => ?_⟩) (tBox n x' y' z') rfl ?_
  · have hk : k ≠ n := fun e => hf e
    rw [hs _ _ _ k hk, hs _ _ _ k hk, hs _ _ _ k hk]
  · refine ⟨by have := hb.lt; simp [World.setCell]; omega, ?_, ?_, ?_, fun o => by rw [World.frozen?_setCell, World.frozen?_setCell, World.frozen?_setCell]; exact hb.fr o⟩
    · rw [World.cell?_setCell_other _ _ _ _ (by simp), World.cell?_setCell_other _ _ _ _ (by simp)]
      exact World.cell?_setCell_same _ _ _ hb.c0
    · rw [World.cell?_setCell_other _ _ _ _ (by simp)]
      refine World.cell?_setCell_same _ _ _ (u := y) ?_
      rw [World.cell?_setCell_other _ _ _ _ (by simp)]
      exact hb.c1
    · refine World.cell?_setCell_same _ _ _ (u := z) ?_
      rw [World.cell?_setCell_other _ _ _ _ (by simp), World.cell?_setCell_other _ _ _ _ (by simp)]
      exact hb.c2
/-- What is made behind a law's state comes on top of it. -/
theorem Law.join {w0 w w' : World} {ts ts' : List Thing} (h : Law w0 ts w) (k : Law w ts' w') : Law w0 (ts' ++ ts) w' := by
  have hk := h.kept k.below
  refine ⟨hk.below, fun t ht => ?_, fun t ht i hi => ?_, ?_⟩
  · rcases List.mem_append.1 ht with ht | ht
    · exact k.holds t ht
    · exact hk.holds t ht
  · rcases List.mem_append.1 ht with ht | ht
    · have := k.range t ht i hi
      have := h.below.size
      omega
    · exact hk.range t ht i hi
  · rw [List.pairwise_append]
    refine ⟨k.dis, h.dis, fun a ha b hb i e1 e2 => ?_⟩
    have := (k.range a ha i e1).1
    have := (h.range b hb i e2).2
    omega

end Go.Proofs.Ytmhlpaenfknofaa
