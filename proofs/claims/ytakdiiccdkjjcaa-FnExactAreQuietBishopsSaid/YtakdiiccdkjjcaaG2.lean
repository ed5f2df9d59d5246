/- A grid becomes a board again. No condition but the size. -/
import Derived.Test.YtakdiiccdkjjcaaG
namespace Go.Proofs.Ytakdiiccdkjjcaa
open Go.RowKit Go.WideShapes

theorem own_of_has {w : World} {lo g n : Nat} {xs : List Int} (h : Has w g (xs.map (Value.int .i64)) 3) (hl : lo ≤ g) (hn : xs.length = n) (hm : n ≤ maxLen) : Own w lo (.slice (some ⟨g, 0, none⟩) n n) xs := by
  subst hn
  refine ⟨by simp, .inr ⟨g, xs.length, _, rfl, hl, h, Nat.le_refl _, hm, by simp, by simp [List.take_of_length_le]⟩⟩

theorem splice_all (n : Nat) (cs : List Value) (h : cs.length = n) (z : Value) : splice (List.replicate n z) 0 cs = cs := by
  simp [splice, h]

theorem made_eq (n : Nat) (z : Value) : madeCells #[z] n = (List.replicate n z).toArray := by
  rw [← toList_madeCells_one]

theorem own_made (W : World) (n g lo : Nat) (hg : g = W.heap.size) (hl : lo ≤ g) (hn : n ≤ 1048576) : Own (W.alloc (.cells (madeCells #[.int .i64 0] n) 3)) lo (.slice (some ⟨g, 0, none⟩) n n) (List.replicate n 0) := by
  subst hg
  refine own_of_has ?_ hl (by simp) (by unfold maxLen; omega)
  rw [made_eq, List.map_replicate]
  exact Has.new W _ _

theorem board_facts (n : Nat) (c m0 m1 m2 m3 m4 m5 : Int) (w w3 : World) (hw : w3 = (((w.alloc (.cells #[.int .i64 n, .int .i64 c, .int .i64 m0, .int .i64 m1, .int .i64 m2, .int .i64 m3, .int .i64 m4, .int .i64 m5] 66)).alloc (.cells #[.int .i64 0, .int .i64 0, .slice none 0 0] 28)).alloc (.cells (madeCells #[.int .i64 0] n) 3))) :
    Has w3 (w.heap.size + 1 + 1) (List.replicate n (.int .i64 0)) 3 ∧ Has w3 w.heap.size [.int .i64 n, .int .i64 c, .int .i64 m0, .int .i64 m1, .int .i64 m2, .int .i64 m3, .int .i64 m4, .int .i64 m5] 66 ∧ Has w3 (w.heap.size + 1) [.int .i64 0, .int .i64 0, .slice none 0 0] 28 ∧ Below w.heap.size w w3 ∧
    (∀ j v, (([m0, m1, m2, m3, m4, m5].take n).map (Value.int .i64))[j]? = some v → w3.cell? ((⟨w.heap.size, 2, none⟩ : Addr).add j) = some v) := by
  have H1 := Has.new w [.int .i64 n, .int .i64 c, .int .i64 m0, .int .i64 m1, .int .i64 m2, .int .i64 m3, .int .i64 m4, .int .i64 m5] 66
  have b1 := below_new (w := w) (.cells #[.int .i64 n, .int .i64 c, .int .i64 m0, .int .i64 m1, .int .i64 m2, .int .i64 m3, .int .i64 m4, .int .i64 m5] 66)
  generalize hw1 : w.alloc (.cells #[.int .i64 n, .int .i64 c, .int .i64 m0, .int .i64 m1, .int .i64 m2, .int .i64 m3, .int .i64 m4, .int .i64 m5] 66) = w1 at *
  have H2 := Has.new w1 [.int .i64 0, .int .i64 0, .slice none 0 0] 28
  have b2 := below_new (w := w1) (.cells #[.int .i64 0, .int .i64 0, .slice none 0 0] 28)
  have H12 := H1.kept b2 H1.lt
  generalize hw2 : w1.alloc (.cells #[.int .i64 0, .int .i64 0, .slice none 0 0] 28) = w2 at *
  have H3 : Has (w2.alloc (.cells (madeCells #[.int .i64 0] n) 3)) w2.heap.size (List.replicate n (.int .i64 0)) 3 := by rw [made_eq]; exact Has.new w2 _ _
  have b3 := below_new (w := w2) (.cells (madeCells #[.int .i64 0] n) 3)
  have H13 := H12.kept b3 H12.lt
  have H23 := H2.kept b3 H2.lt
  have hz1 : w1.heap.size = w.heap.size + 1 := by rw [← hw1]; simp
  have hz2 : w2.heap.size = w.heap.size + 1 + 1 := by rw [← hw2, World.size_alloc, hz1]
  rw [← hw] at H3 H13 H23 b3
  rw [hz2] at H3
  rw [hz1] at H23
  refine ⟨H3, H13, H23, below_on (below_on b1 b2) b3, fun j v hj => ?_⟩
  rw [add_plain, H13.cell]
  rw [List.map_take, List.getElem?_take] at hj
  split at hj
  · rw [show 2 + j = j + 2 by omega]; exact hj
  · cases hj

set_option maxHeartbeats 800000 in
theorem board_any (n : Nat) (c m0 m1 m2 m3 m4 m5 : Int) (w : World) (hn : n ≤ 6) :
    Calls Try.prog 63 #[.agg #[.int .i64 n, .int .i64 c, .int .i64 m0, .int .i64 m1, .int .i64 m2, .int .i64 m3, .int .i64 m4, .int .i64 m5]] w
      fun e w' => ∃ s, e = .returned (.agg #[.int .i64 n, .int .i64 c, s]) ∧ Own w' w.heap.size s ([m0, m1, m2, m3, m4, m5].take n) ∧ Below w.heap.size w w' := by
  have hmk := run_make_row' (P := Try.prog) 22 3 (.int .i64 0) 8 Try.underlying22 Try.infoI rfl .i64 .i64 n (by omega) (by omega)
  obtain ⟨F1, F2, F3, F4, F5⟩ := board_facts n c m0 m1 m2 m3 m4 m5 w _ rfl
  have hlen : (([m0, m1, m2, m3, m4, m5].take n).map (Value.int .i64)).length = n := by simp; omega
  have HM := Lib.hid (show (([m0, m1, m2, m3, m4, m5].take n).map (Value.int .i64)).length = Nat.min 6 n by rw [hlen]; exact (Nat.min_eq_right hn).symm)
  have HF := Lib.hid (show 0 + (([m0, m1, m2, m3, m4, m5].take n).map (Value.int .i64)).length ≤ (List.replicate n (Value.int .i64 0)).length by rw [hlen, List.length_replicate]; omega)
  have G1 := Lib.hid F1.row; have G2 := Lib.hid F2; have G3 := Lib.hid F3; have G4 := Lib.hid F4; have G5 := Lib.hid F5; have HL := Lib.hid hlen
  clear F1 F2 F3 F4 F5 hlen
  go_enter Try.func63, Try.ntmps63
  go_wp2_with (with_reducible refine wpList_copy_splice rfl (.tmp 7) (.tmp 9) 22 22 rfl 3 Try.underlying22 (by kernel_rfl) _ _ n n 6 6 rfl rfl (w.heap.size + 1 + 1) 0 _ 3 G1.out _ HM.out (fun _ => ⟨rfl, _, rfl, G5.out⟩) HF.out (ints_oneCell _ _) (w.heap.size + 1 + 1) _ (Below.refl _ _) (Nat.le_refl _) ?_)
  intro w4 hg4 hb4
  have H4 : Has w4 (w.heap.size + 1 + 1) (([m0, m1, m2, m3, m4, m5].take n).map (Value.int .i64)) 3 := by
    have h : Has w4 (w.heap.size + 1 + 1) _ 3 := hg4.out
    rw [splice_all n _ (by simp <;> omega)] at h
    simpa using h
  have E := G3.out.kept hb4 (by omega)
  have E2 := G2.out.kept hb4 (by omega)
  obtain ⟨e0, e1, e2, ef⟩ := E.three
  obtain ⟨f0, f1, f2, f3, f4, f5, f6, f7, ff⟩ := E2.eight
  have HB4 := Lib.hid hb4; clear hb4 hg4 E E2
  have hsz := G4.out.size
  have HH := Lib.hid H4; clear H4 hmk
  go_wp2
  have hlt : w.heap.size + 1 + 1 < w4.heap.size := HH.out.lt
  refine bodyPost_ret (v := .agg #[.int .i64 n, .int .i64 c, .slice (some ⟨w.heap.size + 1 + 1, 0, none⟩) n n]) (by simp [results, Try.results63, go_sem, e0, e1, e2]) rfl ⟨_, rfl, ?_, ?_⟩
  · have hO := own_of_has (lo := w.heap.size + 1 + 1) HH.out (Nat.le_refl _) (by have := HL.out; simpa using this) (by unfold maxLen; omega)
    exact (((hO.set (by simp <;> omega) _).set (by simp <;> omega) _).set (by simp <;> omega) _).lower (by omega)
  · have h2 := G4.out.trans (HB4.out.mono (by omega))
    repeat (refine Below.setCell ?_ (by simp <;> omega) _)
    exact h2

end Go.Proofs.Ytakdiiccdkjjcaa
