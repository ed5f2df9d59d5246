import Derived.Test.YtakdiiccdkjjcacFold4
import Derived.Deep.RegionLaw
import Derived.Laws.CopyOwn
import Derived.WideShapes

section
namespace Go.Proofs.Ytakdiiccdkjjcac
open Go.RowKit Go.WideShapes

theorem bit_at (x : Int) (j : Nat) (h : 0 ≤ x ∧ x < 64) (hj : j < 6) : (bits .and .i64 (x / 2 ^ j) 1 == 1) = x.toNat.testBit j := by
  obtain ⟨n, rfl⟩ := Int.eq_ofNat_of_zero_le h.1
  have hn : n < 64 := by omega
  have key : ∀ n : Fin 64, ∀ j : Fin 6, (bits .and .i64 (((n : Nat) : Int) / 2 ^ (j : Nat)) 1 == 1) = (n : Nat).testBit j := by decide +kernel
  exact key ⟨n, hn⟩ ⟨j, hj⟩

theorem grid_cells (r c : Int) (xs : List Int) (h : xs.length ≤ 6) :
    splice [.int .i64 r, .int .i64 c, .int .i64 0, .int .i64 0, .int .i64 0, .int .i64 0, .int .i64 0, .int .i64 0] 2 (xs.map (Value.int .i64)) =
      [.int .i64 r, .int .i64 c, .int .i64 (xs.getD 0 0), .int .i64 (xs.getD 1 0), .int .i64 (xs.getD 2 0), .int .i64 (xs.getD 3 0), .int .i64 (xs.getD 4 0), .int .i64 (xs.getD 5 0)] := by
  match xs, h with
  | [], _ => rfl
  | [_], _ => rfl
  | [_, _], _ => rfl
  | [_, _, _], _ => rfl
  | [_, _, _, _], _ => rfl
  | [_, _, _, _, _], _ => rfl
  | [_, _, _, _, _, _], _ => rfl
  | _ :: _ :: _ :: _ :: _ :: _ :: _ :: _, h => simp at h

theorem bcell' {B : Nat} {W w1 : World} (hb : Below B W w1) : (∀ b o, b < B → w1.cell? ⟨b, o, none⟩ = W.cell? ⟨b, o, none⟩) ∧ (∀ b o, b < B → w1.frozen? ⟨b, o, none⟩ = W.frozen? ⟨b, o, none⟩) :=
  ⟨fun b o h => hb.cell (p := ⟨b, o, none⟩) h, fun b o h => hb.frozen (p := ⟨b, o, none⟩) h⟩

/-- A grid's block. -/
def gl (n m : Int) (f : Nat → Int) : List Value := [.int .i64 n, .int .i64 m, .int .i64 (f 0), .int .i64 (f 1), .int .i64 (f 2), .int .i64 (f 3), .int .i64 (f 4), .int .i64 (f 5)]
theorem gl_get (n m : Int) (f : Nat → Int) (i : Nat) (h : i < 6) : (gl n m f)[2 + i]? = some (.int .i64 (f i)) := by
  have : i = 0 ∨ i = 1 ∨ i = 2 ∨ i = 3 ∨ i = 4 ∨ i = 5 := by omega
  rcases this with rfl | rfl | rfl | rfl | rfl | rfl <;> rfl
theorem gl_set (n m : Int) (f g : Nat → Int) (i : Nat) (h : i < 6) (x : Int) (hx : g i = x) (hg : ∀ k, k ≠ i → g k = f k) : (gl n m f).set (2 + i) (.int .i64 x) = gl n m g := by
  have : i = 0 ∨ i = 1 ∨ i = 2 ∨ i = 3 ∨ i = 4 ∨ i = 5 := by omega
  subst hx
  rcases this with rfl | rfl | rfl | rfl | rfl | rfl <;> simp [gl, hg]

set_option maxHeartbeats 400000 in
theorem at_any (r c : Int) (m : Nat → Int) (k j : Nat) (w : World) (hk : k < 6) (hj : j < 6) (hm : 0 ≤ m k ∧ m k < 64) :
    Calls Try.prog 140 #[.agg #[.int .i64 r, .int .i64 c, .int .i64 (m 0), .int .i64 (m 1), .int .i64 (m 2), .int .i64 (m 3), .int .i64 (m 4), .int .i64 (m 5)], .int .i64 k, .int .i64 j] w
      fun e w' => e = .returned (.bool ((m k).toNat.testBit j)) ∧ Below w.heap.size w w' := by
  have hcell : (w.alloc (.cells #[.int .i64 r, .int .i64 c, .int .i64 (m 0), .int .i64 (m 1), .int .i64 (m 2), .int .i64 (m 3), .int .i64 (m 4), .int .i64 (m 5)] 83)).cell? ⟨w.heap.size, 2 + k, none⟩ = some (.int .i64 (m k)) := by
    rw [World.cell?_alloc_at _ _ _ _ rfl]
    have : k = 0 ∨ k = 1 ∨ k = 2 ∨ k = 3 ∨ k = 4 ∨ k = 5 := by omega
    rcases this with rfl | rfl | rfl | rfl | rfl | rfl <;> rfl
  generalize hx : m k = x at *
  clear hx
  go_enter Try.func140, Try.ntmps140
  go_wp2
  go_ret
  exact ⟨ret_bool (bit_at x j hm hj), below_new _⟩

set_option maxHeartbeats 800000 in
theorem gridOf_no (r c : Int) (a : Option Addr) (cap : Nat) (xs : List Int) (w : World) (hx : xs.length ≤ 1048576) (hr : Reads w a xs.length xs) (hg : goodB r c xs = false) :
    Calls Try.prog 78 #[.agg #[.int .i64 r, .int .i64 c, .slice a xs.length cap]] w
      fun e w' => e = .returned (.tuple #[.agg #[.int .i64 0, .int .i64 0, .int .i64 0, .int .i64 0, .int .i64 0, .int .i64 0, .int .i64 0, .int .i64 0], .bool false]) ∧ Below w.heap.size w w' := by
  have HG := Lib.hid hg; clear hg
  go_enter Try.func78, Try.ntmps78
  go_wp2_with fail
  refine (implIsBoard_any r c a cap xs _ hx (hr.kept (below_on (below_new _) (below_new _)))).mono ?_
  rintro e w1 ⟨rfl, hb⟩
  rw [HG.out]
  obtain ⟨hc, hf⟩ := bcell hb
  have hz := hb.size
  simp only [World.size_alloc] at hz
  go_wp2
  refine bodyPost_ret (v := .tuple #[.agg #[.int .i64 0, .int .i64 0, .int .i64 0, .int .i64 0, .int .i64 0, .int .i64 0, .int .i64 0, .int .i64 0], .bool false]) (by simp [results, Try.results78, go_sem, hc]) rfl ⟨rfl, ?_⟩
  have h2 := below_on (below_on (below_new _) (below_new _)) hb
  repeat (refine Below.setCell ?_ (by simp <;> omega) _)
  exact h2

set_option maxHeartbeats 800000 in
theorem gridOf_yes (r c : Int) (a : Option Addr) (cap : Nat) (xs : List Int) (w : World) (hx : xs.length ≤ 1048576) (hr : Reads w a xs.length xs) (hg : goodB r c xs = true) :
    Calls Try.prog 78 #[.agg #[.int .i64 r, .int .i64 c, .slice a xs.length cap]] w
      fun e w' => e = .returned (.tuple #[.agg #[.int .i64 r, .int .i64 c, .int .i64 (xs.getD 0 0), .int .i64 (xs.getD 1 0), .int .i64 (xs.getD 2 0), .int .i64 (xs.getD 3 0), .int .i64 (xs.getD 4 0), .int .i64 (xs.getD 5 0)], .bool true]) ∧ Below w.heap.size w w' := by
  have HG := Lib.hid hg; clear hg
  go_enter Try.func78, Try.ntmps78
  go_wp2_with fail
  refine (implIsBoard_any r c a cap xs _ hx (hr.kept (below_on (below_new _) (below_new _)))).mono ?_
  rintro e w1 ⟨rfl, hb⟩
  rw [HG.out]
  obtain ⟨hc, hf⟩ := bcell hb
  have hz := hb.size
  simp only [World.size_alloc] at hz
  go_wp2
  have hlen : xs.length ≤ 6 := by
    have := HG.out
    simp only [goodB, Bool.and_eq_true, inB_iff, decide_eq_true_eq] at this
    omega
  have hr1 := (hr.kept (below_on (below_on (below_new _) (below_new _)) hb)).kept (below_new (.cells #[.int .i64 r, .int .i64 c, .int .i64 0, .int .i64 0, .int .i64 0, .int .i64 0, .int .i64 0, .int .i64 0] 83))
  have hcp : 0 < (xs.map (Value.int .i64)).length → (some (⟨w1.heap.size, 2, none⟩ : Addr)) = some ⟨w1.heap.size, 2, none⟩ ∧ ∃ ad, a = some ad ∧ ∀ j v, (xs.map (Value.int .i64))[j]? = some v → ((w1.alloc (.cells #[.int .i64 r, .int .i64 c, .int .i64 0, .int .i64 0, .int .i64 0, .int .i64 0, .int .i64 0, .int .i64 0] 83)).drew).cell? (ad.add j) = some v := by
    intro h0
    obtain ⟨b, off, rfl, hlt, hcc⟩ := reads_row hr1 (by simpa using h0)
    refine ⟨rfl, _, rfl, fun j v hj => ?_⟩
    obtain ⟨hx1, rfl⟩ := List.getElem?_eq_some_iff.1 hj
    simp only [List.length_map] at hx1
    rw [add_plain]
    have := hcc j hx1
    simp only [List.getElem_map]
    simpa [List.getD, hx1] using this
  have HP := Lib.hid hcp; clear hcp
  have k2 := ((((Box.new w (.int .i64 r) (.int .i64 c) (.slice a xs.length cap) 28).kept (below_new _)).kept hb).kept (below_new (.cells #[.int .i64 r, .int .i64 c, .int .i64 0, .int .i64 0, .int .i64 0, .int .i64 0, .int .i64 0, .int .i64 0] 83))).c2
  have hg0 : ((w1.alloc (.cells #[.int .i64 r, .int .i64 c, .int .i64 0, .int .i64 0, .int .i64 0, .int .i64 0, .int .i64 0, .int .i64 0] 83)).drew).heap[w1.heap.size]? = some (.cells [.int .i64 r, .int .i64 c, .int .i64 0, .int .i64 0, .int .i64 0, .int .i64 0, .int .i64 0, .int .i64 0].toArray 83 (0, 0)) := heap_alloc_new w1 _
  have hn0 : (xs.map (Value.int .i64)).length = Nat.min xs.length 6 := by simp only [List.length_map]; exact (Nat.min_eq_left hlen).symm
  have hf0 : 2 + (xs.map (Value.int .i64)).length ≤ ([.int .i64 r, .int .i64 c, .int .i64 0, .int .i64 0, .int .i64 0, .int .i64 0, .int .i64 0, .int .i64 0] : List Value).length := by simp; omega
  have HG0 := Lib.hid hg0; clear hg0
  have HN0 := Lib.hid hn0; clear hn0
  have HF0 := Lib.hid hf0; clear hf0
  go_region_law (refine step_copy_splice rfl (.tmp 15) (.tmp 17) 22 22 rfl 3 Try.underlying22 (by kernel_rfl) _ a 6 6 xs.length cap (by simp [Act.eval]) (by simp [Act.eval]) w1.heap.size 2 _ 83 HG0.out (xs.map (Value.int .i64)) HN0.out HP.out HF0.out (ints_oneCell _ _) w1.heap.size _ (Below.refl _ _) (Nat.le_refl _) ?_; intro w4 hg4 hb4)
  have hg5 : Has w4 w1.heap.size _ 83 := hg4.out
  rw [grid_cells r c xs hlen] at hg5
  obtain ⟨e0, e1, e2, e3, e4, e5, e6, e7, _⟩ := hg5.eight
  have hR : Has w1 (w.heap.size + 1) [.int .i64 0, .int .i64 0, .int .i64 0, .int .i64 0, .int .i64 0, .int .i64 0, .int .i64 0, .int .i64 0] 83 := by
    have := Has.new (w.alloc (.cells #[.int .i64 r, .int .i64 c, .slice a xs.length cap] 28)) [.int .i64 0, .int .i64 0, .int .i64 0, .int .i64 0, .int .i64 0, .int .i64 0, .int .i64 0, .int .i64 0] 83
    simpa using this.kept hb (by simp)
  have hR4 := hR.kept ((below_new (.cells #[.int .i64 r, .int .i64 c, .int .i64 0, .int .i64 0, .int .i64 0, .int .i64 0, .int .i64 0, .int .i64 0] 83)).drew.trans hb4) hR.lt
  obtain ⟨f0, f1, f2, f3, f4, f5, f6, f7, ff⟩ := hR4.eight
  have HB4 := Lib.hid hb4; clear hb4
  clear hg4 hg5 hr1 k2 hR hR4 hc hf
  go_wp2
  refine bodyPost_ret (v := .tuple #[.agg #[.int .i64 r, .int .i64 c, .int .i64 (xs.getD 0 0), .int .i64 (xs.getD 1 0), .int .i64 (xs.getD 2 0), .int .i64 (xs.getD 3 0), .int .i64 (xs.getD 4 0), .int .i64 (xs.getD 5 0)], .bool true]) (by simp [results, Try.results78, go_sem, f0, f1, f2, f3, f4, f5, f6, f7]) rfl ⟨rfl, ?_⟩
  have h2 := (below_on (below_on (below_on (below_new _) (below_new _)) hb) (below_new (.cells #[.int .i64 r, .int .i64 c, .int .i64 0, .int .i64 0, .int .i64 0, .int .i64 0, .int .i64 0, .int .i64 0] 83))).drew.trans (HB4.out.mono (by omega))
  repeat (refine Below.setCell ?_ (by simp <;> omega) _)
  exact h2

end Go.Proofs.Ytakdiiccdkjjcac
end

section
namespace Go.Proofs.Ytakdiiccdkjjcac
open Go.RowKit Go.WideShapes

theorem own_of_has {w : World} {lo g n : Nat} {xs : List Int} (h : Has w g (xs.map (Value.int .i64)) 3) (hl : lo ≤ g) (hn : xs.length = n) (hm : n ≤ maxLen) : Own w lo (.slice (some ⟨g, 0, none⟩) n n) xs := by
  subst hn
  refine ⟨by simp, .inr ⟨g, xs.length, _, rfl, hl, h, Nat.le_refl _, hm, by simp, by simp [List.take_of_length_le]⟩⟩

theorem splice_all (n : Nat) (cs : List Value) (h : cs.length = n) (z : Value) : splice (List.replicate n z) 0 cs = cs := by
  simp [splice, h]

theorem made_eq (n : Nat) (z : Value) : madeCells #[z] n = (List.replicate n z).toArray := by
  rw [← toList_madeCells_one]

theorem own_made (W : World) (n g lo : Nat) (hg : g = W.heap.size) (hl : lo ≤ g) (hn : n ≤ 1048576) : Own (W.alloc (.cells (madeCells #[.int .i64 0] n) 3)) lo (.slice (some ⟨g, 0, none⟩) n n) (List.replicate n 0) := by
  subst hg
  refine own_of_has ?_ hl (by simp) (by unfold maxLen; omega)
  rw [made_eq, List.map_replicate]
  exact Has.new W _ _

theorem board_facts (n : Nat) (c m0 m1 m2 m3 m4 m5 : Int) (w w3 : World) (hw : w3 = (((w.alloc (.cells #[.int .i64 n, .int .i64 c, .int .i64 m0, .int .i64 m1, .int .i64 m2, .int .i64 m3, .int .i64 m4, .int .i64 m5] 83)).alloc (.cells #[.int .i64 0, .int .i64 0, .slice none 0 0] 28)).alloc (.cells (madeCells #[.int .i64 0] n) 3))) :
    Has w3 (w.heap.size + 1 + 1) (List.replicate n (.int .i64 0)) 3 ∧ Has w3 w.heap.size [.int .i64 n, .int .i64 c, .int .i64 m0, .int .i64 m1, .int .i64 m2, .int .i64 m3, .int .i64 m4, .int .i64 m5] 83 ∧ Has w3 (w.heap.size + 1) [.int .i64 0, .int .i64 0, .slice none 0 0] 28 ∧ Below w.heap.size w w3 ∧
    (∀ j v, (([m0, m1, m2, m3, m4, m5].take n).map (Value.int .i64))[j]? = some v → w3.cell? ((⟨w.heap.size, 2, none⟩ : Addr).add j) = some v) := by
  have H1 := Has.new w [.int .i64 n, .int .i64 c, .int .i64 m0, .int .i64 m1, .int .i64 m2, .int .i64 m3, .int .i64 m4, .int .i64 m5] 83
  have b1 := below_new (w := w) (.cells #[.int .i64 n, .int .i64 c, .int .i64 m0, .int .i64 m1, .int .i64 m2, .int .i64 m3, .int .i64 m4, .int .i64 m5] 83)
  generalize hw1 : w.alloc (.cells #[.int .i64 n, .int .i64 c, .int .i64 m0, .int .i64 m1, .int .i64 m2, .int .i64 m3, .int .i64 m4, .int .i64 m5] 83) = w1 at *
  have H2 := Has.new w1 [.int .i64 0, .int .i64 0, .slice none 0 0] 28
  have b2 := below_new (w := w1) (.cells #[.int .i64 0, .int .i64 0, .slice none 0 0] 28)
  have H12 := H1.kept b2 H1.lt
  generalize hw2 : w1.alloc (.cells #[.int .i64 0, .int .i64 0, .slice none 0 0] 28) = w2 at *
  have H3 : Has (w2.alloc (.cells (madeCells #[.int .i64 0] n) 3)) w2.heap.size (List.replicate n (.int .i64 0)) 3 := by rw [made_eq]; exact Has.new w2 _ _
  have b3 := below_new (w := w2) (.cells (madeCells #[.int .i64 0] n) 3)
  have H13 := H12.kept b3 H12.lt
  have H23 := H2.kept b3 H2.lt
  have hz1 : w1.heap.size = w.heap.size + 1 := by rw [← hw1]; simp
  have hz2 : w2.heap.size = w.heap.size + 1 + 1 := by rw [← hw2, World.size_alloc, hz1]
  rw [← hw] at H3 H13 H23 b3
  rw [hz2] at H3
  rw [hz1] at H23
  refine ⟨H3, H13, H23, below_on (below_on b1 b2) b3, fun j v hj => ?_⟩
  rw [add_plain, H13.cell]
  rw [List.map_take, List.getElem?_take] at hj
  split at hj
  · rw [show 2 + j = j + 2 by omega]; exact hj
  · cases hj

set_option maxHeartbeats 800000 in
theorem board_any (n : Nat) (c m0 m1 m2 m3 m4 m5 : Int) (w : World) (hn : n ≤ 6) :
    Calls Try.prog 105 #[.agg #[.int .i64 n, .int .i64 c, .int .i64 m0, .int .i64 m1, .int .i64 m2, .int .i64 m3, .int .i64 m4, .int .i64 m5]] w
      fun e w' => ∃ s, e = .returned (.agg #[.int .i64 n, .int .i64 c, s]) ∧ Own w' w.heap.size s ([m0, m1, m2, m3, m4, m5].take n) ∧ Below w.heap.size w w' := by
  have hmk := run_make_row' (P := Try.prog) 22 3 (.int .i64 0) 8 Try.underlying22 Try.infoI rfl .i64 .i64 n (by omega) (by omega)
  obtain ⟨F1, F2, F3, F4, F5⟩ := board_facts n c m0 m1 m2 m3 m4 m5 w _ rfl
  have hlen : (([m0, m1, m2, m3, m4, m5].take n).map (Value.int .i64)).length = n := by simp; omega
  have HM := Lib.hid (show (([m0, m1, m2, m3, m4, m5].take n).map (Value.int .i64)).length = Nat.min 6 n by rw [hlen]; exact (Nat.min_eq_right hn).symm)
  have HF := Lib.hid (show 0 + (([m0, m1, m2, m3, m4, m5].take n).map (Value.int .i64)).length ≤ (List.replicate n (Value.int .i64 0)).length by rw [hlen, List.length_replicate]; omega)
  have G1 := Lib.hid F1.row; have G2 := Lib.hid F2; have G3 := Lib.hid F3; have G4 := Lib.hid F4; have G5 := Lib.hid F5; have HL := Lib.hid hlen
  clear F1 F2 F3 F4 F5 hlen
  go_enter Try.func105, Try.ntmps105
  go_wp2_with (with_reducible refine wpList_copy_splice rfl (.tmp 7) (.tmp 9) 22 22 rfl 3 Try.underlying22 (by kernel_rfl) _ _ n n 6 6 rfl rfl (w.heap.size + 1 + 1) 0 _ 3 G1.out _ HM.out (fun _ => ⟨rfl, _, rfl, G5.out⟩) HF.out (ints_oneCell _ _) (w.heap.size + 1 + 1) _ (Below.refl _ _) (Nat.le_refl _) ?_)
  intro w4 hg4 hb4
  have H4 : Has w4 (w.heap.size + 1 + 1) (([m0, m1, m2, m3, m4, m5].take n).map (Value.int .i64)) 3 := by
    have h : Has w4 (w.heap.size + 1 + 1) _ 3 := hg4.out
    rw [splice_all n _ (by simp <;> omega)] at h
    simpa using h
  have E := G3.out.kept hb4 (by omega)
  have E2 := G2.out.kept hb4 (by omega)
  obtain ⟨e0, e1, e2, ef⟩ := E.three
  obtain ⟨f0, f1, f2, f3, f4, f5, f6, f7, ff⟩ := E2.eight
  have HB4 := Lib.hid hb4; clear hb4 hg4 E E2
  have hsz := G4.out.size
  have HH := Lib.hid H4; clear H4 hmk
  go_wp2
  have hlt : w.heap.size + 1 + 1 < w4.heap.size := HH.out.lt
  refine bodyPost_ret (v := .agg #[.int .i64 n, .int .i64 c, .slice (some ⟨w.heap.size + 1 + 1, 0, none⟩) n n]) (by simp [results, Try.results105, go_sem, e0, e1, e2]) rfl ⟨_, rfl, ?_, ?_⟩
  · have hO := own_of_has (lo := w.heap.size + 1 + 1) HH.out (Nat.le_refl _) (by have := HL.out; simpa using this) (by unfold maxLen; omega)
    exact (((hO.set (by simp <;> omega) _).set (by simp <;> omega) _).set (by simp <;> omega) _).lower (by omega)
  · have h2 := G4.out.trans (HB4.out.mono (by omega))
    repeat (refine Below.setCell ?_ (by simp <;> omega) _)
    exact h2

end Go.Proofs.Ytakdiiccdkjjcac
end

section
namespace Go.Proofs.Ytakdiiccdkjjcac
open Go.RowKit

/-- w0: where the law began; bs: blocks of three cells; os: slices of the law's own, no two in one block. -/
structure Env (w0 : World) (bs : List (Nat × Value × Value × Value)) (os : List (Value × List Int)) (w : World) : Prop where
  below : Below w0.heap.size w0 w
  boxes : ∀ b ∈ bs, w0.heap.size ≤ b.1 ∧ Box w b.1 b.2.1 b.2.2.1 b.2.2.2
  owns : ∀ o ∈ os, Own w w0.heap.size o.1 o.2
  dis : os.Pairwise fun x y => ∀ k, x.1.ownBlock = some k → y.1.ownBlock ≠ some k
  disb : ∀ o ∈ os, ∀ b ∈ bs, o.1.ownBlock ≠ some b.1

theorem Env.start (w : World) : Env w [] [] w := ⟨Below.refl _ _, by simp, by simp, by simp, by simp⟩

theorem Env.kept {w0 w w' : World} {bs : List (Nat × Value × Value × Value)} {os : List (Value × List Int)} (h : Env w0 bs os w) (hb : Below w.heap.size w w') : Env w0 bs os w' :=
  ⟨below_on h.below hb, fun b hm => ⟨(h.boxes b hm).1, (h.boxes b hm).2.kept hb⟩, fun o hm => (h.owns o hm).kept hb, h.dis, h.disb⟩

theorem Env.own {w0 w w' : World} {bs : List (Nat × Value × Value × Value)} {os : List (Value × List Int)} (h : Env w0 bs os w) (hb : Below w.heap.size w w') {s : Value} {xs : List Int}
    (hs : Own w' w.heap.size s xs) : Env w0 bs ((s, xs) :: os) w' := by
  have hk := h.kept hb
  refine ⟨hk.below, hk.boxes, ?_, ?_, ?_⟩
  · intro o hm
    rcases List.mem_cons.1 hm with rfl | hm
    · exact hs.lower h.below.size
    · exact hk.owns o hm
  · refine List.pairwise_cons.2 ⟨fun o hm k e1 e2 => ?_, h.dis⟩
    have := (own_lt hs k e1).1
    have := (own_lt (h.owns o hm) k e2).2
    omega
  · intro o hm b hb2 e
    rcases List.mem_cons.1 hm with rfl | hm
    · have := (own_lt hs b.1 e).1
      have := (h.boxes b hb2).2.lt
      omega
    · exact h.disb o hm b hb2 e

theorem Env.box {w0 w : World} {bs : List (Nat × Value × Value × Value)} {os : List (Value × List Int)} (h : Env w0 bs os w) (x y z : Value) (t : TypeId) :
    Env w0 ((w.heap.size, x, y, z) :: bs) os (w.alloc (.cells #[x, y, z] t)) := by
  have hk := h.kept (below_new (.cells #[x, y, z] t))
  refine ⟨hk.below, ?_, hk.owns, h.dis, ?_⟩
  · intro b hm
    rcases List.mem_cons.1 hm with rfl | hm
    · exact ⟨h.below.size, Box.new w x y z t⟩
    · exact hk.boxes b hm
  · intro o hm b hb e
    rcases List.mem_cons.1 hb with rfl | hb
    · have := (own_lt (h.owns o hm) _ e).2
      omega
    · exact h.disb o hm b hb e

theorem Box.grown {w w' : World} {b : Nat} {x y z : Value} {row : Option Nat} (h : Box w b x y z) (hg : w.grownBy w' row) (hr : row ≠ some b) : Box w' b x y z :=
  ⟨Nat.lt_of_lt_of_le h.lt hg.size, hg.cell h.c0 (fun e => hr e.symm), hg.cell h.c1 (fun e => hr e.symm), hg.cell h.c2 (fun e => hr e.symm), fun o => (World.frozen?_of_block (w := w) (hg.block b h.lt (fun e => hr e.symm))).trans (h.fr o)⟩

/-- One of the law's own slices is written. -/
theorem Env.mark {w0 w w' : World} {bs : List (Nat × Value × Value × Value)} {os os' : List (Value × List Int)} {s : Value} {xs ys : List Int} (h : Env w0 bs (os ++ (s, xs) :: os') w)
    (hg : w.grownBy w' s.ownBlock) {lo : Nat} (hs : Own w' lo s ys) : Env w0 bs (os ++ (s, ys) :: os') w' := by
  have hlt := own_lt (h.owns (s, xs) (by simp))
  have hd := h.dis
  rw [List.pairwise_append, List.pairwise_cons] at hd
  obtain ⟨d1, ⟨d2, d3⟩, d4⟩ := hd
  refine ⟨?_, ?_, ?_, ?_, ?_⟩
  · exact h.below.grown hg h.below.size (fun k e => (hlt k e).1)
  · intro b hm
    exact ⟨(h.boxes b hm).1, (h.boxes b hm).2.grown hg (fun e => h.disb (s, xs) (by simp) b hm e)⟩
  · intro o hm
    have other : ∀ o, o ∈ os ++ (s, xs) :: os' → (o.1.ownBlock = none ∨ o.1.ownBlock ≠ s.ownBlock) → Own w' w0.heap.size o.1 o.2 := fun o hm hne => World.ownsRow.kept (h.owns o hm) hg hne
    rcases List.mem_append.1 hm with hm | hm
    · refine other o (by simp [hm]) ?_
      cases e : o.1.ownBlock with
      | none => exact .inl rfl
      | some k => exact .inr (fun e2 => d4 o hm (s, xs) (by simp) k e e2.symm)
    · rcases List.mem_cons.1 hm with rfl | hm
      · refine ⟨hs.1, ?_⟩
        rcases hs.2 with h1 | ⟨g, cap, cur, e, hb, r⟩
        · exact .inl h1
        · exact .inr ⟨g, cap, cur, e, (hlt g (by rw [e]; rfl)).1, r⟩
      · refine other o (by simp [hm]) ?_
        cases e : o.1.ownBlock with
        | none => exact .inl rfl
        | some k =>
          refine .inr (fun e2 => ?_)
          exact d2 o hm k e2.symm e
  · rw [List.pairwise_append, List.pairwise_cons]
    exact ⟨d1, ⟨d2, d3⟩, fun a ha b hb k e => by
      rcases List.mem_cons.1 hb with rfl | hb
      · exact d4 a ha (s, xs) (by simp) k e
      · exact d4 a ha b (by simp [hb]) k e⟩
  · intro o hm b hb
    rcases List.mem_append.1 hm with hm | hm
    · exact h.disb o (by simp [hm]) b hb
    · rcases List.mem_cons.1 hm with rfl | hm
      · exact h.disb (s, xs) (by simp) b hb
      · exact h.disb o (by simp [hm]) b hb

/-- .. by one store. -/
theorem Env.store {w0 w : World} {bs : List (Nat × Value × Value × Value)} {os os' : List (Value × List Int)} {g n cap : Nat} {xs : List Int} (h : Env w0 bs (os ++ (.slice (some ⟨g, 0, none⟩) n cap, xs) :: os') w)
    (hn : xs.length = n) (j : Nat) (x : Int) : Env w0 bs (os ++ (.slice (some ⟨g, 0, none⟩) n cap, xs.set j x) :: os') (w.setCell ⟨g, j, none⟩ (.int .i64 x)) := by
  have hO : Own w w0.heap.size (.slice (some ⟨g, 0, none⟩) n cap) xs := h.owns (_, xs) (by simp)
  refine h.mark ?_ (own_store hO hn j x)
  subst hn
  exact (World.ownsRow.stored hO j (.int .i64 x)).2
theorem Env.drew {w0 w : World} {bs : List (Nat × Value × Value × Value)} {os : List (Value × List Int)} (h : Env w0 bs os w) : Env w0 bs os w.drew := h.kept (Below.refl _ _).drew

/-- A slice that came in still reads as it did. -/
theorem Env.reads {w0 w : World} {bs : List (Nat × Value × Value × Value)} {os : List (Value × List Int)} (h : Env w0 bs os w) {a : Option Addr} {len : Nat} {zs : List Int} (hr : Reads w0 a len zs) : Reads w a len zs := hr.kept h.below

theorem Env.b1 {w0 w : World} {n : Nat} {x y z : Value} {bs : List (Nat × Value × Value × Value)} {os : List (Value × List Int)} (h : Env w0 ((n, x, y, z) :: bs) os w) : Box w n x y z := (h.boxes (n, x, y, z) (by simp)).2
theorem Env.bt {w0 w : World} {b : Nat × Value × Value × Value} {bs : List (Nat × Value × Value × Value)} {os : List (Value × List Int)} (h : Env w0 (b :: bs) os w) : Env w0 bs os w :=
  ⟨h.below, fun c hc => h.boxes c (List.mem_cons_of_mem _ hc), h.owns, h.dis, fun o ho c hc => h.disb o ho c (List.mem_cons_of_mem _ hc)⟩
theorem Env.o1 {w0 w : World} {s : Value} {xs : List Int} {bs : List (Nat × Value × Value × Value)} {os : List (Value × List Int)} (h : Env w0 bs ((s, xs) :: os) w) : Own w w0.heap.size s xs := h.owns (s, xs) (by simp)
theorem Env.ot {w0 w : World} {o : Value × List Int} {bs : List (Nat × Value × Value × Value)} {os : List (Value × List Int)} (h : Env w0 bs (o :: os) w) : Env w0 bs os w :=
  ⟨h.below, h.boxes, fun c hc => h.owns c (List.mem_cons_of_mem _ hc), (List.pairwise_cons.1 h.dis).2, fun c hc => h.disb c (List.mem_cons_of_mem _ hc)⟩

/-- What a call that answers a board answers. -/
structure BR where
  r : Int
  c : Int
  xs : List Int
  ok : Bool
def BR.zero : BR := ⟨0, 0, [], false⟩

/-- A call that answers a board. -/
def AnsB (R : BR) (w : World) (e : Ending) (w' : World) : Prop :=
  ∃ s, e = .returned (.tuple #[.agg #[.int .i64 R.r, .int .i64 R.c, s], .bool R.ok]) ∧ Own w' w.heap.size s R.xs ∧ Below w.heap.size w w'

end Go.Proofs.Ytakdiiccdkjjcac
end
