/- The program's grids: a board as a plain value. No condition but the sizes. -/
import Derived.Test.YtmhlpaenfknofabT
import Derived.Deep.RegionLaw
import Derived.Laws.CopyOwn
import Derived.WideShapes
namespace Go.Proofs.Ytmhlpaenfknofab
open Go.RowKit Go.WideShapes

theorem bit_at (x : Int) (j : Nat) (h : 0 ≤ x ∧ x < 64) (hj : j < 6) : (bits .and .i64 (x / 2 ^ j) 1 == 1) = x.toNat.testBit j := by
  obtain ⟨n, rfl⟩ := Int.eq_ofNat_of_zero_le h.1
  have hn : n < 64 := by omega
  have key : ∀ n : Fin 64, ∀ j : Fin 6, (bits .and .i64 (((n : Nat) : Int) / 2 ^ (j : Nat)) 1 == 1) = (n : Nat).testBit j := by decide +kernel
  exact key ⟨n, hn⟩ ⟨j, hj⟩

theorem grid_cells (r c : Int) (xs : List Int) (h : xs.length ≤ 6) :
    splice [.int .i64 r, .int .i64 c, .int .i64 0, .int .i64 0, .int .i64 0, .int .i64 0, .int .i64 0, .int .i64 0] 2 (xs.map (Value.int .i64)) =
      [.int .i64 r, .int .i64 c, .int .i64 (xs.getD 0 0), .int .i64 (xs.getD 1 0), .int .i64 (xs.getD 2 0), .int .i64 (xs.getD 3 0), .int .i64 (xs.getD 4 0), .int .i64 (xs.getD 5 0)] := by
  match xs, h with
  | [], _ => rfl
  | [_], _ => rfl
  | [_, _], _ => rfl
  | [_, _, _], _ => rfl
  | [_, _, _, _], _ => rfl
  | [_, _, _, _, _], _ => rfl
  | [_, _, _, _, _, _], _ => rfl
  | _ :: _ :: _ :: _ :: _ :: _ :: _ :: _, h => simp at h

theorem bcell' {B : Nat} {W w1 : World} (hb : Below B W w1) : (∀ b o, b < B → w1.cell? ⟨b, o, none⟩ = W.cell? ⟨b, o, none⟩) ∧ (∀ b o, b < B → w1.frozen? ⟨b, o, none⟩ = W.frozen? ⟨b, o, none⟩) :=
  ⟨fun b o h => hb.cell (p := ⟨b, o, none⟩) h, fun b o h => hb.frozen (p := ⟨b, o, none⟩) h⟩

/-- A grid's block. -/
def gl (n m : Int) (f : Nat → Int) : List Value := [.int .i64 n, .int .i64 m, .int .i64 (f 0), .int .i64 (f 1), .int .i64 (f 2), .int .i64 (f 3), .int .i64 (f 4), .int .i64 (f 5)]
theorem gl_get (n m : Int) (f : Nat → Int) (i : Nat) (h : i < 6) : (gl n m f)[2 + i]? = some (.int .i64 (f i)) := by
  have : i = 0 ∨ i = 1 ∨ i = 2 ∨ i = 3 ∨ i = 4 ∨ i = 5 := by omega
  rcases this with rfl | rfl | rfl | rfl | rfl | rfl <;> rfl
theorem gl_set (n m : Int) (f g : Nat → Int) (i : Nat) (h : i < 6) (x : Int) (hx : g i = x) (hg : ∀ k, k ≠ i → g k = f k) : (gl n m f).set (2 + i) (.int .i64 x) = gl n m g := by
  have : i = 0 ∨ i = 1 ∨ i = 2 ∨ i = 3 ∨ i = 4 ∨ i = 5 := by omega
  subst hx
  rcases this with rfl | rfl | rfl | rfl | rfl | rfl <;> simp [gl, hg]

set_option maxHeartbeats 400000 in
theorem at_any (r c : Int) (m : Nat → Int) (k j : Nat) (w : World) (hk : k < 6) (hj : j < 6) (hm : 0 ≤ m k ∧ m k < 64) :
    Calls Try.prog 92 #[.agg #[.int .i64 r, .int .i64 c, .int .i64 (m 0), .int .i64 (m 1), .int .i64 (m 2), .int .i64 (m 3), .int .i64 (m 4), .int .i64 (m 5)], .int .i64 k, .int .i64 j] w
      fun e w' => e = .returned (.bool ((m k).toNat.testBit j)) ∧ Below w.heap.size w w' := by
  have hcell : (w.alloc (.cells #[.int .i64 r, .int .i64 c, .int .i64 (m 0), .int .i64 (m 1), .int .i64 (m 2), .int .i64 (m 3), .int .i64 (m 4), .int .i64 (m 5)] 74)).cell? ⟨w.heap.size, 2 + k, none⟩ = some (.int .i64 (m k)) := by
    rw [World.cell?_alloc_at _ _ _ _ rfl]
    have : k = 0 ∨ k = 1 ∨ k = 2 ∨ k = 3 ∨ k = 4 ∨ k = 5 := by omega
    rcases this with rfl | rfl | rfl | rfl | rfl | rfl <;> rfl
  generalize hx : m k = x at *
  clear hx
  go_enter Try.func92, Try.ntmps92
  go_wp2
  go_ret
  exact ⟨ret_bool (bit_at x j hm hj), below_new _⟩

set_option maxHeartbeats 800000 in
theorem gridOf_no (r c : Int) (a : Option Addr) (cap : Nat) (xs : List Int) (w : World) (hx : xs.length ≤ 1048576) (hr : Reads w a xs.length xs) (hg : goodB r c xs = false) :
    Calls Try.prog 68 #[.agg #[.int .i64 r, .int .i64 c, .slice a xs.length cap]] w
      fun e w' => e = .returned (.tuple #[.agg #[.int .i64 0, .int .i64 0, .int .i64 0, .int .i64 0, .int .i64 0, .int .i64 0, .int .i64 0, .int .i64 0], .bool false]) ∧ Below w.heap.size w w' := by
  have HG := Lib.hid hg; clear hg
  go_enter Try.func68, Try.ntmps68
  go_wp2_with fail
  refine (implIsBoard_any r c a cap xs _ hx (hr.kept (below_on (below_new _) (below_new _)))).mono ?_
  rintro e w1 ⟨rfl, hb⟩
  rw [HG.out]
  obtain ⟨hc, hf⟩ := bcell hb
  have hz := hb.size
  simp only [World.size_alloc] at hz
  go_wp2
  refine bodyPost_ret (v := .tuple #[.agg #[.int .i64 0, .int .i64 0, .int .i64 0, .int .i64 0, .int .i64 0, .int .i64 0, .int .i64 0, .int .i64 0], .bool false]) (by simp [results, Try.results68, go_sem, hc]) rfl ⟨rfl, ?_⟩
  have h2 := below_on (below_on (below_new _) (below_new _)) hb
  repeat (refine Below.setCell ?_ (by simp <;> omega) _)
  exact h2

set_option maxHeartbeats 800000 in
theorem gridOf_yes (r c : Int) (a : Option Addr) (cap : Nat) (xs : List Int) (w : World) (hx : xs.length ≤ 1048576) (hr : Reads w a xs.length xs) (hg : goodB r c xs = true) :
    Calls Try.prog 68 #[.agg #[.int .i64 r, .int .i64 c, .slice a xs.length cap]] w
      fun e w' => e = .returned (.tuple #[.agg #[.int .i64 r, .int .i64 c, .int .i64 (xs.getD 0 0), .int .i64 (xs.getD 1 0), .int .i64 (xs.getD 2 0), .int .i64 (xs.getD 3 0), .int .i64 (xs.getD 4 0), .int .i64 (xs.getD 5 0)], .bool true]) ∧ Below w.heap.size w w' := by
  have HG := Lib.hid hg; clear hg
  go_enter Try.func68, Try.ntmps68
  go_wp2_with fail
  refine (implIsBoard_any r c a cap xs _ hx (hr.kept (below_on (below_new _) (below_new _)))).mono ?_
  rintro e w1 ⟨rfl, hb⟩
  rw [HG.out]
  obtain ⟨hc, hf⟩ := bcell hb
  have hz := hb.size
  simp only [World.size_alloc] at hz
  go_wp2
  have hlen : xs.length ≤ 6 := by
    have := HG.out
    simp only [goodB, Bool.and_eq_true, inB_iff, decide_eq_true_eq] at this
    omega
  have hr1 := (hr.kept (below_on (below_on (below_new _) (below_new _)) hb)).kept (below_new (.cells #[.int .i64 r, .int .i64 c, .int .i64 0, .int .i64 0, .int .i64 0, .int .i64 0, .int .i64 0, .int .i64 0] 74))
  have hcp : 0 < (xs.map (Value.int .i64)).length → (some (⟨w1.heap.size, 2, none⟩ : Addr)) = some ⟨w1.heap.size, 2, none⟩ ∧ ∃ ad, a = some ad ∧ ∀ j v, (xs.map (Value.int .i64))[j]? = some v → ((w1.alloc (.cells #[.int .i64 r, .int .i64 c, .int .i64 0, .int .i64 0, .int .i64 0, .int .i64 0, .int .i64 0, .int .i64 0] 74)).drew).cell? (ad.add j) = some v := by
    intro h0
    obtain ⟨b, off, rfl, hlt, hcc⟩ := reads_row hr1 (by simpa using h0)
    refine ⟨rfl, _, rfl, fun j v hj => ?_⟩
    obtain ⟨hx1, rfl⟩ := List.getElem?_eq_some_iff.1 hj
    simp only [List.length_map] at hx1
    rw [add_plain]
    have := hcc j hx1
    simp only [List.getElem_map]
    simpa [List.getD, hx1] using this
  have HP := Lib.hid hcp; clear hcp
  have k2 := ((((Box.new w (.int .i64 r) (.int .i64 c) (.slice a xs.length cap) 45).kept (below_new _)).kept hb).kept (below_new (.cells #[.int .i64 r, .int .i64 c, .int .i64 0, .int .i64 0, .int .i64 0, .int .i64 0, .int .i64 0, .int .i64 0] 74))).c2
  have hg0 : ((w1.alloc (.cells #[.int .i64 r, .int .i64 c, .int .i64 0, .int .i64 0, .int .i64 0, .int .i64 0, .int .i64 0, .int .i64 0] 74)).drew).heap[w1.heap.size]? = some (.cells [.int .i64 r, .int .i64 c, .int .i64 0, .int .i64 0, .int .i64 0, .int .i64 0, .int .i64 0, .int .i64 0].toArray 74 (0, 0)) := heap_alloc_new w1 _
  have hn0 : (xs.map (Value.int .i64)).length = Nat.min xs.length 6 := by simp only [List.length_map]; exact (Nat.min_eq_left hlen).symm
  have hf0 : 2 + (xs.map (Value.int .i64)).length ≤ ([.int .i64 r, .int .i64 c, .int .i64 0, .int .i64 0, .int .i64 0, .int .i64 0, .int .i64 0, .int .i64 0] : List Value).length := by simp; omega
  have HG0 := Lib.hid hg0; clear hg0
  have HN0 := Lib.hid hn0; clear hn0
  have HF0 := Lib.hid hf0; clear hf0
  go_region_law (refine step_copy_splice rfl (.tmp 15) (.tmp 17) 22 22 rfl 3 Try.underlying22 (by kernel_rfl) _ a 6 6 xs.length cap (by simp [Act.eval]) (by simp [Act.eval]) w1.heap.size 2 _ 74 HG0.out (xs.map (Value.int .i64)) HN0.out HP.out HF0.out (ints_oneCell _ _) w1.heap.size _ (Below.refl _ _) (Nat.le_refl _) ?_; intro w4 hg4 hb4)
  have hg5 : Has w4 w1.heap.size _ 74 := hg4.out
  rw [grid_cells r c xs hlen] at hg5
  obtain ⟨e0, e1, e2, e3, e4, e5, e6, e7, _⟩ := hg5.eight
  have hR : Has w1 (w.heap.size + 1) [.int .i64 0, .int .i64 0, .int .i64 0, .int .i64 0, .int .i64 0, .int .i64 0, .int .i64 0, .int .i64 0] 74 := by
    have := Has.new (w.alloc (.cells #[.int .i64 r, .int .i64 c, .slice a xs.length cap] 45)) [.int .i64 0, .int .i64 0, .int .i64 0, .int .i64 0, .int .i64 0, .int .i64 0, .int .i64 0, .int .i64 0] 74
    simpa using this.kept hb (by simp)
  have hR4 := hR.kept ((below_new (.cells #[.int .i64 r, .int .i64 c, .int .i64 0, .int .i64 0, .int .i64 0, .int .i64 0, .int .i64 0, .int .i64 0] 74)).drew.trans hb4) hR.lt
  obtain ⟨f0, f1, f2, f3, f4, f5, f6, f7, ff⟩ := hR4.eight
  have HB4 := Lib.hid hb4; clear hb4
  clear hg4 hg5 hr1 k2 hR hR4 hc hf
  go_wp2
  refine bodyPost_ret (v := .tuple #[.agg #[.int .i64 r, .int .i64 c, .int .i64 (xs.getD 0 0), .int .i64 (xs.getD 1 0), .int .i64 (xs.getD 2 0), .int .i64 (xs.getD 3 0), .int .i64 (xs.getD 4 0), .int .i64 (xs.getD 5 0)], .bool true]) (by simp [results, Try.results68, go_sem, f0, f1, f2, f3, f4, f5, f6, f7]) rfl ⟨rfl, ?_⟩
  have h2 := (below_on (below_on (below_on (below_new _) (below_new _)) hb) (below_new (.cells #[.int .i64 r, .int .i64 c, .int .i64 0, .int .i64 0, .int .i64 0, .int .i64 0, .int .i64 0, .int .i64 0] 74))).drew.trans (HB4.out.mono (by omega))
  repeat (refine Below.setCell ?_ (by simp <;> omega) _)
  exact h2

end Go.Proofs.Ytmhlpaenfknofab
