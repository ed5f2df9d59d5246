/- The model's copy of a board, and complements, in both texts. No condition but the sizes. -/
import Derived.Test.YtakdiiccdkjjcabP
import Derived.Test.YtakdiiccdkjjcabF
import Derived.Test.YtakdiiccdkjjcabH
import Derived.Deep.RegionWith
import Derived.Deep.RegionHeld3
import Derived.Deep.DeepCutAuto
namespace Go.Proofs.Ytakdiiccdkjjcab
open Go.RowKit Go.WideShapes

set_option maxHeartbeats 1600000 in
theorem boOwn_any (r c : Int) (xs : List Int) (w : World) (hx : xs.length ≤ 1048576) (lo : Nat) (s : Value) (hO : Own w lo s xs) :
    Calls Try.prog 78 #[.agg #[.int .i64 r, .int .i64 c, s]] w fun e w' => ∃ v, e = .returned (.agg #[.int .i64 r, .int .i64 c, v]) ∧ Own w' w.heap.size v xs ∧ Below w.heap.size w w' := by
  have L0 := ((Law.start w).box (.int .i64 r) (.int .i64 c) s 28).box (.int .i64 0) (.int .i64 0) (.slice none 0 0) 28
  have hs := hO.src.kept L0.below
  obtain ⟨a, cap, rfl, _⟩ := hO.reads
  clear hO
  have hd := (Below.refl ((w.alloc (.cells #[.int .i64 r, .int .i64 c, .slice a xs.length cap] 28)).alloc (.cells #[.int .i64 0, .int .i64 0, .slice none 0 0] 28)).heap.size ((w.alloc (.cells #[.int .i64 r, .int .i64 c, .slice a xs.length cap] 28)).alloc (.cells #[.int .i64 0, .int .i64 0, .slice none 0 0] 28))).drew
  have Ld := L0.kept hd
  have hsd := hs.kept hd
  have ⟨_, k0, k1, k2, _⟩ := Ld.tl.ownBox
  have HS := Lib.hid hsd
  clear hs hsd L0
  go_enter Try.func78, Try.ntmps78
  go_wp2_with fail
  go_region_held3 (fun w' => w'.cell? ⟨w.heap.size, 0, none⟩ = some (.int .i64 r) ∧ w'.cell? ⟨w.heap.size, 1, none⟩ = some (.int .i64 c) ∧ w'.cell? ⟨w.heap.size, 2, none⟩ = some (.slice a xs.length cap)) (first | exact ⟨k0, k1, k2⟩ | exact ⟨m0, m1, m2⟩ | (refine ⟨?_, ?_, ?_⟩ <;> simp [World.cell?_setCell_far, m0, m1, m2])) (((go_at_call 125; refine (l1Own_any xs _ hx _ HS.out).mono ?_; rintro e w1 ⟨v, rfl, hO, hb⟩; obtain ⟨a1, p1, hv, _⟩ := hO.reads; subst hv; have L1 := Ld.own hb hO; have ⟨_, m0, m1, m2, _⟩ := L1.tl.tl.ownBox; have ⟨_, n0, n1, n2, nf⟩ := L1.tl.ownBox; simp only [World.size_alloc] at n0 n1 n2 nf)))
  have hfin := L1.fin3 (n := w.heap.size + 1) (x := .int .i64 0) (y := .int .i64 0) (z := .slice none 0 0) (by simp) (.int .i64 r) (.int .i64 c) (.slice a1 xs.length p1)
  have HF := Lib.hid hfin
  clear L1 Ld hd hb hO hfin
  go_wp2_with fail
  exact bodyPost_ret (v := .agg #[.int .i64 r, .int .i64 c, .slice a1 xs.length p1]) (by simp [results, Try.results78, go_sem, n0, n1, n2]) rfl ⟨_, rfl, HF.out.1, HF.out.2⟩

/-- A zero board, and false: a call that fails. -/
theorem ansB_zero (w w' : World) (h : Below w.heap.size w w') : AnsB BR.zero w (.returned (.tuple #[.agg #[.int .i64 0, .int .i64 0, .slice none 0 0], .bool false])) w' := ⟨_, rfl, Own.nil _ _, h⟩

theorem cells_n (n : Nat) (f : Nat → Int) (xs : List Int) (hl : xs.length = n) (hn : n ≤ 6) (hf : ∀ k, k < n → f k = xs.getD k 0) : (([0, 1, 2, 3, 4, 5].take n).map f) = xs := by
  apply List.ext_getElem?
  intro j
  by_cases hj : j < n
  · have h6 : ([0, 1, 2, 3, 4, 5] : List Nat)[j]? = some j := by
      have : j = 0 ∨ j = 1 ∨ j = 2 ∨ j = 3 ∨ j = 4 ∨ j = 5 := by omega
      rcases this with rfl | rfl | rfl | rfl | rfl | rfl <;> rfl
    rw [List.getElem?_map, List.getElem?_take, if_pos hj, h6, Option.map_some, hf j hj]
    simp [List.getD, show j < xs.length by omega]
  · rw [List.getElem?_eq_none (by simp; omega), List.getElem?_eq_none (by omega)]


end Go.Proofs.Ytakdiiccdkjjcab
