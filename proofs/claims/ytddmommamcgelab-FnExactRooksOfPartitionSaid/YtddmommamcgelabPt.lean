/- Placements as lists, and turned ones: both texts. No condition but the sizes. -/
import Derived.Test.YtddmommamcgelabPc
import Derived.Test.YtddmommamcgelabFm
import Derived.Test.YtddmommamcgelabAp
namespace Go.Proofs.Ytddmommamcgelab
open Go.RowKit Go.WideShapes

theorem pl6_take (F : Nat → Int) (n : Nat) (hn : n ≤ 6) : [F 0, F 1, F 2, F 3, F 4, F 5].take n = lstI n F := by
  have : n = 0 ∨ n = 1 ∨ n = 2 ∨ n = 3 ∨ n = 4 ∨ n = 5 ∨ n = 6 := by omega
  rcases this with rfl | rfl | rfl | rfl | rfl | rfl | rfl <;> rfl

/-- The row of the last rook in the column c, of the first k. -/
def trF (p : Nat → Int) : Nat → Nat → Int
  | 0, _ => -1
  | k + 1, c => if p k = (c : Int) then (k : Int) else trF p k c
theorem trF_skip (p : Nat → Int) (k : Nat) (h : p k = -1) (c : Nat) : trF p (k + 1) c = trF p k c := by
  rw [trF, if_neg (by omega)]
theorem trF_set (p : Nat → Int) (k d : Nat) (h : p k = (d : Int)) : trF p (k + 1) d = k ∧ ∀ c, c ≠ d → trF p (k + 1) c = trF p k c := by
  refine ⟨by rw [trF, if_pos h], fun c hc => ?_⟩
  rw [trF, if_neg (by omega)]
theorem trF_more (P : List Int) (n k c : Nat) (h : n ≤ k) : trF (plF P n) k c = trF (fun j => P.getD j 0) n c := by
  induction k with
  | zero =>
    rw [show n = 0 by omega]
    rfl
  | succ k ih =>
    by_cases e : n = k + 1
    · subst e
      have : ∀ i, i ≤ k + 1 → trF (plF P (k + 1)) i c = trF (fun j => P.getD j 0) i c := by
        intro i
        induction i with
        | zero => intro _; rfl
        | succ i ih2 =>
          intro hi
          rw [trF, trF, ih2 (by omega)]
          have : plF P (k + 1) i = P.getD i 0 := by unfold plF; rw [if_pos (by omega)]
          rw [this]
      exact this _ (Nat.le_refl _)
    · rw [trF, if_neg, ih (by omega)]
      unfold plF
      rw [if_neg (by omega)]
      omega

set_option maxRecDepth 100000 in
set_option maxHeartbeats 1600000 in
theorem list_any (F : Nat → Int) (n : Nat) (w : World) (hn : n ≤ 6) :
    Calls Try.prog 74 #[pv6 F, .int .i64 n] w fun e w' => ∃ g, e = .returned (.slice (some ⟨g, 0, none⟩) n n) ∧ Own w' w.heap.size (.slice (some ⟨g, 0, none⟩) n n) (lstI n F) ∧ Below w.heap.size w w' := by
  have hmk := run_make_row' (P := Try.prog) 22 3 (.int .i64 0) 8 Try.underlying22 Try.infoI rfl .i64 .i64 n (by omega) (by omega)
  have L0 := ((Law.start w).has (pl6 F) 81).own (below_new (.cells (madeCells #[.int .i64 0] n) 3)) (own_made _ n _ _ rfl (Nat.le_refl _) (by omega))
  have H1 : Has ((w.alloc (.cells (pl6 F).toArray 81)).alloc (.cells (madeCells #[.int .i64 0] n) 3)) (w.heap.size + 1) (List.replicate n (.int .i64 0)) 3 := by
    have := Has.new (w.alloc (.cells (pl6 F).toArray 81)) (List.replicate n (.int .i64 0)) 3
    rw [← made_eq] at this
    simpa using this
  have H2 := L0.tl.ownHas
  have hB := L0.below
  have hp6 : (pl6 F).toArray = #[.int .i64 (F 0), .int .i64 (F 1), .int .i64 (F 2), .int .i64 (F 3), .int .i64 (F 4), .int .i64 (F 5)] := rfl
  have hsrc : ∀ j v, (([F 0, F 1, F 2, F 3, F 4, F 5].take n).map (Value.int .i64))[j]? = some v → ((w.alloc (.cells (pl6 F).toArray 81)).alloc (.cells (madeCells #[.int .i64 0] n) 3)).cell? ((⟨w.heap.size, 0, none⟩ : Addr).add j) = some v := by
    intro j v hj
    rw [add_plain, H2.cell]
    rw [List.map_take, List.getElem?_take] at hj
    split at hj
    · rw [show 0 + j = j by omega]; exact hj
    · cases hj
  have hlen : (([F 0, F 1, F 2, F 3, F 4, F 5].take n).map (Value.int .i64)).length = n := by simp; omega
  have HM := Lib.hid (show (([F 0, F 1, F 2, F 3, F 4, F 5].take n).map (Value.int .i64)).length = Nat.min 6 n by rw [hlen]; exact (Nat.min_eq_right hn).symm)
  have HF := Lib.hid (show 0 + (([F 0, F 1, F 2, F 3, F 4, F 5].take n).map (Value.int .i64)).length ≤ (List.replicate n (Value.int .i64 0)).length by rw [hlen, List.length_replicate]; omega)
  have H1' := H1.row
  rw [hp6] at hB hsrc H1'
  have HB := Lib.hid hB
  have G1 := Lib.hid H1'; have G5 := Lib.hid hsrc; have HL := Lib.hid hlen
  clear L0 H1 H2 hsrc hlen hB H1' hp6
  go_enter Try.func74, Try.ntmps74
  go_wp2_with (with_reducible refine wpList_copy_splice rfl (.tmp 8) (.tmp 9) 22 22 rfl 3 Try.underlying22 (by kernel_rfl) _ _ n n 6 6 rfl rfl (w.heap.size + 1) 0 _ 3 G1.out _ HM.out (fun _ => ⟨rfl, _, rfl, G5.out⟩) HF.out (ints_oneCell _ _) (w.heap.size + 1) _ (Below.refl _ _) (Nat.le_refl _) ?_)
  intro w4 hg4 hb4
  have H4 : Has w4 (w.heap.size + 1) (([F 0, F 1, F 2, F 3, F 4, F 5].take n).map (Value.int .i64)) 3 := by
    have h : Has w4 (w.heap.size + 1) _ 3 := hg4.out
    rw [splice_all n _ (by simp <;> omega)] at h
    simpa using h
  rw [pl6_take F n hn] at H4
  have HH := Lib.hid H4
  have HB4 := Lib.hid (HB.out.trans (hb4.mono (by omega)))
  clear hg4 hb4 H4 hmk
  go_wp2_with fail
  go_ret
  exact ⟨_, rfl, (own_of_has (lo := w.heap.size) HH.out (by omega) (lstI_len _ _) (by unfold maxLen; omega)), HB4.out⟩
end Go.Proofs.Ytddmommamcgelab
