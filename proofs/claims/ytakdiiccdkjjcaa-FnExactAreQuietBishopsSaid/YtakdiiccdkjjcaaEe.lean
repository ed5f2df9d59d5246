/- The colour board, in the specification. No condition but the sizes. -/
import Derived.Test.YtakdiiccdkjjcaaEd
import Derived.Test.YtakdiiccdkjjcaaF
namespace Go.Proofs.Ytakdiiccdkjjcaa
open Go.RowKit Go.WideShapes

set_option maxRecDepth 100000 in
set_option maxHeartbeats 3200000 in
theorem biPlace_any (f L t : Nat) (x : Int) (v : Value) (lo : Nat) (w : World) (hL : L ≤ 1000) (ht : t < L) (hx : x = ((f + 2 * t : Nat) : Int)) (hO : Own w lo v (arL f L)) :
    Calls Try.prog 99 #[v, .int .i64 x] w fun e w' => e = .returned (.int .i64 t) ∧ w' = w := by
  rcases hO.cases with ⟨rfl, h0⟩ | ⟨g, cap, rfl, g1, g2, g3, g4⟩
  · have := arL_len f L
    rw [h0] at this
    simp at this
    omega
  · rw [arL_len] at g3 ⊢
    have HC := Lib.hid (fun j (hj : j < L) => show w.cell? ⟨g, j, none⟩ = some (.int .i64 ((f + 2 * j : Nat) : Int)) by
      have := Own.cell hO j (by rw [arL_len]; exact hj)
      rwa [arL_get f L j hj] at this)
    clear hO
    go_enter Try.func99, Try.ntmps99
    go_wp2_with fail
    go_loop [5, 6, 9] (fun _ _ i => ∃ j : Nat, j ≤ t ∧ i = .int .i64 j) (fun _ _ i => L - (intOf i).toNat)
    case atStart => exact ⟨0, Nat.zero_le _, rfl⟩
    case round =>
      obtain ⟨j, hj, rfl⟩ := hrel
      have hcj := HC.out j (by omega)
      by_cases hjt : j = t
      · subst hjt
        rw [← hx] at hcj
        go_wp2_with fail
        go_ret
        exact ⟨rfl, rfl⟩
      · have hne : (((f + 2 * j : Nat) : Int) == x) = false := by rw [beq_eq_false_iff_ne]; omega
        generalize ((f + 2 * j : Nat) : Int) = y at *
        go_wp2_with fail
        go_round
        case rel => exact ⟨j + 1, by omega, by go_num⟩
        case measure => simp [intOf]; omega

theorem cells_mem {xs : List Int} {n m : Nat} {x : List Int} (h : x ∈ cellsL xs n m) : ∃ a b : Nat, x = [(a : Int), (b : Int)] ∧ a < n ∧ b < m ∧ (xs.getD a 0).toNat.testBit b = true := by
  unfold cellsL cellsU at h
  rw [show rowC xs n 0 = [] from rfl, List.append_nil] at h
  obtain ⟨a, ha, hx⟩ := List.mem_flatMap.1 h
  unfold rowC at hx
  obtain ⟨b, hb, rfl⟩ := List.mem_map.1 hx
  rw [List.mem_filter, List.mem_range] at hb
  exact ⟨a, b, rfl, List.mem_range.1 ha, hb.1, hb.2⟩
theorem wgt_pos (m k i a b : Nat) : 0 ≤ wgt m k i a b := by
  unfold wgt
  split
  · exact Int.le_of_lt (Int.pow_pos (by decide))
  · exact Int.le_refl _
theorem bbI_pos (m k : Nat) (cs : List (List Int)) (i : Nat) : 0 ≤ bbI m k cs i := by
  have h : ∀ (l : List (List Int)) (s : Int), 0 ≤ s → 0 ≤ l.foldl (fun s x => s + wgt m k i (x.getD 0 0).toNat (x.getD 1 0).toNat) s := by
    intro l
    induction l with
    | nil => intro s h; exact h
    | cons x l ih => intro s h; rw [List.foldl_cons]; exact ih _ (by have := wgt_pos m k i (x.getD 0 0).toNat (x.getD 1 0).toNat; omega)
  exact h cs 0 (Int.le_refl _)
theorem bbI_take_le (m k : Nat) (cs : List (List Int)) (i q : Nat) : bbI m k (cs.take q) i ≤ bbI m k cs i := by
  have h := bbI_app m k (cs.take q) (cs.drop q) i
  rw [List.take_append_drop] at h
  have := bbI_pos m k (cs.drop q) i
  omega
theorem bbI_step (m k : Nat) (cs : List (List Int)) (i q : Nat) (hq : q < cs.length) (a b : Nat) (hx : cs[q] = [(a : Int), (b : Int)]) : bbI m k (cs.take (q + 1)) i = bbI m k (cs.take q) i + wgt m k i a b := by
  rw [List.take_succ_eq_append_getElem hq, bbI_app, bbI_one, hx]
  rfl
theorem bb_no (m k L q : Nat) (cs : List (List Int)) (hq : q < cs.length) (a b : Nat) (hx : cs[q] = [(a : Int), (b : Int)]) (hp : ¬ (a + b) % 2 = k) : lstI L (bbI m k (cs.take (q + 1))) = lstI L (bbI m k (cs.take q)) :=
  lstI_congr _ _ _ (fun i _ => by rw [bbI_step m k cs i q hq a b hx, wgt, if_neg (fun h => hp h.1), Int.add_zero])
theorem bb_yes (m k L q : Nat) (cs : List (List Int)) (hq : q < cs.length) (a b : Nat) (hx : cs[q] = [(a : Int), (b : Int)]) (hp : (a + b) % 2 = k) :
    (lstI L (bbI m k (cs.take q))).set (ixR k a b) (bbI m k (cs.take q) (ixR k a b) + 2 ^ ixC m k a b) = lstI L (bbI m k (cs.take (q + 1))) :=
  lstI_set L _ _ _ _ (by rw [bbI_step m k cs _ q hq a b hx, wgt, if_pos ⟨hp, rfl⟩]) (fun i _ hi => by rw [bbI_step m k cs i q hq a b hx, wgt, if_neg (fun h => hi h.2.symm), Int.add_zero])
theorem rowM_64 (p : Nat → Bool) (L : Nat) (h : L ≤ 6) : (rowM p L : Int) < 64 := by
  have h1 := rowM_lt p L
  have h2 : 2 ^ L ≤ 2 ^ 6 := Nat.pow_le_pow_right (by decide) h
  omega
/-- The rows of the colour board. -/
def colL (n m k : Nat) (xs : List Int) : List Int := lstI (lnI n m k) (fun i => (rowM (colB n m k (fun a b => (xs.getD a 0).toNat.testBit b) i) (lnI n m (fdI m k)) : Int))
theorem colL_len (n m k : Nat) (xs : List Int) : (colL n m k xs).length = lnI n m k := lstI_len _ _
theorem colL_bb (n m k : Nat) (xs : List Int) (hn : n ≤ 6) (hm : m ≤ 6) (hk : k < 2) : lstI (lnI n m k) (bbI m k (cellsL xs n m)) = colL n m k xs :=
  lstI_congr _ _ _ (fun i hi => col_end n m k i xs hn hm hk (by have := ln_le n m k hn hm; omega))
theorem ix_facts (n m k a b : Nat) (hm : m ≤ 6) (hk : k < 2) (ha : a < n) (hb : b < m) (hp : (a + b) % 2 = k) :
    ixR k a b < lnI n m k ∧ ixC m k a b < lnI n m (fdI m k) ∧ (a : Int) + b = ((k + 2 * ixR k a b : Nat) : Int) ∧ (a : Int) - b + m - 1 = ((fdI m k + 2 * ixC m k a b : Nat) : Int) := by
  unfold ixR ixC lnI fdI
  omega

theorem ownM_shape {W : World} {lo : Nat} {v : Value} {vs : List Value} {cs : List (List Int)} (h : OwnM W lo v vs cs) : ∃ a cap, v = .slice a cs.length cap := by
  have hl := h.len
  rcases h.cases with ⟨rfl, rfl⟩ | ⟨g, cp, rfl, _⟩
  · exact ⟨none, 0, by rw [hl]; rfl⟩
  · exact ⟨_, cp, by rw [hl]⟩
/-- Cells as rows of two numbers: where they lie. -/
theorem two_form {W : World} {lo : Nat} {v : Value} {vs : List Value} {cs : List (List Int)} (h : OwnM W lo v vs cs) (q : Nat) (hq : q < cs.length) (a b : Int) (hx : cs[q] = [a, b]) :
    ∃ gv cv gx cx, v = .slice (some ⟨gv, 0, none⟩) cs.length cv ∧ vs[q]? = some (.slice (some ⟨gx, 0, none⟩) 2 cx) := by
  have hl := h.len
  rcases h.cases with ⟨rfl, rfl⟩ | ⟨g, cp, rfl, _⟩
  · rw [List.length_nil] at hl; omega
  · have hr := h.row q (by omega)
    rw [hx] at hr
    rcases hr.cases with ⟨h1, h2⟩ | ⟨gx, cx, h1, _⟩
    · cases h2
    · exact ⟨g, cp, gx, cx, by rw [hl], by rw [List.getElem?_eq_getElem (by omega), h1]; rfl⟩
theorem two_at {W : World} {lo : Nat} {vs : List Value} {cs : List (List Int)} {gv cv gx cx : Nat} {q : Nat} {a b : Int} (h : OwnM W lo (.slice (some ⟨gv, 0, none⟩) cs.length cv) vs cs) (hq : q < cs.length) (hx : cs[q] = [a, b]) (hv : vs[q]? = some (.slice (some ⟨gx, 0, none⟩) 2 cx)) :
    W.cell? ⟨gv, q, none⟩ = some (.slice (some ⟨gx, 0, none⟩) 2 cx) ∧ W.cell? ⟨gx, 0, none⟩ = some (.int .i64 a) ∧ W.cell? ⟨gx, 1, none⟩ = some (.int .i64 b) := by
  have hl := h.len
  have hc := OwnM.cell (by rw [← hl]; exact h) q (by omega)
  have hr := h.row q (by omega)
  have hv2 : vs[q] = .slice (some ⟨gx, 0, none⟩) 2 cx := by
    rw [List.getElem?_eq_getElem (by omega)] at hv
    exact Option.some.inj hv
  rw [hx, hv2] at hr
  refine ⟨by rw [hc, hv2], ?_, ?_⟩
  · exact Own.cell (xs := [a, b]) hr 0 (by simp)
  · exact Own.cell (xs := [a, b]) hr 1 (by simp)

end Go.Proofs.Ytakdiiccdkjjcaa
