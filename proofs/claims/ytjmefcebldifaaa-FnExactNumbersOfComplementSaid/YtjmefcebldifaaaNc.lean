/- Rook numbers of complements: choices, and one term. No condition but the sizes. -/
import Derived.Test.YtjmefcebldifaaaPl
import Derived.Test.YtjmefcebldifaaaAp
namespace Go.Proofs.Ytjmefcebldifaaa
open Go.RowKit Go.WideShapes

def cmpI (ys : List Int) (n k j : Nat) : Int := ys.getD j 0 * chs (n - j) (k - j) * chs (n - j) (k - j) * fct (k - j)
def cmpJ (ys : List Int) (n k j : Nat) : Int := if j % 2 = 1 then - cmpI ys n k j else cmpI ys n k j
/-- A product of four numbers, from the left, and what it stays under. -/
theorem four_abs (y c f : Int) (hy : Abs 117649 y) (hc : Abs 20 c) (hf : Abs 720 f) : Abs 2352980 (y * c) ∧ Abs 47059600 (y * c * c) ∧ Abs 33882912000 (y * c * c * f) := by
  have h1 := (show Abs ((117649 : Nat) : Int) y from hy).mul (show Abs ((20 : Nat) : Int) c from hc)
  have h2 := h1.mul (show Abs ((20 : Nat) : Int) c from hc)
  have h3 := h2.mul (show Abs ((720 : Nat) : Int) f from hf)
  exact ⟨h1.mono (by decide), h2.mono (by decide), h3.mono (by decide)⟩
theorem cmpI_abs (ys : List Int) (hy : ∀ k, 0 ≤ ys.getD k 0 ∧ ys.getD k 0 ≤ 117649) (n k j : Nat) (hn : n ≤ 6) (hk : k ≤ n) : Abs 33882912000 (cmpI ys n k j) := by
  have h1 := chs_le (n - j) (k - j) (by omega) (by omega)
  have h2 := fct_bd (k - j) (by omega)
  have := hy j
  exact (four_abs _ _ _ (by unfold Abs; omega) (by unfold Abs; omega) (by unfold Abs; omega)).2.2
theorem cmpJ_abs (ys : List Int) (hy : ∀ k, 0 ≤ ys.getD k 0 ∧ ys.getD k 0 ≤ 117649) (n k j : Nat) (hn : n ≤ 6) (hk : k ≤ n) : Abs 33882912000 (cmpJ ys n k j) := by
  have := cmpI_abs ys hy n k j hn hk
  unfold cmpJ
  split
  · exact this.neg
  · exact this
theorem cmpS_abs' (ys : List Int) (hy : ∀ k, 0 ≤ ys.getD k 0 ∧ ys.getD k 0 ≤ 117649) (n k m : Nat) (hn : n ≤ 6) (hk : k ≤ n) (hm : m ≤ 8) : Abs 271063296000 (sumT (cmpJ ys n k) m) :=
  (sumT_abs _ _ m (fun j _ => cmpJ_abs ys hy n k j hn hk)).mono (by omega)
def compL (ys : List Int) (n : Nat) : List Int := (List.range (n + 1)).map (fun k => sumT (cmpJ ys n k) (k + 1))
theorem compL_len (ys : List Int) (n : Nat) : (compL ys n).length = n + 1 := by simp [compL]
theorem compL_get (ys : List Int) (n k : Nat) (h : k < n + 1) : (compL ys n).getD k 0 = sumT (cmpJ ys n k) (k + 1) := by simp [compL, List.getD, h]
theorem compL_take (ys : List Int) (n k : Nat) (h : k < n + 1) : (compL ys n).take k ++ [sumT (cmpJ ys n k) (k + 1)] = (compL ys n).take (k + 1) := by
  rw [List.take_succ_eq_append_getElem (by rw [compL_len]; exact h), ← compL_get ys n k h]
  simp [List.getD, compL_len, h]
def compB (r c : Int) (xs : List Int) : LR := if sqB r c xs then ⟨compL (numL r.toNat r.toNat (bt xs)) r.toNat, true⟩ else ⟨[], false⟩
theorem compB_len (r c : Int) (xs : List Int) : (compB r c xs).ys.length ≤ 1048576 := by
  unfold compB
  split
  · rename_i h
    obtain ⟨h1, h2⟩ := sq_facts h
    have := good_facts h1
    show (compL _ _).length ≤ _
    rw [compL_len]
    omega
  · simp
theorem chs_div (n k : Nat) (hn : n ≤ 6) (hk : k ≤ n) : wrap64 ((fal n k).tdiv (fct k)) = chs n k ∧ fct k ≠ 0 := by
  have key : ∀ n : Fin 7, ∀ k : Fin 7, (k : Nat) ≤ n → wrap64 ((fal (n : Nat) (k : Nat)).tdiv (fct (k : Nat))) = chs n k ∧ fct (k : Nat) ≠ 0 := by decide +kernel
  exact key ⟨n, by omega⟩ ⟨k, by omega⟩ hk
theorem chs_go (n k i : Nat) (hn : n ≤ 6) (hk : k ≤ n) (hi : i < k) : wrap64 ((wrap64 ((chs (n - k + i) i : Int) * ((n : Int) - k + ((i : Int) + 1)))).tdiv ((i : Int) + 1)) = chs (n - k + (i + 1)) (i + 1) := by
  have key : ∀ n : Fin 7, ∀ k : Fin 7, ∀ i : Fin 6, (k : Nat) ≤ n → (i : Nat) < k → wrap64 ((wrap64 ((chs ((n : Nat) - k + i) i : Int) * (((n : Nat) : Int) - (k : Nat) + (((i : Nat) : Int) + 1)))).tdiv (((i : Nat) : Int) + 1)) = chs ((n : Nat) - k + (i + 1)) (i + 1) := by decide +kernel
  exact key ⟨n, by omega⟩ ⟨k, by omega⟩ ⟨i, by omega⟩ hk hi

set_option maxHeartbeats 800000 in
theorem roChoose_any (n k : Nat) (w : World) (hn : n ≤ 6) (hk : k ≤ n) : Calls Try.prog 65 #[.int .i64 n, .int .i64 k] w fun e w' => e = .returned (.int .i64 (chs n k : Nat)) ∧ w' = w := by
  go_enter Try.func65, Try.ntmps65
  go_wp2_with fail
  go_loop [5, 6] (fun t i => ∃ j : Nat, j ≤ k ∧ i = .int .i64 ((j : Int) + 1) ∧ t = .int .i64 (chs (n - k + j) j : Nat)) (fun _ i => k + 1 - (intOf i).toNat)
  case atStart => exact ⟨0, Nat.zero_le _, rfl, by simp [chs]⟩
  case round =>
    obtain ⟨j, hj, rfl, rfl⟩ := hrel
    by_cases hlt : j < k
    · have hm := chs_go n k j hn hk hlt
      have hb := chs_le (n - k + j) j (by omega) (by omega)
      have h1 : (j : Int) + 1 ≤ k := by omega
      generalize chs (n - k + j) j = x at *
      have HM := Lib.hid hm
      clear hm
      go_wp2_with fail
      go_round
      case rel => exact ⟨j + 1, by omega, by go_num, by rw [HM.out]⟩
      case measure => simp [intOf]; omega
    · obtain rfl : j = k := by omega
      go_wp2_with fail
      go_ret
      exact ⟨ret_int (by first | rfl | rw [Nat.sub_add_cancel hk]), rfl⟩

set_option maxHeartbeats 800000 in
theorem factorial_any (k : Nat) (w : World) (hk : k ≤ 6) : Calls Try.prog 69 #[.int .i64 k] w fun e w' => e = .returned (.int .i64 (fct k)) ∧ w' = w := by
  have HF := Lib.hid (falling_any k k w (by unfold Abs; omega) hk)
  go_enter Try.func69, Try.ntmps69
  go_wp2_with fail
  refine HF.out.mono ?_
  rintro e w' ⟨rfl, hww⟩
  subst hww
  go_wp2_with fail
  go_ret
  exact ⟨rfl, rfl⟩
set_option maxHeartbeats 800000 in
theorem choices_any (n k : Nat) (w : World) (hn : n ≤ 6) (hk : k ≤ n) : Calls Try.prog 68 #[.int .i64 n, .int .i64 k] w fun e w' => e = .returned (.int .i64 (chs n k : Nat)) ∧ w' = w := by
  have HF := Lib.hid (falling_any n k w (by unfold Abs; omega) (by omega))
  have HG := Lib.hid (factorial_any k w (by omega))
  obtain ⟨h1, h2⟩ := chs_div n k hn hk
  have HM := Lib.hid h1
  have hb := fct_bd k (by omega)
  have h0 : (fct k == 0) = false := by rw [beq_eq_false_iff_ne]; exact h2
  generalize fal n k = u at *
  generalize fct k = v at *
  clear h1
  go_enter Try.func68, Try.ntmps68
  go_wp2_with fail
  refine HF.out.mono ?_
  rintro e w' ⟨rfl, hww⟩
  subst hww
  go_wp2_with fail
  refine HG.out.mono ?_
  rintro e w' ⟨rfl, hww⟩
  subst hww
  go_wp2_with fail
  go_ret
  exact ⟨ret_int HM.out, rfl⟩

set_option maxRecDepth 100000 in
set_option maxHeartbeats 3200000 in
theorem comp1_any (b1 b2 b3 g p n k j : Nat) (ys : List Int) (hy : ∀ k, 0 ≤ ys.getD k 0 ∧ ys.getD k 0 ≤ 117649) (w : World) (hk : k ≤ n) (hj : j ≤ k) (hn6 : n ≤ 6)
    (h1 : w.cell? ⟨b1, 0, none⟩ = some (.int .i64 n)) (h2 : w.cell? ⟨b2, 0, none⟩ = some (.int .i64 k)) (h3 : w.cell? ⟨b3, 0, none⟩ = some (.slice (some ⟨g, 0, none⟩) (n + 1) p)) (h4 : w.cell? ⟨g, j, none⟩ = some (.int .i64 (ys.getD j 0))) :
    Calls Try.prog 67 (#[.int .i64 j] ++ #[.pointer (some ⟨b1, 0, none⟩), .pointer (some ⟨b2, 0, none⟩), .pointer (some ⟨b3, 0, none⟩)]) w fun e w' => e = .returned (.int .i64 (cmpJ ys n k j)) ∧ Below w.heap.size w w' := by
  have hc := choices_any (n - j) (k - j) w (by omega) (by omega)
  rw [show ((n - j : Nat) : Int) = (n : Int) - j by omega, show ((k - j : Nat) : Int) = (k : Int) - j by omega] at hc
  have hf := fun W => factorial_any (k - j) W (by omega)
  rw [show ((k - j : Nat) : Int) = (k : Int) - j by omega] at hf
  have hdk : IntKind.i64.wrap ((k : Int) - j) = (k : Int) - j := IntWalk.i64_in _ (by omega)
  have e1 := chs_le (n - j) (k - j) (by omega) (by omega)
  have e2 := fct_bd (k - j) (by omega)
  have e3 := hy j
  obtain ⟨q1, q2, q3⟩ := four_abs (ys.getD j 0) (chs (n - j) (k - j) : Nat) (fct (k - j)) (by unfold Abs; omega) (by unfold Abs; omega) (by unfold Abs; omega)
  have hI : cmpI ys n k j = ys.getD j 0 * (chs (n - j) (k - j) : Nat) * (chs (n - j) (k - j) : Nat) * fct (k - j) := rfl
  have hJ : cmpJ ys n k j = if j % 2 = 1 then - cmpI ys n k j else cmpI ys n k j := rfl
  rw [hI] at hJ
  rw [hJ]
  clear hI hJ
  generalize ys.getD j 0 = y at *
  generalize ((chs (n - j) (k - j) : Nat) : Int) = c at *
  generalize fct (k - j) = f at *
  obtain ⟨v1, hv1⟩ : ∃ v1, v1 = y * c := ⟨_, rfl⟩
  obtain ⟨v2, hv2⟩ : ∃ v2, v2 = v1 * c := ⟨_, rfl⟩
  obtain ⟨v3, hv3⟩ : ∃ v3, v3 = v2 * f := ⟨_, rfl⟩
  rw [← hv1] at q1 q2 q3 ⊢
  rw [← hv2] at q2 q3 ⊢
  rw [← hv3] at q3 ⊢
  unfold Abs at q1 q2 q3
  have p1 : IntKind.i64.wrap (y * c) = v1 := by rw [← hv1]; exact IntWalk.i64_in _ (by omega)
  have p2 : IntKind.i64.wrap (v1 * c) = v2 := by rw [← hv2]; exact IntWalk.i64_in _ (by omega)
  have p3 : IntKind.i64.wrap (v2 * f) = v3 := by rw [← hv3]; exact IntWalk.i64_in _ (by omega)
  have p4 : wrap64 (-v3) = -v3 := IntWalk.wrap64_in _ (by omega)
  have HC := Lib.hid hc
  have HF := Lib.hid hf
  have hj0 : (0 : Int) ≤ j := by omega
  have hj1 : (j : Int) < (n : Int) + 1 := by omega
  have hmod : ((j : Int).tmod 2 == 1) = decide (j % 2 = 1) := by
    rw [show (j : Int).tmod 2 = ((j % 2 : Nat) : Int) from rfl]
    by_cases h : j % 2 = 1
    · simp [h]
    · simp only [h, decide_false, beq_eq_false_iff_ne]; omega
  have hmod2 : ((j : Int) % 2 == 1) = decide (j % 2 = 1) := by
    rw [show (j : Int) % 2 = ((j % 2 : Nat) : Int) by omega]
    by_cases h : j % 2 = 1
    · simp [h]
    · simp only [h, decide_false, beq_eq_false_iff_ne]; omega
  by_cases hodd : j % 2 = 1
  all_goals
    simp only [hodd, decide_true, decide_false] at hmod hmod2
    first | rw [if_pos hodd] | rw [if_neg hodd]
    have HODD := Lib.hid hodd
    clear hc hf hv1 hv2 hv3 hodd hy
    go_enter Try.func67, Try.ntmps67
    go_wp2_with fail
    refine HC.out.mono ?_
    rintro e w' ⟨rfl, hww⟩
    subst hww
    go_wp2_with fail
    go_quiet ((go_at_call 69; with_reducible exact Calls.quiet_of_same (HF.out _)))
    go_wp2_with fail
    go_ret
    exact ⟨rfl, below_drewN (Below.refl _ _) _⟩
end Go.Proofs.Ytjmefcebldifaaa
