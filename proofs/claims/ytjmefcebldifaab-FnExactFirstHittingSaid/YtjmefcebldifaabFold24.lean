import Derived.Test.YtjmefcebldifaabFold23
import Derived.Test.YtjmefcebldifaabFold18
import Derived.Deep.RegionHeld3
import Derived.Test.YtjmefcebldifaabFold20
import Derived.BigQuiet
import Derived.IntWalk

section
namespace Go.Proofs.Ytjmefcebldifaab
open Go.RowKit Go.WideShapes

set_option maxRecDepth 100000 in
set_option maxHeartbeats 1600000 in
theorem hiGood_any (r c : Int) (xs : List Int) (w : World) (hx : xs.length ≤ 1048576) (a : Option Addr) (cap : Nat) (hr : Reads w a xs.length xs) :
    Calls Try.prog 46 #[.agg #[.int .i64 r, .int .i64 c, .slice a xs.length cap]] w fun e w' => e = .returned (.bool (sqB r c xs)) ∧ Below w.heap.size w w' := by
  have L0 := (Law.start w).box (.int .i64 r) (.int .i64 c) (.slice a xs.length cap) 28
  have hr0 := L0.reads hr
  cases hg : goodB r c xs
  · rw [show sqB r c xs = false by simp [sqB, hg]]
    go_enter Try.func46, Try.ntmps46
    go_wp2_with fail
    refine (at_boolB (boGood_any r c a cap xs _ hx hr0) hg).mono ?_
    rintro e w1 ⟨rfl, hb⟩
    have HB := Lib.hid (L0.kept hb).below
    clear L0 hb hg hr0
    go_wp2_with fail
    go_ret
    exact ⟨rfl, HB.out⟩
  · rw [show sqB r c xs = (r == c) by simp [sqB, hg]]
    go_enter Try.func46, Try.ntmps46
    go_wp2_with fail
    refine (at_boolB (boGood_any r c a cap xs _ hx hr0) hg).mono ?_
    rintro e w1 ⟨rfl, hb⟩
    have HB := Lib.hid (L0.kept hb).below
    have ⟨_, k0, k1, k2, _⟩ := (L0.kept hb).ownBox
    clear L0 hb hg hr0
    go_wp2_with fail
    go_ret
    exact ⟨rfl, HB.out⟩

set_option maxRecDepth 100000 in
set_option maxHeartbeats 3200000 in
theorem hiHits_any (n : Nat) (r c : Int) (xs Q : List Int) (w : World) (hx : xs.length ≤ 1048576) (hlen : xs.length = n) (hn : n ≤ 6) (hgc : ∀ k, 0 ≤ xs.getD k 0 ∧ xs.getD k 0 < 64) (hQ : ∀ j, j < n → 0 ≤ Q.getD j 0 ∧ Q.getD j 0 < 6)
    (lo : Nat) (s : Value) (hO : Own w lo s xs) (qa : Option Addr) (qp : Nat) (hr : Reads w qa n Q) :
    Calls Try.prog 48 #[.agg #[.int .i64 r, .int .i64 c, s], .slice qa n qp] w fun e w' => e = .returned (.int .i64 (hitN (bt xs) Q n : Nat)) ∧ Below w.heap.size w w' := by
  have L0 := (Law.start w).box (.int .i64 r) (.int .i64 c) s 28
  have HB := Lib.hid (fun (j l : Nat) (W : World) (hj : j < n) (hl : l < 6) (h : Own W lo s xs) => boHas_any r c xs j l W (by omega) hx hl (hgc j) lo s h)
  have HO := Lib.hid hO
  obtain ⟨a, cap, rfl, _⟩ := hO.reads
  have HR := Lib.hid hr
  have HQ := Lib.hid hQ
  have HL := Lib.hid L0
  have hn6 : (n : Int) ≤ 6 := by omega
  clear L0 hO hr hQ hgc hlen
  go_enter Try.func48, Try.ntmps48
  go_wp2_with fail
  go_loopw [5, 10] (fun t i wr => ∃ j : Nat, j ≤ n ∧ i = .int .i64 j ∧ t = .int .i64 (hitN (bt xs) Q j : Nat) ∧ Law w [tBox w.heap.size (.int .i64 r) (.int .i64 c) (.slice a xs.length cap)] wr) (fun _ i _ => n - (intOf i).toNat)
  case atStart => exact ⟨0, Nat.zero_le _, rfl, rfl, HL.out⟩
  case round =>
    clear HL
    obtain ⟨j, hj, rfl, rfl, L⟩ := hrel
    by_cases hlt : j < n
    · have ⟨_, k0, k1, k2, _⟩ := L.ownBox
      obtain ⟨b1, o1, rfl, hb1, hc1⟩ := reads_row (L.reads HR.out) (by omega)
      have hcj := hc1 j hlt
      obtain ⟨q1, q2⟩ := HQ.out j hlt
      have HN := Lib.hid (show hitN (bt xs) Q (j + 1) = hitN (bt xs) Q j + if bt xs j (Q.getD j 0).toNat = true then 1 else 0 from rfl)
      obtain ⟨l, hl⟩ := Int.eq_ofNat_of_zero_le q1
      rw [hl, Int.toNat_natCast] at HN
      rw [hl] at hcj
      have hbc := HB.out j l wr hlt (by omega) (HO.out.kept L.below)
      have hle := hitN_le (bt xs) Q j
      rw [show ((xs.getD j 0).toNat.testBit l) = bt xs j l from rfl] at hbc
      generalize hitN (bt xs) Q j = t at *
      have HL := Lib.hid L
      clear L hc1 hb1 q1 q2 hl
      cases hB : bt xs j l
      · rw [hB] at hbc HN
        have HBC := Lib.hid hbc
        clear hbc hB
        go_wp2_with fail
        refine HBC.out.mono ?_
        rintro e w2 ⟨rfl, hb⟩
        have HL2 := Lib.hid (HL.out.kept hb)
        clear HL hb k0 k1 k2
        go_wp2_with fail
        go_roundw
        case rel => exact ⟨j + 1, by omega, by go_num, by rw [HN.out]; simp, HL2.out⟩
        case measure => simp [intOf]; omega
      · rw [hB] at hbc HN
        have HBC := Lib.hid hbc
        have htl : (t : Int) ≤ 6 := by omega
        have ht0 : (0 : Int) ≤ t := by omega
        clear hbc hB
        go_wp2_with fail
        refine HBC.out.mono ?_
        rintro e w2 ⟨rfl, hb⟩
        have HL2 := Lib.hid (HL.out.kept hb)
        clear HL hb k0 k1 k2
        go_wp2_with fail
        go_roundw
        case rel => exact ⟨j + 1, by omega, by go_num, by rw [HN.out]; simp, HL2.out⟩
        case measure => simp [intOf]; omega
    · obtain rfl : j = n := by omega
      have HB2 := Lib.hid L.below
      clear L
      go_wp2_with fail
      go_ret
      exact ⟨rfl, HB2.out⟩

theorem prm_in (n d : Nat) : ∀ P, (∀ y ∈ P, 0 ≤ y ∧ y < (n : Int)) → ∀ Q ∈ prm n d P, ∀ y ∈ Q, 0 ≤ y ∧ y < (n : Int) := by
  induction d with
  | zero => intro P hP Q h; rw [prm, List.mem_singleton] at h; rw [h]; exact hP
  | succ d ih =>
    intro P hP Q h
    rw [prm, List.mem_flatMap] at h
    obtain ⟨x, hx, h⟩ := h
    have hx := List.mem_range.1 hx
    split at h
    · cases h
    · refine ih _ (fun y hy => ?_) Q h
      rw [List.mem_append, List.mem_singleton] at hy
      rcases hy with hy | hy
      · exact hP y hy
      · rw [hy]; omega
theorem prm_cell (n : Nat) (Q : List Int) (h : Q ∈ prm n n []) : Q.length = n ∧ ∀ j, j < n → 0 ≤ Q.getD j 0 ∧ Q.getD j 0 < n := by
  have hl := prm_rows n n [] Q h
  simp at hl
  refine ⟨hl, fun j hj => ?_⟩
  have := prm_in n n [] (by simp) Q h (Q[j]'(by omega)) (List.getElem_mem _)
  simpa [List.getD, show j < Q.length by omega] using this

end Go.Proofs.Ytjmefcebldifaab
end

section
namespace Go.Proofs.Ytjmefcebldifaab
open Go.RowKit Go.WideShapes

theorem falG_abs (x : Int) (hx : Abs 20 x) (k : Nat) (hk : k ≤ 12) : Abs ((32 ^ k : Nat) : Int) (fal x k) := by
  induction k with
  | zero => simp [fal, Abs]
  | succ k ih =>
    rw [fal, Nat.pow_succ]
    exact (ih (by omega)).mul (show Abs ((32 : Nat) : Int) (x - k) by unfold Abs at *; omega)
theorem falG_bd (x : Int) (hx : Abs 20 x) (k : Nat) (hk : k ≤ 12) : Abs 1152921504606846976 (fal x k) :=
  (falG_abs x hx k hk).mono (by
    have h2 : 32 ^ k ≤ 32 ^ 12 := Nat.pow_le_pow_right (by omega) hk
    have h3 : 32 ^ 12 = 1152921504606846976 := by decide
    omega)
theorem falG_wrap (x : Int) (hx : Abs 20 x) (j : Nat) (hj : j ≤ 11) : wrap64 (fal x j * (x - j)) = fal x (j + 1) := by
  have h1 := falG_bd x hx (j + 1) (by omega)
  rw [show fal x j * (x - j) = fal x (j + 1) from rfl]
  unfold Abs at h1
  exact IntWalk.wrap64_in _ (by omega)
theorem fctG_bd (k : Nat) (hk : k ≤ 12) : 1 ≤ fct k ∧ fct k ≤ 479001600 := by
  have key : ∀ k : Fin 13, 1 ≤ fct k ∧ fct k ≤ 479001600 := by decide +kernel
  exact key ⟨k, by omega⟩
theorem chsG_le (n k : Nat) (hn : n ≤ 12) (hk : k ≤ 12) : chs n k ≤ 924 := by
  have key : ∀ n : Fin 13, ∀ k : Fin 13, chs n k ≤ 924 := by decide +kernel
  exact key ⟨n, by omega⟩ ⟨k, by omega⟩
theorem chsG_div (n k : Nat) (hn : n ≤ 12) (hk : k ≤ 12) : wrap64 ((fal n k).tdiv (fct k)) = chs n k ∧ fct k ≠ 0 := by
  have key : ∀ n : Fin 13, ∀ k : Fin 13, wrap64 ((fal ((n : Nat) : Int) (k : Nat)).tdiv (fct (k : Nat))) = (chs (n : Nat) (k : Nat) : Nat) ∧ fct (k : Nat) ≠ 0 := by decide +kernel
  exact key ⟨n, by omega⟩ ⟨k, by omega⟩

set_option maxHeartbeats 800000 in
theorem fallingG_any (x : Int) (k : Nat) (w : World) (hx : Abs 20 x) (hk : k ≤ 12) : Calls Try.prog 95 #[.int .i64 x, .int .i64 k] w fun e w' => e = .returned (.int .i64 (fal x k)) ∧ w' = w := by
  have HX := Lib.hid hx
  unfold Abs at hx
  obtain ⟨x1, x2⟩ := hx
  go_enter Try.func95, Try.ntmps95
  go_wp2_with fail
  go_loop [5, 6] (fun t i => ∃ j : Nat, j ≤ k ∧ i = .int .i64 j ∧ t = .int .i64 (fal x j)) (fun _ i => k - (intOf i).toNat)
  case atStart => exact ⟨0, Nat.zero_le _, rfl, rfl⟩
  case round =>
    obtain ⟨j, hj, rfl, rfl⟩ := hrel
    by_cases hlt : j < k
    · have hm := falG_wrap x HX.out j (by omega)
      go_wp2_with fail
      go_round
      case rel => exact ⟨j + 1, by omega, by go_num, by first | rfl | rw [hm]⟩
      case measure => simp [intOf]; omega
    · obtain rfl : j = k := by omega
      go_wp2_with fail
      go_ret
      exact ⟨rfl, rfl⟩
set_option maxHeartbeats 800000 in
theorem factG_any (k : Nat) (w : World) (hk : k ≤ 12) : Calls Try.prog 90 #[.int .i64 k] w fun e w' => e = .returned (.int .i64 (fct k)) ∧ w' = w := by
  have HF := Lib.hid (fallingG_any k k w (by unfold Abs; omega) hk)
  go_enter Try.func90, Try.ntmps90
  go_wp2_with fail
  refine HF.out.mono ?_
  rintro e w' ⟨rfl, hww⟩
  subst hww
  go_wp2_with fail
  go_ret
  exact ⟨rfl, rfl⟩
set_option maxHeartbeats 800000 in
theorem choicesG_any (n k : Nat) (w : World) (hn : n ≤ 12) (hk : k ≤ 12) : Calls Try.prog 101 #[.int .i64 n, .int .i64 k] w fun e w' => e = .returned (.int .i64 (chs n k : Nat)) ∧ w' = w := by
  have HF := Lib.hid (fallingG_any n k w (by unfold Abs; omega) (by omega))
  have HG := Lib.hid (factG_any k w (by omega))
  obtain ⟨h1, h2⟩ := chsG_div n k hn hk
  have HM := Lib.hid h1
  have hb := fctG_bd k (by omega)
  have h0 : (fct k == 0) = false := by rw [beq_eq_false_iff_ne]; exact h2
  generalize fal n k = u at *
  generalize fct k = v at *
  clear h1
  go_enter Try.func101, Try.ntmps101
  go_wp2_with fail
  refine HF.out.mono ?_
  rintro e w' ⟨rfl, hww⟩
  subst hww
  go_wp2_with fail
  refine HG.out.mono ?_
  rintro e w' ⟨rfl, hww⟩
  subst hww
  go_wp2_with fail
  go_ret
  exact ⟨ret_int HM.out, rfl⟩

/-- 1 or -1. -/
def Unit1 (x : Int) : Prop := x = 1 ∨ x = -1
theorem unit_pow {x : Int} (h : Unit1 x) (k : Nat) : Unit1 (x ^ k) := by
  induction k with
  | zero => exact .inl (Int.pow_zero x)
  | succ k ih =>
    rw [Int.pow_succ]
    unfold Unit1 at *
    rcases ih with e | e <;> rcases h with h | h <;> rw [e, h] <;> simp
theorem unit_abs {x : Int} (h : Unit1 x) : Abs ((1 : Nat) : Int) x := by
  unfold Unit1 at h
  unfold Abs
  omega
set_option maxHeartbeats 800000 in
theorem powU_any (x e : Int) (w : World) (hx : Unit1 x) (he : e ≤ 12) : Calls Try.prog 102 #[.int .i64 x, .int .i64 e] w fun r w' => r = .returned (.int .i64 (x ^ e.toNat)) ∧ w' = w := by
  have HX := Lib.hid hx
  clear hx
  go_enter Try.func102, Try.ntmps102
  go_wp2_with fail
  go_loop [5, 6] (fun t i => ∃ j : Nat, j ≤ e.toNat ∧ i = .int .i64 j ∧ t = .int .i64 (x ^ j)) (fun _ i => e.toNat - (intOf i).toNat)
  case atStart => exact ⟨0, Nat.zero_le _, rfl, by simp⟩
  case round =>
    obtain ⟨j, hj, rfl, rfl⟩ := hrel
    by_cases hlt : (j : Int) < e
    · have h1 := unit_abs (unit_pow HX.out (j + 1))
      have hm : wrap64 (x ^ j * x) = x ^ (j + 1) := by rw [show x ^ j * x = x ^ (j + 1) from (Int.pow_succ x j).symm]; unfold Abs at h1; exact IntWalk.wrap64_in _ (by omega)
      clear h1
      go_wp2_with fail
      go_round
      case rel => exact ⟨j + 1, by omega, by go_num, by first | rfl | rw [hm]⟩
      case measure => simp [intOf]; omega
    · obtain rfl : j = e.toNat := by omega
      go_wp2_with fail
      go_ret
      exact ⟨rfl, rfl⟩

/-- One term of what shifting the variable does. -/
def shT (ys : List Int) (u : Int) (k j : Nat) : Int := ys.getD j 0 * (chs j k : Nat) * u ^ (j - k)
theorem shT_abs (ys : List Int) (u : Int) (hu : Unit1 u) (k j : Nat) (hk : k ≤ 12) (hj : j ≤ 12) (hy : Abs 1000000000000 (ys.getD j 0)) : Abs 924000000000000 (ys.getD j 0 * (chs j k : Nat)) ∧ Abs 924000000000000 (shT ys u k j) := by
  have h1 := chsG_le j k hj hk
  have h2 : Abs 924000000000000 (ys.getD j 0 * (chs j k : Nat)) := (Abs.mul (a := 1000000000000) (b := 924) hy (by unfold Abs; omega)).mono (by decide)
  exact ⟨h2, (Abs.mul (a := 924000000000000) (b := 1) h2 (unit_abs (unit_pow hu _))).mono (by decide)⟩
theorem shS_abs (ys : List Int) (u : Int) (hu : Unit1 u) (k n : Nat) (hk : k ≤ 12) (hn : n ≤ 13) (hy : ∀ j, j < n → Abs 1000000000000 (ys.getD j 0)) : Abs 12012000000000000 (sumT (shT ys u k) n) :=
  (sumT_abs _ 924000000000000 n (fun j hj => (shT_abs ys u hu k j hk (by omega) (hy j hj)).2)).mono (by omega)

set_option maxRecDepth 100000 in
set_option maxHeartbeats 1600000 in
theorem addedBy_any (ys : List Int) (u : Int) (k j n : Nat) (a : Option Addr) (p : Nat) (w : World) (hu : Unit1 u) (hk : k ≤ 12) (hj : j < n) (hn : n ≤ 13) (hy : Abs 1000000000000 (ys.getD j 0)) (hr : Reads w a n ys) :
    Calls Try.prog 97 #[.agg #[.slice a n p, .int .i64 u, .int .i64 k], .int .i64 j] w fun e w' => e = .returned (.int .i64 (shT ys u k j)) ∧ Below w.heap.size w w' := by
  have L0 := (Law.start w).box (.slice a n p) (.int .i64 u) (.int .i64 k) 90
  obtain ⟨b1, o1, rfl, hb1, hc1⟩ := reads_row (L0.reads hr) (by omega)
  have hcj := hc1 j hj
  have HC := Lib.hid (fun W => choicesG_any j k W (by omega) hk)
  have HP := Lib.hid (fun W => powU_any u ((j : Int) - k) W hu (by omega))
  obtain ⟨t1, t2⟩ := shT_abs ys u hu k j hk (by omega) hy
  have e2 : ((j : Int) - k).toNat = j - k := by omega
  rw [e2] at HP
  unfold shT at t2 ⊢
  generalize ys.getD j 0 = y at *
  generalize chs j k = c at *
  generalize u ^ (j - k) = q at *
  have hm1 : IntKind.i64.wrap (y * (c : Nat)) = y * (c : Nat) := by unfold Abs at t1; exact IntWalk.i64_in _ (by omega)
  have hm2 : IntKind.i64.wrap (y * (c : Nat) * q) = y * (c : Nat) * q := by unfold Abs at t2; exact IntWalk.i64_in _ (by omega)
  have hm3 : IntKind.i64.wrap ((j : Int) - k) = (j : Int) - k := IntWalk.i64_in _ (by omega)
  have hj0 : (0 : Int) ≤ j := by omega
  have hj1 : (j : Int) < n := by omega
  have HB := Lib.hid L0.below
  have ⟨_, m0, m1, m2, _⟩ := L0.ownBox
  clear L0 hr hc1 hb1 t1 t2 e2 hy hu
  go_enter Try.func97, Try.ntmps97
  go_upto_region 1 with fail
  generalize w.alloc (.cells #[.slice (some ⟨b1, o1, none⟩) n p, .int .i64 u, .int .i64 k] 90) = w5 at *
  go_quiet (first | (go_at_call 101; with_reducible exact Calls.quiet_of_same (HC.out _)) | (go_at_call 102; with_reducible exact Calls.quiet_of_same (HP.out _)))
  go_wp2_with fail
  go_ret
  exact ⟨rfl, below_drewN HB.out _⟩
end Go.Proofs.Ytjmefcebldifaab
end
