import Derived.Test.YtaipcmplpjkebaaFold4
import Derived.Test.YtaipcmplpjkebaaFold5
import Derived.Deep.RegionHeld3
import Derived.Deep.RegionWith
import Derived.IntWalk
import Derived.Laws.EntriesVeiled
import Derived.BigQuiet

section
namespace Go.Proofs.Ytaipcmplpjkebaa
open Go.RowKit Go.WideShapes

theorem Has.two {w : World} {b : Nat} {v0 v1 : Value} {t : TypeId} (h : Has w b [v0, v1] t) :
    w.cell? ⟨b, 0, none⟩ = some v0 ∧ w.cell? ⟨b, 1, none⟩ = some v1 ∧ ∀ o, w.frozen? ⟨b, o, none⟩ = false :=
  ⟨h.cell 0, h.cell 1, h.free⟩
/-- The block of a sum. -/
abbrev sumV (F : FuncId) (cap : Array Value) (t : Int) : List Value := [.func (.func F) #[] cap, .int .i64 t]

set_option maxRecDepth 100000 in
set_option maxHeartbeats 3200000 in
theorem add_any (b : Nat) (F : FuncId) (cap : Array Value) (t x v : Int) (w : World)
    (hcall : ∀ (args : Array Value) (w : World), (callFunc F args).run Try.prog w = .ok (.enter F args) w)
    (H : Has w b (sumV F cap t) 104)
    (hF : ∀ w', Below w.heap.size w w' → Calls Try.prog F (#[.int .i64 x] ++ cap) w' fun e w'' => e = .returned (.int .i64 v) ∧ Below w'.heap.size w' w'')
    (hs : IntKind.i64.wrap (t + v) = t + v) :
    Calls Try.prog 136 #[.pointer (some ⟨b, 0, none⟩), .int .i64 x] w fun e w' => e = .returned (.bool true) ∧ Chg (fun k => k = b) w w' ∧ Has w' b (sumV F cap (t + v)) 104 := by
  have hlt := H.lt
  obtain ⟨e0, e1, ef⟩ := (show Has w.drew b (sumV F cap t) 104 from H.drew).two
  have HF := Lib.hid hF
  have HH := Lib.hid H
  clear H hF
  go_enter Try.func136, Try.ntmps136
  go_wp2_with fail
  go_region_with (((refine (HF.out _ (Below.refl _ _).drew).mono ?_); rintro e w1 ⟨rfl, hb⟩; have m0 := cell_later hb e0; have m1 := cell_later hb e1; have mf := (hb.frozen (p := ⟨b, 1, none⟩) hlt).trans (ef 1); have HB := Lib.hid hb; clear hb))
  all_goals
    have HN := Lib.hid (((HH.out.drew).kept HB.out hlt).set 1 (.int .i64 (t + v)))
    have HCg := Lib.hid (show Chg (fun k => k = b) w (w1.setCell ⟨b, 1, none⟩ (.int .i64 (t + v))) from ((Chg.of_below (Below.refl _ _).drew).trans (Chg.of_below HB.out)).trans ⟨rfl, rfl, rfl, by simp [World.setCell], fun k _ hf => Below.heap_setCell w1 ⟨b, 1, none⟩ _ k hf⟩)
    go_wp2_with fail
    go_ret
    exact ⟨rfl, HCg.out, HN.out⟩


set_option maxRecDepth 100000 in
set_option maxHeartbeats 1600000 in
theorem sumOfTerms_any (n : Nat) (F : FuncId) (cap : Array Value) (f : Nat → Int) (w : World) (hn : n ≤ 1048576)
    (hcall : ∀ (args : Array Value) (w : World), (callFunc F args).run Try.prog w = .ok (.enter F args) w)
    (hF : ∀ j, j < n → ∀ w', Below w.heap.size w w' → Calls Try.prog F (#[.int .i64 j] ++ cap) w' fun e w'' => e = .returned (.int .i64 (f j)) ∧ Below w'.heap.size w' w'')
    (hs : ∀ j, j < n → IntKind.i64.wrap (sumT f j + f j) = sumT f j + f j) :
    Calls Try.prog 132 #[.int .i64 n, .func (.func F) #[] cap] w fun e w' => e = .returned (.int .i64 (sumT f n)) ∧ Below w.heap.size w w' := by
  have L0 := (Law.start w).has (sumV F cap 0) 104
  have HL := Lib.hid L0
  have HF := Lib.hid hF
  have HW := Lib.hid hs
  clear L0 hF hs
  go_enter Try.func132, Try.ntmps132
  go_wp2_with fail
  go_loopw [6] (fun v wr => ∃ j : Nat, j ≤ n ∧ v = .int .i64 j ∧ Law w [tHas w.heap.size (sumV F cap (sumT f j)) 104] wr) (fun v _ => n - (intOf v).toNat)
  case atStart => exact ⟨0, Nat.zero_le _, rfl, HL.out⟩
  case round =>
    clear HL
    obtain ⟨j, hj, rfl, L⟩ := hrel
    by_cases hlt : j < n
    · have HA := Lib.hid (add_any w.heap.size F cap (sumT f j) j (f j) wr hcall L.ownHas (fun w' hb => HF.out j hlt w' (below_on L.below hb)) (HW.out j hlt))
      have HL := Lib.hid L
      clear L
      go_wp2_with fail
      refine HA.out.mono ?_
      rintro e w2 ⟨rfl, hc, hh⟩
      have HS := Lib.hid (Law.write (ts := []) (t := tHas w.heap.size (sumV F cap (sumT f j)) 104) HL.out hc (tHas w.heap.size (sumV F cap (sumT f (j + 1))) 104) rfl hh)
      clear hc hh HA HL
      go_wp2_with fail
      go_roundw
      case rel => exact ⟨j + 1, by omega, by go_num, HS.out⟩
      case measure => simp [intOf]; omega
    · obtain rfl : j = n := by omega
      obtain ⟨e0, e1, _⟩ := L.ownHas.two
      have HB := Lib.hid L.below
      clear L
      go_wp2_with fail
      go_ret
      exact ⟨rfl, HB.out⟩

end Go.Proofs.Ytaipcmplpjkebaa
end

section
namespace Go.Proofs.Ytaipcmplpjkebaa
open Go.RowKit Go.WideShapes

theorem falG_abs (x : Int) (hx : Abs 20 x) (k : Nat) (hk : k ≤ 12) : Abs ((32 ^ k : Nat) : Int) (fal x k) := by
  induction k with
  | zero => simp [fal, Abs]
  | succ k ih =>
    rw [fal, Nat.pow_succ]
    exact (ih (by omega)).mul (show Abs ((32 : Nat) : Int) (x - k) by unfold Abs at *; omega)
theorem falG_bd (x : Int) (hx : Abs 20 x) (k : Nat) (hk : k ≤ 12) : Abs 1152921504606846976 (fal x k) :=
  (falG_abs x hx k hk).mono (by
    have h2 : 32 ^ k ≤ 32 ^ 12 := Nat.pow_le_pow_right (by omega) hk
    have h3 : 32 ^ 12 = 1152921504606846976 := by decide
    omega)
theorem falG_wrap (x : Int) (hx : Abs 20 x) (j : Nat) (hj : j ≤ 11) : wrap64 (fal x j * (x - j)) = fal x (j + 1) := by
  have h1 := falG_bd x hx (j + 1) (by omega)
  rw [show fal x j * (x - j) = fal x (j + 1) from rfl]
  unfold Abs at h1
  exact IntWalk.wrap64_in _ (by omega)
theorem fctG_bd (k : Nat) (hk : k ≤ 12) : 1 ≤ fct k ∧ fct k ≤ 479001600 := by
  have key : ∀ k : Fin 13, 1 ≤ fct k ∧ fct k ≤ 479001600 := by decide +kernel
  exact key ⟨k, by omega⟩
theorem chsG_le (n k : Nat) (hn : n ≤ 12) (hk : k ≤ 12) : chs n k ≤ 924 := by
  have key : ∀ n : Fin 13, ∀ k : Fin 13, chs n k ≤ 924 := by decide +kernel
  exact key ⟨n, by omega⟩ ⟨k, by omega⟩
theorem chsG_div (n k : Nat) (hn : n ≤ 12) (hk : k ≤ 12) : wrap64 ((fal n k).tdiv (fct k)) = chs n k ∧ fct k ≠ 0 := by
  have key : ∀ n : Fin 13, ∀ k : Fin 13, wrap64 ((fal ((n : Nat) : Int) (k : Nat)).tdiv (fct (k : Nat))) = (chs (n : Nat) (k : Nat) : Nat) ∧ fct (k : Nat) ≠ 0 := by decide +kernel
  exact key ⟨n, by omega⟩ ⟨k, by omega⟩

set_option maxHeartbeats 800000 in
theorem fallingG_any (x : Int) (k : Nat) (w : World) (hx : Abs 20 x) (hk : k ≤ 12) : Calls Try.prog 123 #[.int .i64 x, .int .i64 k] w fun e w' => e = .returned (.int .i64 (fal x k)) ∧ w' = w := by
  have HX := Lib.hid hx
  unfold Abs at hx
  obtain ⟨x1, x2⟩ := hx
  go_enter Try.func123, Try.ntmps123
  go_wp2_with fail
  go_loop [5, 6] (fun t i => ∃ j : Nat, j ≤ k ∧ i = .int .i64 j ∧ t = .int .i64 (fal x j)) (fun _ i => k - (intOf i).toNat)
  case atStart => exact ⟨0, Nat.zero_le _, rfl, rfl⟩
  case round =>
    obtain ⟨j, hj, rfl, rfl⟩ := hrel
    by_cases hlt : j < k
    · have hm := falG_wrap x HX.out j (by omega)
      go_wp2_with fail
      go_round
      case rel => exact ⟨j + 1, by omega, by go_num, by first | rfl | rw [hm]⟩
      case measure => simp [intOf]; omega
    · obtain rfl : j = k := by omega
      go_wp2_with fail
      go_ret
      exact ⟨rfl, rfl⟩
set_option maxHeartbeats 800000 in
theorem factG_any (k : Nat) (w : World) (hk : k ≤ 12) : Calls Try.prog 104 #[.int .i64 k] w fun e w' => e = .returned (.int .i64 (fct k)) ∧ w' = w := by
  have HF := Lib.hid (fallingG_any k k w (by unfold Abs; omega) hk)
  go_enter Try.func104, Try.ntmps104
  go_wp2_with fail
  refine HF.out.mono ?_
  rintro e w' ⟨rfl, hww⟩
  subst hww
  go_wp2_with fail
  go_ret
  exact ⟨rfl, rfl⟩
set_option maxHeartbeats 800000 in
theorem choicesG_any (n k : Nat) (w : World) (hn : n ≤ 12) (hk : k ≤ 12) : Calls Try.prog 134 #[.int .i64 n, .int .i64 k] w fun e w' => e = .returned (.int .i64 (chs n k : Nat)) ∧ w' = w := by
  have HF := Lib.hid (fallingG_any n k w (by unfold Abs; omega) (by omega))
  have HG := Lib.hid (factG_any k w (by omega))
  obtain ⟨h1, h2⟩ := chsG_div n k hn hk
  have HM := Lib.hid h1
  have hb := fctG_bd k (by omega)
  have h0 : (fct k == 0) = false := by rw [beq_eq_false_iff_ne]; exact h2
  generalize fal n k = u at *
  generalize fct k = v at *
  clear h1
  go_enter Try.func134, Try.ntmps134
  go_wp2_with fail
  refine HF.out.mono ?_
  rintro e w' ⟨rfl, hww⟩
  subst hww
  go_wp2_with fail
  refine HG.out.mono ?_
  rintro e w' ⟨rfl, hww⟩
  subst hww
  go_wp2_with fail
  go_ret
  exact ⟨ret_int HM.out, rfl⟩

/-- 1 or -1. -/
def Unit1 (x : Int) : Prop := x = 1 ∨ x = -1
theorem unit_pow {x : Int} (h : Unit1 x) (k : Nat) : Unit1 (x ^ k) := by
  induction k with
  | zero => exact .inl (Int.pow_zero x)
  | succ k ih =>
    rw [Int.pow_succ]
    unfold Unit1 at *
    rcases ih with e | e <;> rcases h with h | h <;> rw [e, h] <;> simp
theorem unit_abs {x : Int} (h : Unit1 x) : Abs ((1 : Nat) : Int) x := by
  unfold Unit1 at h
  unfold Abs
  omega
set_option maxHeartbeats 800000 in
theorem powU_any (x e : Int) (w : World) (hx : Unit1 x) (he : e ≤ 12) : Calls Try.prog 135 #[.int .i64 x, .int .i64 e] w fun r w' => r = .returned (.int .i64 (x ^ e.toNat)) ∧ w' = w := by
  have HX := Lib.hid hx
  clear hx
  go_enter Try.func135, Try.ntmps135
  go_wp2_with fail
  go_loop [5, 6] (fun t i => ∃ j : Nat, j ≤ e.toNat ∧ i = .int .i64 j ∧ t = .int .i64 (x ^ j)) (fun _ i => e.toNat - (intOf i).toNat)
  case atStart => exact ⟨0, Nat.zero_le _, rfl, by simp⟩
  case round =>
    obtain ⟨j, hj, rfl, rfl⟩ := hrel
    by_cases hlt : (j : Int) < e
    · have h1 := unit_abs (unit_pow HX.out (j + 1))
      have hm : wrap64 (x ^ j * x) = x ^ (j + 1) := by rw [show x ^ j * x = x ^ (j + 1) from (Int.pow_succ x j).symm]; unfold Abs at h1; exact IntWalk.wrap64_in _ (by omega)
      clear h1
      go_wp2_with fail
      go_round
      case rel => exact ⟨j + 1, by omega, by go_num, by first | rfl | rw [hm]⟩
      case measure => simp [intOf]; omega
    · obtain rfl : j = e.toNat := by omega
      go_wp2_with fail
      go_ret
      exact ⟨rfl, rfl⟩

/-- One term of what shifting the variable does. -/
def shT (ys : List Int) (u : Int) (k j : Nat) : Int := ys.getD j 0 * (chs j k : Nat) * u ^ (j - k)
theorem shT_abs (ys : List Int) (u : Int) (hu : Unit1 u) (k j : Nat) (hk : k ≤ 12) (hj : j ≤ 12) (hy : Abs 1000000000000 (ys.getD j 0)) : Abs 924000000000000 (ys.getD j 0 * (chs j k : Nat)) ∧ Abs 924000000000000 (shT ys u k j) := by
  have h1 := chsG_le j k hj hk
  have h2 : Abs 924000000000000 (ys.getD j 0 * (chs j k : Nat)) := (Abs.mul (a := 1000000000000) (b := 924) hy (by unfold Abs; omega)).mono (by decide)
  exact ⟨h2, (Abs.mul (a := 924000000000000) (b := 1) h2 (unit_abs (unit_pow hu _))).mono (by decide)⟩
theorem shS_abs (ys : List Int) (u : Int) (hu : Unit1 u) (k n : Nat) (hk : k ≤ 12) (hn : n ≤ 13) (hy : ∀ j, j < n → Abs 1000000000000 (ys.getD j 0)) : Abs 12012000000000000 (sumT (shT ys u k) n) :=
  (sumT_abs _ 924000000000000 n (fun j hj => (shT_abs ys u hu k j hk (by omega) (hy j hj)).2)).mono (by omega)

set_option maxRecDepth 100000 in
set_option maxHeartbeats 1600000 in
theorem addedBy_any (ys : List Int) (u : Int) (k j n : Nat) (a : Option Addr) (p : Nat) (w : World) (hu : Unit1 u) (hk : k ≤ 12) (hj : j < n) (hn : n ≤ 13) (hy : Abs 1000000000000 (ys.getD j 0)) (hr : Reads w a n ys) :
    Calls Try.prog 125 #[.agg #[.slice a n p, .int .i64 u, .int .i64 k], .int .i64 j] w fun e w' => e = .returned (.int .i64 (shT ys u k j)) ∧ Below w.heap.size w w' := by
  have L0 := (Law.start w).box (.slice a n p) (.int .i64 u) (.int .i64 k) 96
  obtain ⟨b1, o1, rfl, hb1, hc1⟩ := reads_row (L0.reads hr) (by omega)
  have hcj := hc1 j hj
  have HC := Lib.hid (fun W => choicesG_any j k W (by omega) hk)
  have HP := Lib.hid (fun W => powU_any u ((j : Int) - k) W hu (by omega))
  obtain ⟨t1, t2⟩ := shT_abs ys u hu k j hk (by omega) hy
  have e2 : ((j : Int) - k).toNat = j - k := by omega
  rw [e2] at HP
  unfold shT at t2 ⊢
  generalize ys.getD j 0 = y at *
  generalize chs j k = c at *
  generalize u ^ (j - k) = q at *
  have hm1 : IntKind.i64.wrap (y * (c : Nat)) = y * (c : Nat) := by unfold Abs at t1; exact IntWalk.i64_in _ (by omega)
  have hm2 : IntKind.i64.wrap (y * (c : Nat) * q) = y * (c : Nat) * q := by unfold Abs at t2; exact IntWalk.i64_in _ (by omega)
  have hm3 : IntKind.i64.wrap ((j : Int) - k) = (j : Int) - k := IntWalk.i64_in _ (by omega)
  have hj0 : (0 : Int) ≤ j := by omega
  have hj1 : (j : Int) < n := by omega
  have HB := Lib.hid L0.below
  have ⟨_, m0, m1, m2, _⟩ := L0.ownBox
  clear L0 hr hc1 hb1 t1 t2 e2 hy hu
  go_enter Try.func125, Try.ntmps125
  go_upto_region 1 with fail
  generalize w.alloc (.cells #[.slice (some ⟨b1, o1, none⟩) n p, .int .i64 u, .int .i64 k] 96) = w5 at *
  go_quiet (first | (go_at_call 134; with_reducible exact Calls.quiet_of_same (HC.out _)) | (go_at_call 135; with_reducible exact Calls.quiet_of_same (HP.out _)))
  go_wp2_with fail
  go_ret
  exact ⟨rfl, below_drewN HB.out _⟩
end Go.Proofs.Ytaipcmplpjkebaa
end
