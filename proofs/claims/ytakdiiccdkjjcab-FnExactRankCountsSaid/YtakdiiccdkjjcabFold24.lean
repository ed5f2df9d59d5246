import Derived.Test.YtakdiiccdkjjcabFold22
import Derived.Test.YtakdiiccdkjjcabFold16
import Derived.Test.YtakdiiccdkjjcabFold10
import Derived.Test.YtakdiiccdkjjcabFold3
import Derived.Test.YtakdiiccdkjjcabFold23
import Derived.Test.YtakdiiccdkjjcabFold21

section
namespace Go.Proofs.Ytakdiiccdkjjcab
open Go.RowKit Go.WideShapes

theorem brk20 : ∀ q : Fin 4, ∀ m : Fin 22, 0 ≤ brk ((q : Nat) : Int) m ∧ brk ((q : Nat) : Int) m ≤ 10000000000 := by decide +kernel
theorem brk_in (q m : Nat) (hq : q ≤ 3) (hm : m ≤ 21) : 0 ≤ brk q m ∧ brk q m ≤ 10000000000 := brk20 ⟨q, by omega⟩ ⟨m, by omega⟩
theorem fV_two : fV 2 = fV2 := rfl
theorem fV_three : fV 3 = fV3 := rfl
theorem isQ_nat {q : Int} (h : isQ q = true) : ∃ n : Nat, q = n ∧ (n = 2 ∨ n = 3) := by
  rcases isQ_cases h with rfl | rfl
  · exact ⟨2, rfl, .inl rfl⟩
  · exact ⟨3, rfl, .inr rfl⟩
theorem fieldOf_yes (q : Nat) (hq : q = 2 ∨ q = 3) (w : World) : Calls Try.prog 133 #[.int .i64 q] w fun e w' => e = .returned (.tuple #[fV q, .bool true]) ∧ w = w' := by
  rcases hq with rfl | rfl
  · exact fieldOf_2 w
  · exact fieldOf_3 w

set_option maxRecDepth 100000 in
set_option maxHeartbeats 1600000 in
theorem bracket_any (q : Nat) (hq : q = 2 ∨ q = 3) (m : Nat) (w : World) (hm : m ≤ 20) :
    Calls Try.prog 136 #[.int .i64 m, fV q] w fun e w' => e = .returned (.int .i64 (brk q m)) ∧ Below w.heap.size w w' := by
  have L0 := (Law.start w).has [fV q] 95
  rw [show (w.alloc (.cells [fV q].toArray 95)) = (w.alloc (.cells #[fV q] 95)) from rfl] at L0
  have HS := Lib.hid (fun (W : World) (L : Law w [tHas w.heap.size [fV q] 95] W) => sumOfTerms_any m 145 #[.pointer (some ⟨w.heap.size, 0, none⟩)] (fun k => (q : Int) ^ k) W (by omega) (fun _ _ => by kernel_rfl)
    (fun j hj w' hb' => by
      have h1 := (L.kept hb').ownHas.cell 0
      simp only [List.getElem?_cons_zero] at h1
      exact bracket1_any q hq w.heap.size j w' (by omega) h1)
    (fun j hj => by
      have h1 := brk_in q (j + 1) (by omega) (by omega)
      rw [brk, sumT] at h1
      exact IntWalk.i64_in _ (by omega)))
  have HL := Lib.hid L0
  clear L0
  rcases hq with rfl | rfl
  · rw [fV_two] at *
    go_enter Try.func136, Try.ntmps136
    go_upto_region 1 with fail
    generalize w.alloc (.cells #[fV2] 95) = w5 at *
    go_wp2_with fail
    refine (HS.out _ HL.out).mono ?_
    rintro e w' ⟨rfl, hb⟩
    have HB := Lib.hid (HL.out.kept hb).below
    clear hb
    go_wp2_with fail
    go_ret
    exact ⟨rfl, HB.out⟩
  · rw [fV_three] at *
    go_enter Try.func136, Try.ntmps136
    go_upto_region 1 with fail
    generalize w.alloc (.cells #[fV3] 95) = w5 at *
    go_wp2_with fail
    refine (HS.out _ HL.out).mono ?_
    rintro e w' ⟨rfl, hb⟩
    have HB := Lib.hid (HL.out.kept hb).below
    clear hb
    go_wp2_with fail
    go_ret
    exact ⟨rfl, HB.out⟩

theorem weBase_any (q : Int) (w : World) : Calls Try.prog 91 #[.int .i64 q] w fun e w' => e = .returned (.bool (isQ q)) ∧ w = w' := by
  have HI := Lib.hid (l1In_any q 2 3)
  rw [show inB 2 q 3 = isQ q by
    rw [Bool.eq_iff_iff, inB_iff]
    simp only [isQ, Bool.or_eq_true, decide_eq_true_eq]
    omega] at HI
  go_enter Try.func91, Try.ntmps91
  go_wp2_with fail
  refine (HI.out _).mono ?_
  rintro e w' ⟨rfl, rfl⟩
  go_wp2_with fail
  go_ret
  exact ⟨rfl, rfl⟩

theorem weB_step (q j : Nat) (hq : q ≤ 3) (hj : j ≤ 19) : wrap64 (brk q j * q) = brk q j * q ∧ wrap64 (brk q j * q + 1) = brk q (j + 1) := by
  have h0 := brk_in q j hq (by omega)
  have h1 := brk_in q (j + 1) hq (by omega)
  have h2 := brk_horner q j
  have h3 : 0 ≤ brk q j * q ∧ brk q j * q ≤ 30000000000 := by
    refine ⟨Int.mul_nonneg h0.1 (by omega), ?_⟩
    have := Int.mul_le_mul h0.2 (show (q : Int) ≤ 3 by omega) (by omega) (by omega)
    omega
  generalize brk q j * q = u at *
  generalize brk q (j + 1) = v at *
  subst h2
  exact ⟨IntWalk.wrap64_in _ (by omega), IntWalk.wrap64_in _ (by omega)⟩
set_option maxHeartbeats 800000 in
theorem weBracket_any (q : Nat) (hq : q ≤ 3) (m : Nat) (w : World) (hm : m ≤ 20) : Calls Try.prog 96 #[.int .i64 m, .int .i64 q] w fun e w' => e = .returned (.int .i64 (brk q m)) ∧ w = w' := by
  have HX := Lib.hid (fun j (hj : j ≤ 19) => weB_step q j hq hj)
  have h00 : brk q 0 = 0 := rfl
  generalize brk q = B at *
  clear hq
  go_enter Try.func96, Try.ntmps96
  go_wp2_with fail
  obtain ⟨M, hM⟩ : ∃ M : Int, M = m := ⟨_, rfl⟩
  rw [← hM]
  have HM := Lib.hid hM
  clear hM
  go_loop [0, 5] (fun i t => ∃ (j : Nat) (k : Int), Hid ((j : Int) + k = M ∧ 0 ≤ k) ∧ i = .int .i64 k ∧ t = .int .i64 (B j)) (fun i _ => (intOf i).toNat)
  case atStart => exact ⟨0, M, Lib.hid ⟨by omega, by rw [HM.out]; omega⟩, rfl, by rw [h00]⟩
  case round =>
    clear h00
    obtain ⟨j, k, HJ, rfl, rfl⟩ := hrel
    by_cases hp : 0 < k
    · have HF := Lib.hid (HX.out j (by have := HJ.out; have := HM.out; omega))
      have hd : wrap64 (k - 1) = k - 1 := IntWalk.wrap64_in _ (by have := HJ.out; have := HM.out; omega)
      have HD := Lib.hid hd
      have HJ2 : Hid (((j + 1 : Nat) : Int) + (k - 1) = M ∧ 0 ≤ k - 1) := Lib.hid (by have := HJ.out; omega)
      clear hd HX HJ
      go_wp2_with fail
      go_round
      case rel => exact ⟨j + 1, k - 1, HJ2, by rw [HD.out], by rw [HF.out.1, HF.out.2]⟩
      case measure => simp only [intOf, HD.out]; omega
    · have hjk : j = m := by have := HJ.out; have := HM.out; omega
      clear HJ HX
      subst hjk
      go_wp2_with fail
      go_ret
      exact ⟨rfl, rfl⟩

def bracketR (m q : Int) : R1 := if isQ q && inB 0 m 20 then ⟨brk q m.toNat, true⟩ else ⟨0, false⟩
end Go.Proofs.Ytakdiiccdkjjcab
end

section
namespace Go.Proofs.Ytakdiiccdkjjcab
open Go.RowKit Go.WideShapes

theorem pow_step (q j : Nat) (hq : q ≤ 3) (hj : j ≤ 38) : wrap64 ((q : Int) ^ j * q) = (q : Int) ^ (j + 1) := by
  have h1 := pow23_in q (j + 1) hq (by omega)
  rw [show (q : Int) ^ j * q = (q : Int) ^ (j + 1) from (Int.pow_succ _ j).symm]
  exact IntWalk.wrap64_in _ (by omega)
set_option maxHeartbeats 800000 in
theorem wePower_any (q : Nat) (hq : q ≤ 3) (K : Int) (w : World) (hm : K ≤ 39) : Calls Try.prog 102 #[.int .i64 q, .int .i64 K] w fun e w' => e = .returned (.int .i64 ((q : Int) ^ K.toNat)) ∧ w = w' := by
  have HX := Lib.hid (fun j (hj : j ≤ 38) => pow_step q j hq hj)
  clear hq
  obtain ⟨M, hM⟩ : ∃ M : Nat, M = K.toNat := ⟨_, rfl⟩
  rw [← hM]
  have HM := Lib.hid hM
  have HK := Lib.hid hm
  clear hM hm
  go_enter Try.func102, Try.ntmps102
  go_wp2_with fail
  go_loop [1, 5] (fun i t => ∃ (j : Nat) (k : Int), Hid ((j : Int) + k.toNat = M ∧ k ≤ 39) ∧ i = .int .i64 k ∧ t = .int .i64 ((q : Int) ^ j)) (fun i _ => (intOf i).toNat)
  case atStart => exact ⟨0, K, Lib.hid ⟨by rw [HM.out]; omega, HK.out⟩, rfl, by simp⟩
  case round =>
    obtain ⟨j, k, HJ, rfl, rfl⟩ := hrel
    by_cases hp : 0 < k
    · have HF := Lib.hid (HX.out j (by have := HJ.out; have := HM.out; have := HK.out; omega))
      have hd : wrap64 (k - 1) = k - 1 := IntWalk.wrap64_in _ (by have := HJ.out; have := HM.out; omega)
      have HD := Lib.hid hd
      have HJ2 : Hid (((j + 1 : Nat) : Int) + (k - 1).toNat = M ∧ k - 1 ≤ 39) := Lib.hid (by have := HJ.out; omega)
      clear hd HX HJ
      go_wp2_with fail
      go_round
      case rel => exact ⟨j + 1, k - 1, HJ2, by rw [HD.out], by rw [HF.out]⟩
      case measure => simp only [intOf, HD.out]; omega
    · have hjk : j = M := by have := HJ.out; omega
      clear HJ HX HM HK
      subst hjk
      go_wp2_with fail
      go_ret
      exact ⟨rfl, rfl⟩

/-- The product so far. -/
def invN (q n : Nat) : Nat → Int
  | 0 => 1
  | i + 1 => invN q n i * ((q : Int) ^ n - (q : Int) ^ i)
theorem inv_chk : ∀ q : Fin 4, ∀ n : Fin 6, ∀ i : Fin 6, (i : Nat) < n → 0 ≤ ((q : Nat) : Int) ^ (n : Nat) - ((q : Nat) : Int) ^ (i : Nat) + 1 ∧ ((q : Nat) : Int) ^ (n : Nat) - ((q : Nat) : Int) ^ (i : Nat) ≤ 1000 ∧ 0 ≤ invN q n (i + 1) + 1000000 ∧ invN q n (i + 1) ≤ 1000000000000 := by decide +kernel
theorem inv_step (q n i : Nat) (hq : q ≤ 3) (hn : n ≤ 5) (hi : i < n) : wrap64 ((q : Int) ^ n - (q : Int) ^ i) = (q : Int) ^ n - (q : Int) ^ i ∧ wrap64 (invN q n i * ((q : Int) ^ n - (q : Int) ^ i)) = invN q n (i + 1) := by
  obtain ⟨a, b, c, d⟩ := inv_chk ⟨q, by omega⟩ ⟨n, by omega⟩ ⟨i, by omega⟩ hi
  simp only at a b c d
  refine ⟨IntWalk.wrap64_in _ (by omega), ?_⟩
  rw [show invN q n i * ((q : Int) ^ n - (q : Int) ^ i) = invN q n (i + 1) from rfl]
  exact IntWalk.wrap64_in _ (by omega)
def invR (n q : Int) : R1 := if isQ q && inB 1 n 5 then ⟨invN q.toNat n.toNat n.toNat, true⟩ else ⟨0, false⟩

end Go.Proofs.Ytakdiiccdkjjcab
end

section
namespace Go.Proofs.Ytakdiiccdkjjcab
open Go.RowKit Go.WideShapes

/-- One term. -/
def trmV (ys : List Int) (x : Int) (k : Nat) : Int := ys.getD k 0 * x ^ k

set_option maxRecDepth 100000 in
set_option maxHeartbeats 1600000 in
theorem value1_any (b1 b2 k q p g o : Nat) (x y : Int) (w : World) (hk : k < q) (h1 : w.cell? ⟨b1, 0, none⟩ = some (.slice (some ⟨g, o, none⟩) q p)) (h2 : w.cell? ⟨b2, 0, none⟩ = some (.int .i64 x)) (h3 : w.cell? ⟨g, o + k, none⟩ = some (.int .i64 y))
    (hP : ∀ W, Calls Try.prog 104 #[.int .i64 x, .int .i64 k] W fun e w' => e = .returned (.int .i64 (x ^ k)) ∧ w' = W) (ht : IntKind.i64.wrap (y * x ^ k) = y * x ^ k) :
    Calls Try.prog 134 (#[.int .i64 k] ++ #[.pointer (some ⟨b1, 0, none⟩), .pointer (some ⟨b2, 0, none⟩)]) w fun e w' => e = .returned (.int .i64 (y * x ^ k)) ∧ Below w.heap.size w w' := by
  have HP := Lib.hid hP
  have hk0 : (0 : Int) ≤ k := by omega
  have hk1 : (k : Int) < q := by omega
  clear hP
  go_enter Try.func134, Try.ntmps134
  go_wp2_with fail
  go_quiet ((go_at_call 104; with_reducible exact Calls.quiet_of_same (HP.out _)))
  go_wp2_with fail
  go_ret
  exact ⟨rfl, below_drewN (Below.refl _ _) _⟩

set_option maxRecDepth 100000 in
set_option maxHeartbeats 1600000 in
theorem valueAt_any (ys : List Int) (x : Int) (a : Option Addr) (p : Nat) (w : World) (hl : ys.length ≤ 1048576) (hr : Reads w a ys.length ys)
    (hP : ∀ k, k < ys.length → ∀ W, Calls Try.prog 104 #[.int .i64 x, .int .i64 k] W fun e w' => e = .returned (.int .i64 (x ^ k)) ∧ w' = W)
    (ht : ∀ k, k < ys.length → IntKind.i64.wrap (trmV ys x k) = trmV ys x k) (hs : ∀ k, k < ys.length → IntKind.i64.wrap (sumT (trmV ys x) k + trmV ys x k) = sumT (trmV ys x) k + trmV ys x k) :
    Calls Try.prog 94 #[.slice a ys.length p, .int .i64 x] w fun e w' => e = .returned (.int .i64 (sumT (trmV ys x) ys.length)) ∧ Below w.heap.size w w' := by
  have L0 := ((Law.start w).has [.slice a ys.length p] 22).has [.int .i64 x] 3
  simp only [World.size_alloc] at L0
  rw [show ((w.alloc (.cells [.slice a ys.length p].toArray 22)).alloc (.cells [.int .i64 x].toArray 3)) = ((w.alloc (.cells #[.slice a ys.length p] 22)).alloc (.cells #[.int .i64 x] 3)) from rfl] at L0
  have HS := Lib.hid (fun (W : World) (L : Law w [tHas (w.heap.size + 1) [.int .i64 x] 3, tHas w.heap.size [.slice a ys.length p] 22] W) => sumOfTerms_any ys.length 134 #[.pointer (some ⟨w.heap.size, 0, none⟩), .pointer (some ⟨w.heap.size + 1, 0, none⟩)] (trmV ys x) W hl (fun _ _ => by kernel_rfl)
    (fun j hj w' hb' => by
      have L2 := L.kept hb'
      obtain ⟨g, o, e, hg, hc⟩ := reads_row (L2.reads hr) (by omega)
      have h1 := L2.tl.ownHas.cell 0
      simp only [List.getElem?_cons_zero] at h1
      have h2 := L2.ownHas.cell 0
      simp only [List.getElem?_cons_zero] at h2
      rw [e] at h1
      exact value1_any w.heap.size (w.heap.size + 1) j ys.length p g o x (ys.getD j 0) w' hj h1 h2 (hc j hj) (hP j hj) (ht j hj))
    hs)
  have HL := Lib.hid L0
  clear L0 hr hP ht hs
  go_enter Try.func94, Try.ntmps94
  go_upto_region 1 with fail
  generalize (w.alloc (.cells #[.slice a ys.length p] 22)).alloc (.cells #[.int .i64 x] 3) = w5 at *
  have f0 := HL.out.tl.ownHas.cell 0
  simp only [List.getElem?_cons_zero] at f0
  go_wp2_with fail
  refine (HS.out _ HL.out).mono ?_
  rintro e w' ⟨rfl, hb⟩
  have HB := Lib.hid (HL.out.kept hb).below
  clear hb
  go_wp2_with fail
  go_ret
  exact ⟨rfl, HB.out⟩
end Go.Proofs.Ytakdiiccdkjjcab
end
