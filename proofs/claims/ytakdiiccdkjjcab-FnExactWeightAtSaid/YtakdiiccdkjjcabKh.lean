/- Brackets and numbers of invertible matrices, in both texts. No condition. -/
import Derived.Test.YtakdiiccdkjjcabKf
import Derived.Test.YtakdiiccdkjjcabKb
import Derived.Test.YtakdiiccdkjjcabI
import Derived.Test.YtakdiiccdkjjcabC
import Derived.Test.YtakdiiccdkjjcabZ
namespace Go.Proofs.Ytakdiiccdkjjcab
open Go.RowKit Go.WideShapes

theorem brk20 : ∀ q : Fin 4, ∀ m : Fin 22, 0 ≤ brk ((q : Nat) : Int) m ∧ brk ((q : Nat) : Int) m ≤ 10000000000 := by decide +kernel
theorem brk_in (q m : Nat) (hq : q ≤ 3) (hm : m ≤ 21) : 0 ≤ brk q m ∧ brk q m ≤ 10000000000 := brk20 ⟨q, by omega⟩ ⟨m, by omega⟩
theorem fV_two : fV 2 = fV2 := rfl
theorem fV_three : fV 3 = fV3 := rfl
theorem isQ_nat {q : Int} (h : isQ q = true) : ∃ n : Nat, q = n ∧ (n = 2 ∨ n = 3) := by
  rcases isQ_cases h with rfl | rfl
  · exact ⟨2, rfl, .inl rfl⟩
  · exact ⟨3, rfl, .inr rfl⟩
theorem fieldOf_yes (q : Nat) (hq : q = 2 ∨ q = 3) (w : World) : Calls Try.prog 133 #[.int .i64 q] w fun e w' => e = .returned (.tuple #[fV q, .bool true]) ∧ w = w' := by
  rcases hq with rfl | rfl
  · exact fieldOf_2 w
  · exact fieldOf_3 w

set_option maxRecDepth 100000 in
set_option maxHeartbeats 1600000 in
theorem bracket_any (q : Nat) (hq : q = 2 ∨ q = 3) (m : Nat) (w : World) (hm : m ≤ 20) :
    Calls Try.prog 136 #[.int .i64 m, fV q] w fun e w' => e = .returned (.int .i64 (brk q m)) ∧ Below w.heap.size w w' := by
  have L0 := (Law.start w).has [fV q] 95
  rw [show (w.alloc (.cells [fV q].toArray 95)) = (w.alloc (.cells #[fV q] 95)) from rfl] at L0
  have HS := Lib.hid (fun (W : World) (L : Law w [tHas w.heap.size [fV q] 95] W) => sumOfTerms_any m 145 #[.pointer (some ⟨w.heap.size, 0, none⟩)] (fun k => (q : Int) ^ k) W (by omega) (fun _ _ => by kernel_rfl)
    (fun j hj w' hb' => by
      have h1 := (L.kept hb').ownHas.cell 0
      simp only [List.getElem?_cons_zero] at h1
      exact bracket1_any q hq w.heap.size j w' (by omega) h1)
    (fun j hj => by
      have h1 := brk_in q (j + 1) (by omega) (by omega)
      rw [brk, sumT] at h1
      exact IntWalk.i64_in _ (by omega)))
  have HL := Lib.hid L0
  clear L0
  rcases hq with rfl | rfl
  · rw [fV_two] at *
    go_enter Try.func136, Try.ntmps136
    go_upto_region 1 with fail
    generalize w.alloc (.cells #[fV2] 95) = w5 at *
    go_wp2_with fail
    refine (HS.out _ HL.out).mono ?_
    rintro e w' ⟨rfl, hb⟩
    have HB := Lib.hid (HL.out.kept hb).below
    clear hb
    go_wp2_with fail
    go_ret
    exact ⟨rfl, HB.out⟩
  · rw [fV_three] at *
    go_enter Try.func136, Try.ntmps136
    go_upto_region 1 with fail
    generalize w.alloc (.cells #[fV3] 95) = w5 at *
    go_wp2_with fail
    refine (HS.out _ HL.out).mono ?_
    rintro e w' ⟨rfl, hb⟩
    have HB := Lib.hid (HL.out.kept hb).below
    clear hb
    go_wp2_with fail
    go_ret
    exact ⟨rfl, HB.out⟩

theorem weBase_any (q : Int) (w : World) : Calls Try.prog 91 #[.int .i64 q] w fun e w' => e = .returned (.bool (isQ q)) ∧ w = w' := by
  have HI := Lib.hid (l1In_any q 2 3)
  rw [show inB 2 q 3 = isQ q by
    rw [Bool.eq_iff_iff, inB_iff]
    simp only [isQ, Bool.or_eq_true, decide_eq_true_eq]
    omega] at HI
  go_enter Try.func91, Try.ntmps91
  go_wp2_with fail
  refine (HI.out _).mono ?_
  rintro e w' ⟨rfl, rfl⟩
  go_wp2_with fail
  go_ret
  exact ⟨rfl, rfl⟩

theorem weB_step (q j : Nat) (hq : q ≤ 3) (hj : j ≤ 19) : wrap64 (brk q j * q) = brk q j * q ∧ wrap64 (brk q j * q + 1) = brk q (j + 1) := by
  have h0 := brk_in q j hq (by omega)
  have h1 := brk_in q (j + 1) hq (by omega)
  have h2 := brk_horner q j
  have h3 : 0 ≤ brk q j * q ∧ brk q j * q ≤ 30000000000 := by
    refine ⟨Int.mul_nonneg h0.1 (by omega), ?_⟩
    have := Int.mul_le_mul h0.2 (show (q : Int) ≤ 3 by omega) (by omega) (by omega)
    omega
  generalize brk q j * q = u at *
  generalize brk q (j + 1) = v at *
  subst h2
  exact ⟨IntWalk.wrap64_in _ (by omega), IntWalk.wrap64_in _ (by omega)⟩
set_option maxHeartbeats 800000 in
theorem weBracket_any (q : Nat) (hq : q ≤ 3) (m : Nat) (w : World) (hm : m ≤ 20) : Calls Try.prog 96 #[.int .i64 m, .int .i64 q] w fun e w' => e = .returned (.int .i64 (brk q m)) ∧ w = w' := by
  have HX := Lib.hid (fun j (hj : j ≤ 19) => weB_step q j hq hj)
  have h00 : brk q 0 = 0 := rfl
  generalize brk q = B at *
  clear hq
  go_enter Try.func96, Try.ntmps96
  go_wp2_with fail
  obtain ⟨M, hM⟩ : ∃ M : Int, M = m := ⟨_, rfl⟩
  rw [← hM]
  have HM := Lib.hid hM
  clear hM
  go_loop [0, 5] (fun i t => ∃ (j : Nat) (k : Int), Hid ((j : Int) + k = M ∧ 0 ≤ k) ∧ i = .int .i64 k ∧ t = .int .i64 (B j)) (fun i _ => (intOf i).toNat)
  case atStart => exact ⟨0, M, Lib.hid ⟨by omega, by rw [HM.out]; omega⟩, rfl, by rw [h00]⟩
  case round =>
    clear h00
    obtain ⟨j, k, HJ, rfl, rfl⟩ := hrel
    by_cases hp : 0 < k
    · have HF := Lib.hid (HX.out j (by have := HJ.out; have := HM.out; omega))
      have hd : wrap64 (k - 1) = k - 1 := IntWalk.wrap64_in _ (by have := HJ.out; have := HM.out; omega)
      have HD := Lib.hid hd
      have HJ2 : Hid (((j + 1 : Nat) : Int) + (k - 1) = M ∧ 0 ≤ k - 1) := Lib.hid (by have := HJ.out; omega)
      clear hd HX HJ
      go_wp2_with fail
      go_round
      case rel => exact ⟨j + 1, k - 1, HJ2, by rw [HD.out], by rw [HF.out.1, HF.out.2]⟩
      case measure => simp only [intOf, HD.out]; omega
    · have hjk : j = m := by have := HJ.out; have := HM.out; omega
      clear HJ HX
      subst hjk
      go_wp2_with fail
      go_ret
      exact ⟨rfl, rfl⟩

def bracketR (m q : Int) : R1 := if isQ q && inB 0 m 20 then ⟨brk q m.toNat, true⟩ else ⟨0, false⟩
end Go.Proofs.Ytakdiiccdkjjcab
