/- Powers of the specification; the number of invertible matrices, in both texts. No condition. -/
import Derived.Test.YtakdiiccdkjjcabKh
namespace Go.Proofs.Ytakdiiccdkjjcab
open Go.RowKit Go.WideShapes

theorem pow_step (q j : Nat) (hq : q ≤ 3) (hj : j ≤ 38) : wrap64 ((q : Int) ^ j * q) = (q : Int) ^ (j + 1) := by
  have h1 := pow23_in q (j + 1) hq (by omega)
  rw [show (q : Int) ^ j * q = (q : Int) ^ (j + 1) from (Int.pow_succ _ j).symm]
  exact IntWalk.wrap64_in _ (by omega)
set_option maxHeartbeats 800000 in
theorem wePower_any (q : Nat) (hq : q ≤ 3) (K : Int) (w : World) (hm : K ≤ 39) : Calls Try.prog 102 #[.int .i64 q, .int .i64 K] w fun e w' => e = .returned (.int .i64 ((q : Int) ^ K.toNat)) ∧ w = w' := by
  have HX := Lib.hid (fun j (hj : j ≤ 38) => pow_step q j hq hj)
  clear hq
  obtain ⟨M, hM⟩ : ∃ M : Nat, M = K.toNat := ⟨_, rfl⟩
  rw [← hM]
  have HM := Lib.hid hM
  have HK := Lib.hid hm
  clear hM hm
  go_enter Try.func102, Try.ntmps102
  go_wp2_with fail
  go_loop [1, 5] (fun i t => ∃ (j : Nat) (k : Int), Hid ((j : Int) + k.toNat = M ∧ k ≤ 39) ∧ i = .int .i64 k ∧ t = .int .i64 ((q : Int) ^ j)) (fun i _ => (intOf i).toNat)
  case atStart => exact ⟨0, K, Lib.hid ⟨by rw [HM.out]; omega, HK.out⟩, rfl, by simp⟩
  case round =>
    obtain ⟨j, k, HJ, rfl, rfl⟩ := hrel
    by_cases hp : 0 < k
    · have HF := Lib.hid (HX.out j (by have := HJ.out; have := HM.out; have := HK.out; omega))
      have hd : wrap64 (k - 1) = k - 1 := IntWalk.wrap64_in _ (by have := HJ.out; have := HM.out; omega)
      have HD := Lib.hid hd
      have HJ2 : Hid (((j + 1 : Nat) : Int) + (k - 1).toNat = M ∧ k - 1 ≤ 39) := Lib.hid (by have := HJ.out; omega)
      clear hd HX HJ
      go_wp2_with fail
      go_round
      case rel => exact ⟨j + 1, k - 1, HJ2, by rw [HD.out], by rw [HF.out]⟩
      case measure => simp only [intOf, HD.out]; omega
    · have hjk : j = M := by have := HJ.out; omega
      clear HJ HX HM HK
      subst hjk
      go_wp2_with fail
      go_ret
      exact ⟨rfl, rfl⟩

/-- The product so far. -/
def invN (q n : Nat) : Nat → Int
  | 0 => 1
  | i + 1 => invN q n i * ((q : Int) ^ n - (q : Int) ^ i)
theorem inv_chk : ∀ q : Fin 4, ∀ n : Fin 6, ∀ i : Fin 6, (i : Nat) < n → 0 ≤ ((q : Nat) : Int) ^ (n : Nat) - ((q : Nat) : Int) ^ (i : Nat) + 1 ∧ ((q : Nat) : Int) ^ (n : Nat) - ((q : Nat) : Int) ^ (i : Nat) ≤ 1000 ∧ 0 ≤ invN q n (i + 1) + 1000000 ∧ invN q n (i + 1) ≤ 1000000000000 := by decide +kernel
theorem inv_step (q n i : Nat) (hq : q ≤ 3) (hn : n ≤ 5) (hi : i < n) : wrap64 ((q : Int) ^ n - (q : Int) ^ i) = (q : Int) ^ n - (q : Int) ^ i ∧ wrap64 (invN q n i * ((q : Int) ^ n - (q : Int) ^ i)) = invN q n (i + 1) := by
  obtain ⟨a, b, c, d⟩ := inv_chk ⟨q, by omega⟩ ⟨n, by omega⟩ ⟨i, by omega⟩ hi
  simp only at a b c d
  refine ⟨IntWalk.wrap64_in _ (by omega), ?_⟩
  rw [show invN q n i * ((q : Int) ^ n - (q : Int) ^ i) = invN q n (i + 1) from rfl]
  exact IntWalk.wrap64_in _ (by omega)
def invR (n q : Int) : R1 := if isQ q && inB 1 n 5 then ⟨invN q.toNat n.toNat n.toNat, true⟩ else ⟨0, false⟩

end Go.Proofs.Ytakdiiccdkjjcab
