import Derived.Test.YtakdiiccdkjjcacFold16
import Derived.Test.YtakdiiccdkjjcacFold23
import Derived.Test.YtakdiiccdkjjcacFold9
import Derived.Test.YtakdiiccdkjjcacFold19
import Derived.Test.YtakdiiccdkjjcacFold3

section
namespace Go.Proofs.Ytakdiiccdkjjcac
open Go.RowKit Go.WideShapes

theorem stir_tri (n k : Nat) (hn : n ≤ 10) (hk : k ≤ n) : stir n (n - k) = triF 0 n k := by
  have key : ∀ n : Fin 11, ∀ k : Fin 11, (k : Nat) ≤ n → stir n (n - k) = triF 0 n k := by decide +kernel
  exact key ⟨n, by omega⟩ ⟨k, by omega⟩ hk
theorem fil_tri (n k : Nat) (hn : n ≤ 10) (hk : k ≤ n) : filF (fun i => (i : Int)) n (n - k) = (triF 1 n k : Nat) := by
  have key : ∀ n : Fin 11, ∀ k : Fin 11, (k : Nat) ≤ n → filF (fun i => (i : Int)) n (n - k) = (triF 1 n k : Nat) := by decide +kernel
  exact key ⟨n, by omega⟩ ⟨k, by omega⟩ hk
theorem filF_congr (c d : Nat → Int) (m : Nat) (h : ∀ i, i < m → c i = d i) : ∀ k, filF c m k = filF d m k := by
  induction m with
  | zero => intro k; rfl
  | succ m ih =>
    intro k
    rw [filF, filF, ih (fun i hi => h i (by omega)), ih (fun i hi => h i (by omega)), h m (by omega)]

theorem isCounted_any (n : Int) (w : World) : Calls Try.prog 136 #[.int .i64 n] w fun e w' => e = .returned (.bool (inB 0 n 10)) ∧ w = w' := by
  by_cases h1 : 0 ≤ n
  · by_cases h2 : n ≤ 10
    · rw [inB_yes h1 h2]
      go_enter Try.func136, Try.ntmps136
      go_wp2
      go_ret
      exact ⟨rfl, rfl⟩
    · rw [inB_no (by omega)]
      go_enter Try.func136, Try.ntmps136
      go_wp2
      go_ret
      exact ⟨ret_bool (by simp <;> omega), rfl⟩
  · rw [inB_no (by omega)]
    go_enter Try.func136, Try.ntmps136
    go_wp2
    go_ret
    exact ⟨ret_bool (by simp <;> omega), rfl⟩

set_option maxHeartbeats 1600000 in
theorem areCounted_any (n k : Int) (w : World) : Calls Try.prog 80 #[.int .i64 n, .int .i64 k] w fun e w' => e = .returned (.bool (askedB n k)) ∧ w = w' := by
  have HI := Lib.hid (isCounted_any n)
  cases hn : inB 0 n 10
  · rw [show askedB n k = false by simp [askedB, hn]]
    rw [hn] at HI
    clear hn
    go_enter Try.func80, Try.ntmps80
    go_wp2_with fail
    refine (HI.out _).mono ?_
    rintro e w1 ⟨rfl, rfl⟩
    go_wp2_with fail
    go_ret
    exact ⟨rfl, rfl⟩
  · rw [show askedB n k = inB 0 k n by simp [askedB, hn]]
    rw [hn] at HI
    clear hn
    by_cases h1 : 0 ≤ k
    · by_cases h2 : k ≤ n
      · rw [inB_yes h1 h2]
        go_enter Try.func80, Try.ntmps80
        go_wp2_with fail
        refine (HI.out _).mono ?_
        rintro e w1 ⟨rfl, rfl⟩
        go_wp2_with fail
        go_ret
        exact ⟨rfl, rfl⟩
      · rw [inB_no (by omega)]
        go_enter Try.func80, Try.ntmps80
        go_wp2_with fail
        refine (HI.out _).mono ?_
        rintro e w1 ⟨rfl, rfl⟩
        go_wp2_with fail
        go_ret
        exact ⟨ret_bool (by simp <;> omega), rfl⟩
    · rw [inB_no (by omega)]
      go_enter Try.func80, Try.ntmps80
      go_wp2_with fail
      refine (HI.out _).mono ?_
      rintro e w1 ⟨rfl, rfl⟩
      go_wp2_with fail
      go_ret
      exact ⟨ret_bool (by simp <;> omega), rfl⟩

set_option maxHeartbeats 1600000 in
theorem arrowRooks_any (n : Nat) (w : World) (hn : n ≤ 10) : Calls Try.prog 137 #[.int .i64 n] w fun e w' => ∃ g p, e = .returned (.slice (some ⟨g, 0, none⟩) (n + 1) p) ∧ Own w' w.heap.size (.slice (some ⟨g, 0, none⟩) (n + 1) p) (lstL (n + 1) (stir n)) ∧ Below w.heap.size w w' := by
  have HC := Lib.hid (rooksBy_any n 132 aboveR (stir n) w (by omega) (fun _ _ => by kernel_rfl) (fun r c _ _ W => above_any n r c W) (fun j _ => by rw [← wR_above n n 0 j (by omega)]))
  go_enter Try.func137, Try.ntmps137
  go_wp2_with fail
  refine HC.out.mono ?_
  rintro e w1 ⟨g, p, rfl, hO, hb⟩
  have HL := Lib.hid ((Law.start w).own hb hO)
  clear hO hb HC
  go_wp2_with fail
  go_ret
  exact ⟨_, _, rfl, HL.out.ownLo, HL.out.below⟩

set_option maxHeartbeats 1600000 in
theorem second_any (n k : Nat) (w : World) (hn : n ≤ 10) (hk : k ≤ n) : Calls Try.prog 81 #[.int .i64 n, .int .i64 k] w fun e w' => e = .returned (.int .i64 (triF 0 n k : Nat)) ∧ Below w.heap.size w w' := by
  have HC := Lib.hid (arrowRooks_any n w hn)
  have HE := Lib.hid (stir_tri n k hn hk)
  have hsb : IntKind.i64.wrap ((n : Int) - k) = ((n - k : Nat) : Int) := by rw [show (n : Int) - k = ((n - k : Nat) : Int) by omega]; exact IntWalk.i64_in _ (by omega)
  have hd : (n : Int) - k = ((n - k : Nat) : Int) := by omega
  obtain ⟨d, hdd⟩ : ∃ d, d = n - k := ⟨_, rfl⟩
  rw [← hdd] at hsb hd HE
  have hdn : d ≤ n := by omega
  have hd0 : (0 : Int) ≤ (n : Int) - k := by omega
  have hd1 : (n : Int) - k < (n : Int) + 1 := by omega
  have HD := Lib.hid hd
  clear hdd hd
  go_enter Try.func81, Try.ntmps81
  go_wp2_with fail
  refine HC.out.mono ?_
  rintro e w1 ⟨g, p, rfl, hO, hb⟩
  have L := (Law.start w).own hb hO
  have o := L.ownInts
  have ix := Own.cell (by rw [lstL_len]; exact o) d (by rw [lstL_len]; omega)
  rw [lstL_get _ _ _ (by omega), HE.out] at ix
  have HB := Lib.hid L.below
  clear hO hb HC L o
  go_wp2_with fail
  go_ret
  exact ⟨rfl, HB.out⟩

set_option maxRecDepth 100000 in
set_option maxHeartbeats 1600000 in
theorem first_any (n k : Nat) (w : World) (hn : n ≤ 10) (hk : k ≤ n) : Calls Try.prog 82 #[.int .i64 n, .int .i64 k] w fun e w' => e = .returned (.int .i64 (triF 1 n k : Nat)) ∧ Below w.heap.size w w' := by
  have HC := Lib.hid (indices_any n w (by omega))
  have hgi : ∀ i, 0 ≤ (idx0 n).getD i 0 ∧ (idx0 n).getD i 0 ≤ 11 := fun i => by
    by_cases h : i < n
    · rw [show (idx0 n).getD i 0 = (i : Int) from lstI_get n _ i h]; omega
    · rw [List.getD_eq_getElem?_getD, List.getElem?_eq_none (by rw [show (idx0 n).length = n from lstI_len _ _]; omega)]
      simp
  have HFN := Lib.hid (fun (a : Option Addr) (p : Nat) (W : World) (h : Reads W a n (idx0 n)) => fileNumbers_any n (idx0 n) a p W (lstI_len _ _) (by omega) hgi h)
  have HE := Lib.hid (show filF (fun i => (idx0 n).getD i 0) n (n - k) = (triF 1 n k : Nat) by
    rw [filF_congr (fun i => (idx0 n).getD i 0) (fun i => (i : Int)) n (fun i hi => lstI_get n _ i hi) (n - k)]
    exact fil_tri n k hn hk)
  have hsb : IntKind.i64.wrap ((n : Int) - k) = ((n - k : Nat) : Int) := by rw [show (n : Int) - k = ((n - k : Nat) : Int) by omega]; exact IntWalk.i64_in _ (by omega)
  have hd : (n : Int) - k = ((n - k : Nat) : Int) := by omega
  obtain ⟨d, hdd⟩ : ∃ d, d = n - k := ⟨_, rfl⟩
  rw [← hdd] at hsb hd HE
  have hdn : d ≤ n := by omega
  have hd0 : (0 : Int) ≤ (n : Int) - k := by omega
  have hd1 : (n : Int) - k < (n : Int) + 1 := by omega
  have HD := Lib.hid hd
  clear hdd hd hgi
  go_enter Try.func82, Try.ntmps82
  go_wp2_with fail
  refine HC.out.mono ?_
  rintro e w0 ⟨g0, rfl, hO, hb⟩
  have L := (Law.start w).own hb hO
  have hrd : Reads w0 (some ⟨g0, 0, none⟩) n (idx0 n) := by
    obtain ⟨a, q, e, h⟩ := hO.reads
    rw [show (idx0 n).length = n from lstI_len _ _] at e h
    cases e
    exact h
  have HL := Lib.hid L
  have HRD := Lib.hid hrd
  clear hO hb HC L hrd
  go_wp2_with fail
  refine (HFN.out _ _ _ HRD.out).mono ?_
  rintro e w1 ⟨g, rfl, hO, hb⟩
  have L := HL.out.own hb hO
  have o := L.ownInts
  have ix := Own.cell (by rw [lstH_len]; exact o) d (by rw [lstH_len]; omega)
  rw [lstH_get _ _ _ (by omega), HE.out] at ix
  have HB := Lib.hid L.below
  clear hO hb L o HL HFN HRD
  go_wp2_with fail
  go_ret
  exact ⟨rfl, HB.out⟩

set_option maxRecDepth 100000 in
set_option maxHeartbeats 1600000 in
theorem implStirlingSecond_any (n k : Int) (w : World) : Calls Try.prog 28 #[.int .i64 n, .int .i64 k] w fun e w' => AnsIO (triR 0 n k) w e w' := by
  cases hg : askedB n k
  · rw [show triR 0 n k = ⟨0, false⟩ by simp [triR, hg]]
    have HC := Lib.hid (at_bool (areCounted_any n k) hg)
    clear hg
    go_enter Try.func28, Try.ntmps28
    go_wp2_with fail
    refine (HC.out _).mono ?_
    rintro e w1 ⟨rfl, rfl⟩
    go_wp2_with fail
    go_ret2
    exact ⟨rfl, Below.refl _ _⟩
  · have HC := Lib.hid (at_bool (areCounted_any n k) hg)
    obtain ⟨N, K, rfl, rfl, hN, hK⟩ := askedB_facts hg
    rw [show triR 0 N K = ⟨(triF 0 N K : Nat), true⟩ by simp [triR, hg]]
    have HT := Lib.hid (second_any N K w hN hK)
    generalize triF 0 N K = z at *
    clear hg hK hN
    go_enter Try.func28, Try.ntmps28
    go_wp2_with fail
    refine (HC.out _).mono ?_
    rintro e w1 ⟨rfl, hw⟩
    subst w1
    go_wp2_with fail
    refine HT.out.mono ?_
    rintro e w1 ⟨rfl, hb⟩
    have HB := Lib.hid hb
    clear hb
    go_wp2_with fail
    go_ret2
    exact ⟨rfl, HB.out⟩

set_option maxRecDepth 100000 in
set_option maxHeartbeats 1600000 in
theorem implStirlingFirst_any (n k : Int) (w : World) : Calls Try.prog 29 #[.int .i64 n, .int .i64 k] w fun e w' => AnsIO (triR 1 n k) w e w' := by
  cases hg : askedB n k
  · rw [show triR 1 n k = ⟨0, false⟩ by simp [triR, hg]]
    have HC := Lib.hid (at_bool (areCounted_any n k) hg)
    clear hg
    go_enter Try.func29, Try.ntmps29
    go_wp2_with fail
    refine (HC.out _).mono ?_
    rintro e w1 ⟨rfl, rfl⟩
    go_wp2_with fail
    go_ret2
    exact ⟨rfl, Below.refl _ _⟩
  · have HC := Lib.hid (at_bool (areCounted_any n k) hg)
    obtain ⟨N, K, rfl, rfl, hN, hK⟩ := askedB_facts hg
    rw [show triR 1 N K = ⟨(triF 1 N K : Nat), true⟩ by simp [triR, hg]]
    have HT := Lib.hid (first_any N K w hN hK)
    generalize triF 1 N K = z at *
    clear hg hK hN
    go_enter Try.func29, Try.ntmps29
    go_wp2_with fail
    refine (HC.out _).mono ?_
    rintro e w1 ⟨rfl, hw⟩
    subst w1
    go_wp2_with fail
    refine HT.out.mono ?_
    rintro e w1 ⟨rfl, hb⟩
    have HB := Lib.hid hb
    clear hb
    go_wp2_with fail
    go_ret2
    exact ⟨rfl, HB.out⟩
/-- What the cycles with so many more blocks bring. -/
def lahT (n k j : Nat) : Int := ((triF 1 n (k + j) * triF 0 (k + j) k : Nat) : Int)
theorem lah_facts (n k j : Nat) (hn : n ≤ 10) (hj : k + j ≤ n) : 0 ≤ lahT n k j ∧ lahT n k j ≤ 40000000 ∧ 0 ≤ sumT (lahT n k) j ∧ sumT (lahT n k) j ≤ 40000000 := by
  have key : ∀ n : Fin 11, ∀ k : Fin 11, ∀ j : Fin 11, (k : Nat) + j ≤ n → 0 ≤ lahT n k j ∧ lahT n k j ≤ 40000000 ∧ 0 ≤ sumT (lahT n k) j ∧ sumT (lahT n k) j ≤ 40000000 := by decide +kernel
  exact key ⟨n, by omega⟩ ⟨k, by omega⟩ ⟨j, by omega⟩ hj
theorem lah_sum (n k : Nat) (hn : n ≤ 10) (hk : k ≤ n) : sumT (lahT n k) (n - k + 1) = (triF 2 n k : Nat) := by
  have key : ∀ n : Fin 11, ∀ k : Fin 11, (k : Nat) ≤ n → sumT (lahT n k) (n - k + 1) = (triF 2 n k : Nat) := by decide +kernel
  exact key ⟨n, by omega⟩ ⟨k, by omega⟩ hk


theorem par_sum (n : Nat) (hn : n ≤ 10) : sumT (trmV (lstL (n + 1) (stir n)) 1) (n + 1) = (sumU (triF 0 n) (n + 1) : Nat) := by
  have key : ∀ n : Fin 11, sumT (trmV (lstL (n + 1) (stir n)) 1) (n + 1) = (sumU (triF 0 n) (n + 1) : Nat) := by decide +kernel
  exact key ⟨n, by omega⟩
theorem par_facts (n k : Nat) (hn : n ≤ 10) (hk : k < n + 1) : 0 ≤ trmV (lstL (n + 1) (stir n)) 1 k ∧ trmV (lstL (n + 1) (stir n)) 1 k ≤ 1000000 ∧ 0 ≤ sumT (trmV (lstL (n + 1) (stir n)) 1) k ∧ sumT (trmV (lstL (n + 1) (stir n)) 1) k ≤ 1000000 := by
  have key : ∀ n : Fin 11, ∀ k : Fin 11, 0 ≤ trmV (lstL (n + 1) (stir n)) 1 k ∧ trmV (lstL (n + 1) (stir n)) 1 k ≤ 1000000 ∧ 0 ≤ sumT (trmV (lstL (n + 1) (stir n)) 1) k ∧ sumT (trmV (lstL (n + 1) (stir n)) 1) k ≤ 1000000 := by decide +kernel
  exact key ⟨n, by omega⟩ ⟨k, by omega⟩
end Go.Proofs.Ytakdiiccdkjjcac
end

section
namespace Go.Proofs.Ytakdiiccdkjjcac
open Go.RowKit Go.WideShapes



end Go.Proofs.Ytakdiiccdkjjcac
end

section
namespace Go.Proofs.Ytakdiiccdkjjcac
open Go.RowKit Go.WideShapes

theorem fiThings_any (n : Int) (w : World) : Calls Try.prog 76 #[.int .i64 n] w fun e w' => e = .returned (.bool (inB 1 n 6)) ∧ w = w' := by
  go_enter Try.func76, Try.ntmps76
  go_wp2_with (go_at_call 71; refine (l1In_any _ _ _ _).mono ?_; rintro e w' ⟨rfl, rfl⟩)
  go_ret
  exact ⟨rfl, rfl⟩
theorem isThings_any (n : Int) (w : World) : Calls Try.prog 74 #[.int .i64 n] w fun e w' => e = .returned (.bool (inB 1 n 6)) ∧ w = w' := by
  by_cases h1 : 1 ≤ n
  · by_cases h2 : n ≤ 6
    · rw [inB_yes h1 h2]
      go_enter Try.func74, Try.ntmps74
      go_wp2
      go_ret
      exact ⟨rfl, rfl⟩
    · rw [inB_no (by omega)]
      go_enter Try.func74, Try.ntmps74
      go_wp2
      go_ret
      exact ⟨ret_bool (by simp <;> omega), rfl⟩
  · rw [inB_no (by omega)]
    go_enter Try.func74, Try.ntmps74
    go_wp2
    go_ret
    exact ⟨ret_bool (by simp <;> omega), rfl⟩

end Go.Proofs.Ytakdiiccdkjjcac
end
