import Derived.Test.YtaipcmplpjkebaaFold28
import Derived.Test.YtaipcmplpjkebaaFold6
namespace Go.Proofs.Ytaipcmplpjkebaa
open Go.RowKit Go.WideShapes

def cplB (n : Int) : R1 := if inB 2 n 10 then ⟨sumT (cplT n.toNat) (n.toNat + 1), true⟩ else ⟨0, false⟩

set_option maxRecDepth 100000 in
set_option maxHeartbeats 1600000 in
theorem implCpl_any (n : Int) (w : World) : Calls Try.prog 20 #[.int .i64 n] w fun e w' => AnsIO (cplB n) w e w' := by
  cases hg : inB 2 n 10
  · rw [show cplB n = ⟨0, false⟩ by simp [cplB, hg]]
    have hno : ¬ (2 ≤ n ∧ n ≤ 10) := fun h => by rw [inB_yes h.1 h.2] at hg; cases hg
    clear hg
    by_cases a : n < 2
    · clear hno
      go_enter Try.func20, Try.ntmps20
      go_wp2_with fail
      go_ret2
      exact ⟨rfl, Below.refl _ _⟩
    · have b : 10 < n := by omega
      clear hno
      go_enter Try.func20, Try.ntmps20
      go_wp2_with fail
      go_ret2
      exact ⟨rfl, Below.refl _ _⟩
  · obtain ⟨h1, h2⟩ := inB_iff.1 hg
    obtain ⟨m, rfl⟩ := Int.eq_ofNat_of_zero_le (show 0 ≤ n by omega)
    rw [show cplB m = ⟨sumT (cplT m) (m + 1), true⟩ by simp [cplB, hg]]
    obtain ⟨d, hd⟩ : ∃ d, m = d + 2 := ⟨m - 2, by omega⟩
    have HC := Lib.hid (hitsBy_any m 65 (tableR m) (tabN d) w (by omega) (fun _ _ => by kernel_rfl) (fun r c hr hc W => atTable_any m r c W (by omega) hr (by omega)) (fun j _ => by rw [hd]; exact wR_table d j) (fun j hj => small_abs m j (tabN d) (by omega) hj (tab_bd d j (by omega) (by omega))))
    have HE := Lib.hid (show hitF m (tabN d) 0 = sumT (cplT m) (m + 1) by rw [hd]; exact cpl_hits d (by omega))
    generalize sumT (cplT m) (m + 1) = z at *
    have i1 : ¬ (m : Int) < 2 := by omega
    have i2 : ¬ (10 : Int) < m := by omega
    have i6 : (0 : Int) < (m : Int) + 1 := by omega
    have i7 : (0 : Int) < ((m + 1 : Nat) : Int) := by omega
    clear hg h1 h2 hd
    go_enter Try.func20, Try.ntmps20
    go_wp2_with fail
    refine HC.out.mono ?_
    rintro e w1 ⟨g, p, rfl, hO, hb⟩
    have L1 := (Law.start w).own hb hO
    have hO2 := L1.ownInts
    have y1 := Own.cell (by rw [lstH_len]; exact hO2) 0 (by rw [lstH_len]; omega)
    rw [lstH_get (m + 1) _ 0 (by omega), HE.out] at y1
    have HB := Lib.hid L1.below
    clear hO hb HC L1 hO2
    go_wp2_with fail
    go_ret2
    exact ⟨rfl, HB.out⟩

theorem fct_bd2 (k : Nat) (hk : k ≤ 12) : 1 ≤ fct k ∧ fct k ≤ 479001600 := fctG_bd k hk
theorem cplT_abs (n k : Nat) (hn : n ≤ 10) (hk : k ≤ n) : Abs 1000000000000 (cplT n k) := by
  have key : ∀ n : Fin 11, ∀ k : Fin 11, (k : Nat) ≤ n → -1000000000000 ≤ cplT n k ∧ cplT n k ≤ 1000000000000 := by decide +kernel
  exact key ⟨n, by omega⟩ ⟨k, by omega⟩ hk
theorem cplW_parts (n k : Nat) (hn : 2 ≤ n) (hn2 : n ≤ 10) (hk : k ≤ n) : 2 * n * chs (2 * n - k) k ≤ 1000000 ∧ cplW n k ≤ 1000000 := by
  have key : ∀ n : Fin 11, ∀ k : Fin 11, (k : Nat) ≤ n → 2 * (n : Nat) * chs (2 * (n : Nat) - (k : Nat)) (k : Nat) ≤ 1000000 ∧ cplW n k ≤ 1000000 := by decide +kernel
  exact key ⟨n, by omega⟩ ⟨k, by omega⟩ hk

set_option maxRecDepth 100000 in
set_option maxHeartbeats 3200000 in
theorem specCpl_any (n : Int) (w : World) : Calls Try.prog 24 #[.int .i64 n] w fun e w' => AnsIO (cplB n) w e w' := by
  have h1 := l1In_any n 2 10 w
  cases hg : inB 2 n 10
  · rw [show cplB n = ⟨0, false⟩ by simp [cplB, hg]]
    rw [hg] at h1
    have H1 := Lib.hid h1
    clear hg h1
    go_enter Try.func24, Try.ntmps24
    go_wp2_with fail
    refine H1.out.mono ?_
    rintro e w1 ⟨rfl, hw⟩
    subst hw
    go_wp2_with fail
    go_ret2
    exact ⟨rfl, Below.refl _ _⟩
  · obtain ⟨n1, n2⟩ := inB_iff.1 hg
    obtain ⟨m, rfl⟩ := Int.eq_ofNat_of_zero_le (show 0 ≤ n by omega)
    rw [show cplB m = ⟨sumT (cplT m) (m + 1), true⟩ by simp [cplB, hg]]
    rw [hg] at h1
    have H1 := Lib.hid h1
    have hm10 : m ≤ 10 := by omega
    have hm2 : 2 ≤ m := by omega
    have hmI : (m : Int) ≤ 10 := by omega
    have hmJ : (2 : Int) ≤ m := by omega
    clear hg h1 n1 n2
    go_enter Try.func24, Try.ntmps24
    go_wp2_with fail
    refine H1.out.mono ?_
    rintro e w1 ⟨rfl, hw⟩
    subst hw
    go_wp2_with fail
    go_loop [4, 5] (fun t i => ∃ k : Nat, k ≤ m + 1 ∧ i = .int .i64 k ∧ t = .int .i64 (sumT (cplT m) k)) (fun _ i => m + 1 - (intOf i).toNat)
    case atStart => exact ⟨0, Nat.zero_le _, rfl, rfl⟩
    case round =>
      obtain ⟨k, hk, rfl, rfl⟩ := hrel
      by_cases hlt : k ≤ m
      · have hle : (k : Int) ≤ m := by omega
        have HC := Lib.hid (fun W => hiChoose_any (2 * m - k) k W (by omega) (by omega))
        have HF := Lib.hid (fun W => hiFactorial_any (m - k) W (by omega))
        obtain ⟨p1, p2⟩ := cplW_parts m k hm2 hm10 hlt
        have hta := cplT_abs m k hm10 hlt
        have hsa : Abs (((k + 1 : Nat) : Int) * 1000000000000) (sumT (cplT m) (k + 1)) := sumT_abs (cplT m) 1000000000000 (k + 1) (fun i hi => cplT_abs m i hm10 (by omega))
        have HS := Lib.hid (show sumT (cplT m) (k + 1) = sumT (cplT m) k + cplT m k from rfl)
        have hu : ((2 * m - k : Nat) : Int) = 2 * (m : Int) - k := by omega
        have hu0 : (2 : Int) * m - k ≠ 0 := by omega
        have huz : ((2 : Int) * m - k == 0) = false := by rw [beq_eq_false_iff_ne]; exact hu0
        have hu1 : (1 : Int) ≤ 2 * m - k := by omega
        rw [hu] at HC
        have hw : cplW m k = 2 * m * chs (2 * m - k) k / (2 * m - k) := rfl
        have hterm : cplT m k = (if k % 2 = 1 then -((cplW m k : Nat) : Int) else (cplW m k : Nat)) * fct (m - k) := rfl
        have hv := fct_bd2 (m - k) (by omega)
        have hpc : 2 * (m : Int) * (chs (2 * m - k) k : Nat) = ((2 * m * chs (2 * m - k) k : Nat) : Int) := by push_cast; rfl
        have hp1 : 2 * (m : Int) * (chs (2 * m - k) k : Nat) ≤ 1000000 := by rw [hpc]; omega
        have hp0 : 0 ≤ 2 * (m : Int) * (chs (2 * m - k) k : Nat) := by rw [hpc]; omega
        have hq2 : (2 * (m : Int) * (chs (2 * m - k) k : Nat)) / (2 * (m : Int) - k) = (cplW m k : Nat) := by rw [hw, ← hu]; push_cast; rfl
        have hq3 : (2 * (m : Int) * (chs (2 * m - k) k : Nat)).tdiv (2 * (m : Int) - k) = (cplW m k : Nat) := by rw [Int.tdiv_eq_ediv_of_nonneg hp0]; exact hq2
        have hs1 : wrap64 ((m : Int) - k) = ((m - k : Nat) : Int) := by rw [show (m : Int) - k = ((m - k : Nat) : Int) by omega]; exact IntWalk.wrap64_in _ (by omega)
        have hs2 : IntKind.i64.wrap ((m : Int) - k) = ((m - k : Nat) : Int) := by rw [show (m : Int) - k = ((m - k : Nat) : Int) by omega]; exact IntWalk.i64_in _ (by omega)
        rw [HS.out] at hsa
        have hk0 : (0 : Int) ≤ k := by omega
        have hk10 : (k : Int) ≤ 10 := by omega
        clear hw p1 hpc
        generalize chs (2 * m - k) k = c at *
        generalize fct (m - k) = v at *
        obtain ⟨tt, htt⟩ : ∃ tt, tt = cplT m k := ⟨_, rfl⟩
        rw [← htt] at HS hta hsa hterm
        generalize cplW m k = x at *
        generalize sumT (cplT m) k = t at *
        have hqq : wrap64 ((2 * (m : Int) * (c : Nat)).tdiv (2 * (m : Int) - k)) = (x : Nat) := by rw [hq3]; exact IntWalk.wrap64_in _ (by omega)
        have hqq2 : wrap64 ((2 * (m : Int) * (c : Nat)) / (2 * (m : Int) - k)) = (x : Nat) := by rw [hq2]; exact IntWalk.wrap64_in _ (by omega)
        have hmt : wrap64 tt = tt := by unfold Abs at hta; exact IntWalk.wrap64_in _ (by omega)
        have hst : wrap64 (t + tt) = t + tt := by unfold Abs at hsa; exact IntWalk.wrap64_in _ (by omega)
        have HTT := Lib.hid htt
        clear htt hta hsa
        rcases Nat.mod_two_eq_zero_or_one k with h | h
        · rw [if_neg (by omega)] at hterm
          have hpar : ((k : Int) % 2 == 1) = false := by rw [show (k : Int) % 2 = ((k % 2 : Nat) : Int) by omega, h]; rfl
          subst hterm
          have HA := Lib.hid hmt
          have HB := Lib.hid hst
          have HQ2 := Lib.hid hq2
          clear hmt hst h hq2 hq3
          go_wp2_with fail
          refine (HC.out _).mono ?_
          rintro e w1 ⟨rfl, rfl⟩
          go_wp2_with fail
          refine (HF.out _).mono ?_
          rintro e w1 ⟨rfl, rfl⟩
          go_wp2_with fail
          go_round
          case rel => exact ⟨k + 1, by omega, by go_num, by rw [HS.out]; simp only [HQ2.out, HA.out, HB.out]⟩
          case measure => simp [intOf]; omega
        · rw [if_pos h] at hterm
          have hpar : ((k : Int) % 2 == 1) = true := by rw [show (k : Int) % 2 = ((k % 2 : Nat) : Int) by omega, h]; rfl
          have hng : wrap64 (-((x : Nat) : Int)) = -((x : Nat) : Int) := IntWalk.wrap64_in _ (by omega)
          subst hterm
          have HA := Lib.hid hmt
          have HB := Lib.hid hst
          have HNG := Lib.hid hng
          have HQ2 := Lib.hid hq2
          clear hmt hst h hq2 hq3 hng
          go_wp2_with fail
          refine (HC.out _).mono ?_
          rintro e w1 ⟨rfl, rfl⟩
          go_wp2_with fail
          refine (HF.out _).mono ?_
          rintro e w1 ⟨rfl, rfl⟩
          go_wp2_with fail
          go_round
          case rel => exact ⟨k + 1, by omega, by go_num, by rw [HS.out]; simp only [HQ2.out, HNG.out, HA.out, HB.out]⟩
          case measure => simp [intOf]; omega
      · obtain rfl : k = m + 1 := by omega
        have hle : ¬ ((m + 1 : Nat) : Int) ≤ m := by omega
        go_wp2_with fail
        go_ret2
        exact ⟨rfl, Below.refl _ _⟩
end Go.Proofs.Ytaipcmplpjkebaa
