import Derived.Test.YtaipcmplpjkebaaFold28
import Derived.Test.YtaipcmplpjkebaaFold6
namespace Go.Proofs.Ytaipcmplpjkebaa
open Go.RowKit Go.WideShapes

def derW (n k : Int) : R1 := if inB 0 n 12 && inB 0 k n then ⟨(chs n.toNat k.toNat * der (n.toNat - k.toNat) : Nat), true⟩ else ⟨0, false⟩
def derB (n : Int) : R1 := if inB 0 n 12 then ⟨(der n.toNat : Nat), true⟩ else ⟨0, false⟩
theorem derW_zero (n : Int) : derW n 0 = derB n := by
  unfold derW derB
  cases h : inB 0 n 12
  · rfl
  · have := inB_iff.1 h
    rw [inB_yes (Int.le_refl 0) this.1]
    simp [chs_nil]

set_option maxRecDepth 100000 in
set_option maxHeartbeats 1600000 in
theorem implDerW_any (n k : Int) (w : World) : Calls Try.prog 19 #[.int .i64 n, .int .i64 k] w fun e w' => AnsIO (derW n k) w e w' := by
  cases hg : inB 0 n 12 && inB 0 k n
  · rw [show derW n k = ⟨0, false⟩ by simp [derW, hg]]
    have hno : n < 0 ∨ 12 < n ∨ k < 0 ∨ n < k := by
      by_cases a : n < 0
      · exact .inl a
      · by_cases b : 12 < n
        · exact .inr (.inl b)
        · by_cases c : k < 0
          · exact .inr (.inr (.inl c))
          · by_cases d : n < k
            · exact .inr (.inr (.inr d))
            · rw [inB_yes (by omega) (by omega), inB_yes (by omega) (by omega)] at hg; cases hg
    clear hg
    by_cases a : n < 0
    · clear hno
      go_enter Try.func19, Try.ntmps19
      go_wp2_with fail
      go_ret2
      exact ⟨rfl, Below.refl _ _⟩
    · by_cases b : 12 < n
      · clear hno
        go_enter Try.func19, Try.ntmps19
        go_wp2_with fail
        go_ret2
        exact ⟨rfl, Below.refl _ _⟩
      · by_cases c : k < 0
        · clear hno
          go_enter Try.func19, Try.ntmps19
          go_wp2_with fail
          go_ret2
          exact ⟨rfl, Below.refl _ _⟩
        · have d : n < k := by omega
          clear hno
          go_enter Try.func19, Try.ntmps19
          go_wp2_with fail
          go_ret2
          exact ⟨rfl, Below.refl _ _⟩
  · have hg2 := hg
    rw [Bool.and_eq_true, inB_iff, inB_iff] at hg2
    obtain ⟨⟨h1, h2⟩, h3, h4⟩ := hg2
    obtain ⟨m, rfl⟩ := Int.eq_ofNat_of_zero_le h1
    obtain ⟨q, rfl⟩ := Int.eq_ofNat_of_zero_le h3
    rw [show derW m q = ⟨(chs m q * der (m - q) : Nat), true⟩ by simp [derW, hg]]
    have hm : m ≤ 12 := by omega
    have hq : q ≤ m := by omega
    have HC := Lib.hid (hitsBy_any m 61 diagR (chs m) w hm (fun _ _ => by kernel_rfl) (fun r c _ _ W => onDiag_any m r c W) (fun j _ => wR_diag m m 0 0 j (by omega) (by simp)) (fun j hj => der_abs m j hm hj))
    have HE := Lib.hid (der_hits m q hm hq)
    have i1 : ¬ (m : Int) < 0 := by omega
    have i2 : ¬ (12 : Int) < m := by omega
    have i3 : ¬ (q : Int) < 0 := by omega
    have i4 : ¬ (m : Int) < q := by omega
    have i5 : (0 : Int) ≤ q := by omega
    have i6 : (q : Int) < (m : Int) + 1 := by omega
    have i7 : (q : Int) < ((m + 1 : Nat) : Int) := by omega
    have HQ := Lib.hid hq
    clear hg h1 h2 h3 h4 hm hq
    go_enter Try.func19, Try.ntmps19
    go_wp2_with fail
    refine HC.out.mono ?_
    rintro e w1 ⟨g, p, rfl, hO, hb⟩
    have L1 := (Law.start w).own hb hO
    have hO2 := L1.ownInts
    have y1 := Own.cell (by rw [lstH_len]; exact hO2) q (by rw [lstH_len]; have := HQ.out; omega)
    rw [lstH_get (m + 1) _ q (by have := HQ.out; omega), HE.out] at y1
    have HB := Lib.hid L1.below
    clear hO hb HC L1 hO2
    go_wp2_with fail
    go_ret2
    exact ⟨rfl, HB.out⟩

set_option maxHeartbeats 800000 in
theorem implDer_any (n : Int) (w : World) : Calls Try.prog 16 #[.int .i64 n] w fun e w' => AnsIO (derB n) w e w' := by
  have hc := implDerW_any n 0 w
  rw [derW_zero] at hc
  have HC := Lib.hid hc
  clear hc
  generalize derB n = R at *
  go_enter Try.func16, Try.ntmps16
  go_wp2_with fail
  refine HC.out.mono ?_
  rintro e w1 ⟨rfl, hb⟩
  have HB := Lib.hid hb
  clear hb HC
  go_wp2_with fail
  go_ret2
  exact ⟨rfl, HB.out⟩

set_option maxHeartbeats 1600000 in
theorem hiDeranged_any (n : Nat) (w : World) (hn : n ≤ 12) : Calls Try.prog 72 #[.int .i64 n] w fun e w' => e = .returned (.int .i64 (der n : Nat)) ∧ w' = w := by
  have hn12 : (n : Int) ≤ 12 := by omega
  by_cases h0 : n = 0
  · subst h0
    go_enter Try.func72, Try.ntmps72
    go_wp2_with fail
    go_loop [3, 4, 5] (fun a b i => a = .int .i64 1 ∧ b = .int .i64 0 ∧ i = .int .i64 2) (fun _ _ _ => 0)
    case atStart => exact ⟨rfl, rfl, rfl⟩
    case round =>
      obtain ⟨rfl, rfl, rfl⟩ := hrel
      simp only [show ((0 : Nat) : Int) = 0 from rfl]
      go_wp2_with fail
      go_ret
      exact ⟨rfl, rfl⟩
  · have hz : ((n : Int) == 0) = false := by rw [beq_eq_false_iff_ne]; omega
    go_enter Try.func72, Try.ntmps72
    go_wp2_with fail
    go_loop [3, 4, 5] (fun a b i => ∃ q : Nat, q + 1 ≤ n ∧ i = .int .i64 ((q + 2 : Nat) : Int) ∧ a = .int .i64 (der q : Nat) ∧ b = .int .i64 (der (q + 1) : Nat)) (fun _ _ i => n + 2 - (intOf i).toNat)
    case atStart => exact ⟨0, by omega, rfl, rfl, rfl⟩
    case round =>
      obtain ⟨q, hq, rfl, rfl, rfl⟩ := hrel
      by_cases hlt : q + 2 ≤ n
      · have hle : ((q + 2 : Nat) : Int) ≤ n := by omega
        have b1 := der_bd q (by omega)
        have b2 := der_bd (q + 1) (by omega)
        have b3 := der_bd (q + 2) (by omega)
        have HN := Lib.hid (show der (q + 2) = (q + 1) * (der q + der (q + 1)) from rfl)
        have s1 : ((q + 2 : Nat) : Int) - 1 = ((q + 1 : Nat) : Int) := by omega
        have s2 : ((der q : Nat) : Int) + (der (q + 1) : Nat) = ((der q + der (q + 1) : Nat) : Int) := by push_cast; rfl
        have s3 : ((q + 1 : Nat) : Int) * ((der q + der (q + 1) : Nat) : Int) = ((der (q + 2) : Nat) : Int) := by rw [HN.out]; push_cast; rfl
        have hm : wrap64 ((((q + 2 : Nat) : Int) - 1) * (((der q : Nat) : Int) + (der (q + 1) : Nat))) = ((der (q + 2) : Nat) : Int) := by rw [s1, s2, s3]; exact IntWalk.wrap64_in _ (by omega)
        have HM := Lib.hid hm
        clear s1 s2 s3 hm
        clear HN
        obtain ⟨z, hz2⟩ : ∃ z, z = der (q + 2) := ⟨_, rfl⟩
        obtain ⟨y, hy2⟩ : ∃ y, y = der (q + 1) := ⟨_, rfl⟩
        rw [← hz2] at HM b3
        rw [← hy2] at HM b2 ⊢
        have HZ := Lib.hid hz2
        have HY := Lib.hid hy2
        clear hz2 hy2
        generalize der q = x at *
        obtain ⟨i, hi⟩ : ∃ i : Nat, i = q + 2 := ⟨_, rfl⟩
        rw [← hi] at hle HM ⊢
        have HI := Lib.hid hi
        have hi2 : (2 : Int) ≤ i := by omega
        clear hi
        go_wp2_with fail
        go_round
        case rel => exact ⟨q + 1, by omega, by have := HI.out; subst this; go_num, by rw [HY.out], by first | rw [HM.out, HZ.out] | (rw [← HZ.out]; first | rfl | rw [HM.out])⟩
        case measure => simp [intOf]; omega
      · obtain rfl : n = q + 1 := by omega
        have hle : ¬ ((q + 2 : Nat) : Int) ≤ ((q + 1 : Nat) : Int) := by omega
        go_wp2_with fail
        go_ret
        exact ⟨rfl, rfl⟩

set_option maxHeartbeats 1600000 in
theorem specDerW_any (n k : Int) (w : World) : Calls Try.prog 28 #[.int .i64 n, .int .i64 k] w fun e w' => AnsIO (derW n k) w e w' := by
  have h1 := l1In_any n 0 12 w
  have h2 := l1In_any k 0 n w
  cases hn : inB 0 n 12
  · rw [show derW n k = ⟨0, false⟩ by simp [derW, hn]]
    rw [hn] at h1
    have H1 := Lib.hid h1
    clear hn h1 h2
    go_enter Try.func28, Try.ntmps28
    go_wp2_with fail
    refine H1.out.mono ?_
    rintro e w1 ⟨rfl, hw⟩
    subst hw
    go_wp2_with fail
    go_ret2
    exact ⟨rfl, Below.refl _ _⟩
  · cases hk : inB 0 k n
    · rw [show derW n k = ⟨0, false⟩ by simp [derW, hk]]
      rw [hn] at h1
      rw [hk] at h2
      have H1 := Lib.hid h1
      have H2 := Lib.hid h2
      clear hn hk h1 h2
      go_enter Try.func28, Try.ntmps28
      go_wp2_with fail
      refine H1.out.mono ?_
      rintro e w1 ⟨rfl, hw⟩
      subst hw
      go_wp2_with fail
      refine H2.out.mono ?_
      rintro e w1 ⟨rfl, hw⟩
      subst hw
      go_wp2_with fail
      go_ret2
      exact ⟨rfl, Below.refl _ _⟩
    · obtain ⟨n1, n2⟩ := inB_iff.1 hn
      obtain ⟨k1, k2⟩ := inB_iff.1 hk
      obtain ⟨m, rfl⟩ := Int.eq_ofNat_of_zero_le n1
      obtain ⟨q, rfl⟩ := Int.eq_ofNat_of_zero_le k1
      rw [show derW m q = ⟨(chs m q * der (m - q) : Nat), true⟩ by simp [derW, hn, hk]]
      rw [hn] at h1
      rw [hk] at h2
      have H1 := Lib.hid h1
      have H2 := Lib.hid h2
      have hm12 : m ≤ 12 := by omega
      have hqm : q ≤ m := by omega
      have HC := Lib.hid (fun W => hiChoose_any m q W (by omega) (by omega))
      have HD := Lib.hid (fun W => hiDeranged_any (m - q) W (by omega))
      have hsb : wrap64 ((m : Int) - q) = ((m - q : Nat) : Int) := by rw [show (m : Int) - q = ((m - q : Nat) : Int) by omega]; exact IntWalk.wrap64_in _ (by omega)
      have hsb2 : IntKind.i64.wrap ((m : Int) - q) = ((m - q : Nat) : Int) := by rw [show (m : Int) - q = ((m - q : Nat) : Int) by omega]; exact IntWalk.i64_in _ (by omega)
      have b1 := chsG_le m q hm12 (by omega)
      have b2 := der_bd (m - q) (by omega)
      have b3 : chs m q * der (m - q) ≤ 924 * 176214841 := Nat.mul_le_mul b1 b2
      have hml : wrap64 (((chs m q : Nat) : Int) * (der (m - q) : Nat)) = ((chs m q * der (m - q) : Nat) : Int) := by rw [show ((chs m q : Nat) : Int) * (der (m - q) : Nat) = ((chs m q * der (m - q) : Nat) : Int) by push_cast; rfl]; exact IntWalk.wrap64_in _ (by omega)
      have HM := Lib.hid hml
      clear hn hk h1 h2 n1 n2 k1 k2 b1 b2 b3 hml
      generalize chs m q * der (m - q) = z at *
      generalize chs m q = x at *
      obtain ⟨d, hd⟩ : ∃ d, d = m - q := ⟨_, rfl⟩
      rw [← hd] at HD HM hsb hsb2
      generalize der d = y at *
      have HDD := Lib.hid hd
      clear hd hqm hm12
      go_enter Try.func28, Try.ntmps28
      go_wp2_with fail
      refine H1.out.mono ?_
      rintro e w1 ⟨rfl, hw⟩
      subst hw
      go_wp2_with fail
      refine H2.out.mono ?_
      rintro e w1 ⟨rfl, hw⟩
      subst hw
      go_wp2_with fail
      refine (HC.out _).mono ?_
      rintro e w1 ⟨rfl, rfl⟩
      go_wp2_with fail
      refine (HD.out _).mono ?_
      rintro e w1 ⟨rfl, rfl⟩
      go_wp2_with fail
      go_ret2
      exact ⟨by rw [HM.out]; rfl, Below.refl _ _⟩

set_option maxHeartbeats 800000 in
theorem specDer_any (n : Int) (w : World) : Calls Try.prog 22 #[.int .i64 n] w fun e w' => AnsIO (derB n) w e w' := by
  have H1 := Lib.hid (l1In_any n 0 12 w)
  cases hg : inB 0 n 12
  · rw [show derB n = ⟨0, false⟩ by simp [derB, hg]]
    rw [hg] at H1
    clear hg
    go_enter Try.func22, Try.ntmps22
    go_wp2_with fail
    refine H1.out.mono ?_
    rintro e w1 ⟨rfl, hw⟩
    subst hw
    go_wp2_with fail
    go_ret2
    exact ⟨rfl, Below.refl _ _⟩
  · obtain ⟨h1, h2⟩ := inB_iff.1 hg
    obtain ⟨m, rfl⟩ := Int.eq_ofNat_of_zero_le h1
    rw [show derB m = ⟨(der m : Nat), true⟩ by simp [derB, hg]]
    rw [hg] at H1
    have HD := Lib.hid (fun W => hiDeranged_any m W (by omega))
    clear hg h1 h2
    go_enter Try.func22, Try.ntmps22
    go_wp2_with fail
    refine H1.out.mono ?_
    rintro e w1 ⟨rfl, hw⟩
    subst hw
    go_wp2_with fail
    refine (HD.out _).mono ?_
    rintro e w1 ⟨rfl, rfl⟩
    go_wp2_with fail
    go_ret2
    exact ⟨rfl, Below.refl _ _⟩
end Go.Proofs.Ytaipcmplpjkebaa
