/- Numbers of Stirling and Lah and of partitions, in the specification. No condition. -/
import Derived.Test.YtddmommamcgelaaZa
namespace Go.Proofs.Ytddmommamcgelaa
open Go.RowKit Go.WideShapes

def askedB (n k : Int) : Bool := inB 0 n 10 && inB 0 k n
def triR (kind : Nat) (n k : Int) : R1 := if askedB n k then ⟨(triF kind n.toNat k.toNat : Nat), true⟩ else ⟨0, false⟩
def sumU (f : Nat → Nat) : Nat → Nat
  | 0 => 0
  | k + 1 => sumU f k + f k
def parR (n : Int) : R1 := if inB 0 n 10 then ⟨(sumU (triF 0 n.toNat) (n.toNat + 1) : Nat), true⟩ else ⟨0, false⟩
theorem askedB_facts {n k : Int} (h : askedB n k = true) : ∃ N K : Nat, n = N ∧ k = K ∧ N ≤ 10 ∧ K ≤ N := by
  unfold askedB at h
  rw [Bool.and_eq_true, inB_iff, inB_iff] at h
  exact ⟨n.toNat, k.toNat, by omega, by omega, by omega, by omega⟩
theorem sumU_bd (n k : Nat) (hn : n ≤ 10) (hk : k ≤ n + 1) : sumU (triF 0 n) k ≤ 1000000 := by
  have key : ∀ n : Fin 11, ∀ k : Fin 12, sumU (triF 0 n) k ≤ 1000000 := by decide +kernel
  exact key ⟨n, by omega⟩ ⟨k, by omega⟩

set_option maxHeartbeats 1600000 in
theorem fiAsked_any (n k : Int) (w : World) : Calls Try.prog 61 #[.int .i64 n, .int .i64 k] w fun e w' => e = .returned (.bool (askedB n k)) ∧ w = w' := by
  cases h1 : inB 0 n 10
  · rw [show askedB n k = false by simp [askedB, h1]]
    have H1 := Lib.hid (at_bool (l1In_any n 0 10) h1)
    clear h1
    go_enter Try.func61, Try.ntmps61
    go_wp2_with fail
    refine (H1.out _).mono ?_
    rintro e w1 ⟨rfl, rfl⟩
    go_wp2_with fail
    go_ret
    exact ⟨rfl, rfl⟩
  · have H1 := Lib.hid (at_bool (l1In_any n 0 10) h1)
    have H2 := Lib.hid (l1In_any k 0 n)
    rw [show askedB n k = inB 0 k n by simp [askedB, h1]]
    clear h1
    generalize inB 0 k n = z at *
    go_enter Try.func61, Try.ntmps61
    go_wp2_with fail
    refine (H1.out _).mono ?_
    rintro e w1 ⟨rfl, rfl⟩
    go_wp2_with fail
    refine (H2.out _).mono ?_
    rintro e w1 ⟨rfl, rfl⟩
    go_wp2_with fail
    go_ret
    exact ⟨rfl, rfl⟩

set_option maxRecDepth 100000 in
set_option maxHeartbeats 3200000 in
theorem specStirlingSecond_any (n k : Int) (w : World) : Calls Try.prog 31 #[.int .i64 n, .int .i64 k] w fun e w' => AnsIO (triR 0 n k) w e w' := by
  cases hg : askedB n k
  · rw [show triR 0 n k = ⟨0, false⟩ by simp [triR, hg]]
    have HC := Lib.hid (at_bool (fiAsked_any n k) hg)
    clear hg
    go_enter Try.func31, Try.ntmps31
    go_wp2_with fail
    refine (HC.out _).mono ?_
    rintro e w1 ⟨rfl, rfl⟩
    go_wp2_with fail
    go_ret2
    exact ⟨rfl, Below.refl _ _⟩
  · have HC := Lib.hid (at_bool (fiAsked_any n k) hg)
    obtain ⟨N, K, rfl, rfl, hN, hK⟩ := askedB_facts hg
    rw [show triR 0 N K = ⟨(triF 0 N K : Nat), true⟩ by simp [triR, hg]]
    have HT := Lib.hid (tri0_any N w hN)
    have k0 : (0 : Int) ≤ K := by omega
    have k1 : (K : Int) < (N : Int) + 1 := by omega
    have HK := Lib.hid hK
    clear hg hK hN
    go_enter Try.func31, Try.ntmps31
    go_wp2_with fail
    refine (HC.out _).mono ?_
    rintro e w1 ⟨rfl, hw⟩
    subst w1
    go_wp2_with fail
    refine HT.out.mono ?_
    rintro e w1 ⟨g, p, rfl, hO, hb⟩
    have L := (Law.start w).own hb hO
    have o := L.ownInts
    have ix := Own.cell (by rw [lstL_len]; exact o) K (by rw [lstL_len]; have := HK.out; omega)
    rw [lstL_get _ _ _ (by have := HK.out; omega)] at ix
    have HB := Lib.hid L.below
    clear hO hb HT HC L o
    go_wp2_with fail
    go_ret2
    exact ⟨rfl, HB.out⟩

set_option maxRecDepth 100000 in
set_option maxHeartbeats 3200000 in
theorem specStirlingFirst_any (n k : Int) (w : World) : Calls Try.prog 33 #[.int .i64 n, .int .i64 k] w fun e w' => AnsIO (triR 1 n k) w e w' := by
  cases hg : askedB n k
  · rw [show triR 1 n k = ⟨0, false⟩ by simp [triR, hg]]
    have HC := Lib.hid (at_bool (fiAsked_any n k) hg)
    clear hg
    go_enter Try.func33, Try.ntmps33
    go_wp2_with fail
    refine (HC.out _).mono ?_
    rintro e w1 ⟨rfl, rfl⟩
    go_wp2_with fail
    go_ret2
    exact ⟨rfl, Below.refl _ _⟩
  · have HC := Lib.hid (at_bool (fiAsked_any n k) hg)
    obtain ⟨N, K, rfl, rfl, hN, hK⟩ := askedB_facts hg
    rw [show triR 1 N K = ⟨(triF 1 N K : Nat), true⟩ by simp [triR, hg]]
    have HT := Lib.hid (tri1_any N w hN)
    have k0 : (0 : Int) ≤ K := by omega
    have k1 : (K : Int) < (N : Int) + 1 := by omega
    have HK := Lib.hid hK
    clear hg hK hN
    go_enter Try.func33, Try.ntmps33
    go_wp2_with fail
    refine (HC.out _).mono ?_
    rintro e w1 ⟨rfl, hw⟩
    subst w1
    go_wp2_with fail
    refine HT.out.mono ?_
    rintro e w1 ⟨g, p, rfl, hO, hb⟩
    have L := (Law.start w).own hb hO
    have o := L.ownInts
    have ix := Own.cell (by rw [lstL_len]; exact o) K (by rw [lstL_len]; have := HK.out; omega)
    rw [lstL_get _ _ _ (by have := HK.out; omega)] at ix
    have HB := Lib.hid L.below
    clear hO hb HT HC L o
    go_wp2_with fail
    go_ret2
    exact ⟨rfl, HB.out⟩

set_option maxRecDepth 100000 in
set_option maxHeartbeats 3200000 in
theorem specLahNumber_any (n k : Int) (w : World) : Calls Try.prog 35 #[.int .i64 n, .int .i64 k] w fun e w' => AnsIO (triR 2 n k) w e w' := by
  cases hg : askedB n k
  · rw [show triR 2 n k = ⟨0, false⟩ by simp [triR, hg]]
    have HC := Lib.hid (at_bool (fiAsked_any n k) hg)
    clear hg
    go_enter Try.func35, Try.ntmps35
    go_wp2_with fail
    refine (HC.out _).mono ?_
    rintro e w1 ⟨rfl, rfl⟩
    go_wp2_with fail
    go_ret2
    exact ⟨rfl, Below.refl _ _⟩
  · have HC := Lib.hid (at_bool (fiAsked_any n k) hg)
    obtain ⟨N, K, rfl, rfl, hN, hK⟩ := askedB_facts hg
    rw [show triR 2 N K = ⟨(triF 2 N K : Nat), true⟩ by simp [triR, hg]]
    have HT := Lib.hid (tri2_any N w hN)
    have k0 : (0 : Int) ≤ K := by omega
    have k1 : (K : Int) < (N : Int) + 1 := by omega
    have HK := Lib.hid hK
    clear hg hK hN
    go_enter Try.func35, Try.ntmps35
    go_wp2_with fail
    refine (HC.out _).mono ?_
    rintro e w1 ⟨rfl, hw⟩
    subst w1
    go_wp2_with fail
    refine HT.out.mono ?_
    rintro e w1 ⟨g, p, rfl, hO, hb⟩
    have L := (Law.start w).own hb hO
    have o := L.ownInts
    have ix := Own.cell (by rw [lstL_len]; exact o) K (by rw [lstL_len]; have := HK.out; omega)
    rw [lstL_get _ _ _ (by have := HK.out; omega)] at ix
    have HB := Lib.hid L.below
    clear hO hb HT HC L o
    go_wp2_with fail
    go_ret2
    exact ⟨rfl, HB.out⟩
set_option maxRecDepth 100000 in
set_option maxHeartbeats 3200000 in
theorem specPar_any (n : Int) (w : World) : Calls Try.prog 37 #[.int .i64 n] w fun e w' => AnsIO (parR n) w e w' := by
  cases hg : inB 0 n 10
  · rw [show parR n = ⟨0, false⟩ by simp [parR, hg]]
    have HC := Lib.hid (at_bool (l1In_any n 0 10) hg)
    clear hg
    go_enter Try.func37, Try.ntmps37
    go_wp2_with fail
    refine (HC.out _).mono ?_
    rintro e w1 ⟨rfl, rfl⟩
    go_wp2_with fail
    go_ret2
    exact ⟨rfl, Below.refl _ _⟩
  · have HC := Lib.hid (at_bool (l1In_any n 0 10) hg)
    have h12 := inB_iff.1 hg
    obtain ⟨N, rfl⟩ := Int.eq_ofNat_of_zero_le h12.1
    have hN : N ≤ 10 := by omega
    rw [show parR N = ⟨(sumU (triF 0 N) (N + 1) : Nat), true⟩ by simp [parR, hg]]
    have HT := Lib.hid (tri0_any N w hN)
    have HBD := Lib.hid (fun k hk => sumU_bd N k hN hk)
    clear hg h12
    go_enter Try.func37, Try.ntmps37
    go_wp2_with fail
    refine (HC.out _).mono ?_
    rintro e w1 ⟨rfl, hw⟩
    subst w1
    go_wp2_with fail
    refine HT.out.mono ?_
    rintro e w1 ⟨g, p, rfl, hO, hb⟩
    have HL := Lib.hid ((Law.start w).own hb hO)
    clear hO hb HT HC
    go_wp2_with fail
    go_loop [4, 13] (fun s i => ∃ k : Nat, k ≤ N + 1 ∧ i = .int .i64 k ∧ s = .int .i64 (sumU (triF 0 N) k : Nat)) (fun _ i => N + 1 - (intOf i).toNat)
    case atStart => exact ⟨0, Nat.zero_le _, rfl, rfl⟩
    case round =>
      obtain ⟨k, hk, rfl, rfl⟩ := hrel
      by_cases hlt : k < N + 1
      · have o := HL.out.ownInts
        have ix := Own.cell (by rw [lstL_len]; exact o) k (by rw [lstL_len]; exact hlt)
        rw [lstL_get _ _ _ hlt] at ix
        have hx1 : (k : Int) < (N : Int) + 1 := by omega
        have b1 := HBD.out (k + 1) (by omega)
        have hs : sumU (triF 0 N) (k + 1) = sumU (triF 0 N) k + triF 0 N k := rfl
        rw [hs] at b1
        have HS := Lib.hid hs
        have e1 : ((sumU (triF 0 N) k : Nat) : Int) + (triF 0 N k : Nat) = ((sumU (triF 0 N) k + triF 0 N k : Nat) : Int) := by push_cast; rfl
        have hA : wrap64 (((sumU (triF 0 N) k : Nat) : Int) + (triF 0 N k : Nat)) = ((sumU (triF 0 N) (k + 1) : Nat) : Int) := by rw [e1, ← HS.out]; exact wrap_n9 _ (by rw [HS.out]; exact Nat.le_trans b1 (by decide))
        have HA := Lib.hid hA
        obtain ⟨z1, hz1⟩ : ∃ z1, z1 = sumU (triF 0 N) (k + 1) := ⟨_, rfl⟩
        have HZ := Lib.hid hz1
        rw [← hz1] at HA
        generalize sumU (triF 0 N) k = z0 at *
        generalize triF 0 N k = x at *
        clear o b1 hs e1 hA HS hz1
        go_wp2_with fail
        go_round
        case rel => exact ⟨k + 1, by omega, by go_num, by rw [HA.out, HZ.out]⟩
        case measure => simp [intOf]; omega
      · obtain rfl : k = N + 1 := by omega
        have HB := Lib.hid HL.out.below
        have hx1 : ¬ (((N + 1 : Nat) : Int) < (N : Int) + 1) := by omega
        go_wp2_with fail
        go_ret2
        exact ⟨rfl, HB.out⟩
end Go.Proofs.Ytddmommamcgelaa
