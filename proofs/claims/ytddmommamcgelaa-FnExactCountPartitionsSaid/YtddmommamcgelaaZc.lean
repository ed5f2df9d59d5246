/- Numbers of Stirling and of partitions, in the program. No condition. -/
import Derived.Test.YtddmommamcgelaaZb
import Derived.Test.YtddmommamcgelaaZr
import Derived.Test.YtddmommamcgelaaZd
import Derived.Test.YtddmommamcgelaaQi
import Derived.Test.YtddmommamcgelaaKv
namespace Go.Proofs.Ytddmommamcgelaa
open Go.RowKit Go.WideShapes

theorem stir_tri (n k : Nat) (hn : n ≤ 10) (hk : k ≤ n) : stir n (n - k) = triF 0 n k := by
  have key : ∀ n : Fin 11, ∀ k : Fin 11, (k : Nat) ≤ n → stir n (n - k) = triF 0 n k := by decide +kernel
  exact key ⟨n, by omega⟩ ⟨k, by omega⟩ hk
theorem fil_tri (n k : Nat) (hn : n ≤ 10) (hk : k ≤ n) : filF (fun i => (i : Int)) n (n - k) = (triF 1 n k : Nat) := by
  have key : ∀ n : Fin 11, ∀ k : Fin 11, (k : Nat) ≤ n → filF (fun i => (i : Int)) n (n - k) = (triF 1 n k : Nat) := by decide +kernel
  exact key ⟨n, by omega⟩ ⟨k, by omega⟩ hk
theorem filF_congr (c d : Nat → Int) (m : Nat) (h : ∀ i, i < m → c i = d i) : ∀ k, filF c m k = filF d m k := by
  induction m with
  | zero => intro k; rfl
  | succ m ih =>
    intro k
    rw [filF, filF, ih (fun i hi => h i (by omega)), ih (fun i hi => h i (by omega)), h m (by omega)]

theorem isCounted_any (n : Int) (w : World) : Calls Try.prog 68 #[.int .i64 n] w fun e w' => e = .returned (.bool (inB 0 n 10)) ∧ w = w' := by
  by_cases h1 : 0 ≤ n
  · by_cases h2 : n ≤ 10
    · rw [inB_yes h1 h2]
      go_enter Try.func68, Try.ntmps68
      go_wp2
      go_ret
      exact ⟨rfl, rfl⟩
    · rw [inB_no (by omega)]
      go_enter Try.func68, Try.ntmps68
      go_wp2
      go_ret
      exact ⟨ret_bool (by simp <;> omega), rfl⟩
  · rw [inB_no (by omega)]
    go_enter Try.func68, Try.ntmps68
    go_wp2
    go_ret
    exact ⟨ret_bool (by simp <;> omega), rfl⟩

set_option maxHeartbeats 1600000 in
theorem areCounted_any (n k : Int) (w : World) : Calls Try.prog 63 #[.int .i64 n, .int .i64 k] w fun e w' => e = .returned (.bool (askedB n k)) ∧ w = w' := by
  have HI := Lib.hid (isCounted_any n)
  cases hn : inB 0 n 10
  · rw [show askedB n k = false by simp [askedB, hn]]
    rw [hn] at HI
    clear hn
    go_enter Try.func63, Try.ntmps63
    go_wp2_with fail
    refine (HI.out _).mono ?_
    rintro e w1 ⟨rfl, rfl⟩
    go_wp2_with fail
    go_ret
    exact ⟨rfl, rfl⟩
  · rw [show askedB n k = inB 0 k n by simp [askedB, hn]]
    rw [hn] at HI
    clear hn
    by_cases h1 : 0 ≤ k
    · by_cases h2 : k ≤ n
      · rw [inB_yes h1 h2]
        go_enter Try.func63, Try.ntmps63
        go_wp2_with fail
        refine (HI.out _).mono ?_
        rintro e w1 ⟨rfl, rfl⟩
        go_wp2_with fail
        go_ret
        exact ⟨rfl, rfl⟩
      · rw [inB_no (by omega)]
        go_enter Try.func63, Try.ntmps63
        go_wp2_with fail
        refine (HI.out _).mono ?_
        rintro e w1 ⟨rfl, rfl⟩
        go_wp2_with fail
        go_ret
        exact ⟨ret_bool (by simp <;> omega), rfl⟩
    · rw [inB_no (by omega)]
      go_enter Try.func63, Try.ntmps63
      go_wp2_with fail
      refine (HI.out _).mono ?_
      rintro e w1 ⟨rfl, rfl⟩
      go_wp2_with fail
      go_ret
      exact ⟨ret_bool (by simp <;> omega), rfl⟩

set_option maxHeartbeats 1600000 in
theorem arrowRooks_any (n : Nat) (w : World) (hn : n ≤ 10) : Calls Try.prog 70 #[.int .i64 n] w fun e w' => ∃ g p, e = .returned (.slice (some ⟨g, 0, none⟩) (n + 1) p) ∧ Own w' w.heap.size (.slice (some ⟨g, 0, none⟩) (n + 1) p) (lstL (n + 1) (stir n)) ∧ Below w.heap.size w w' := by
  have HC := Lib.hid (rooksBy_any n 54 aboveR (stir n) w (by omega) (fun _ _ => by kernel_rfl) (fun r c _ _ W => above_any n r c W) (fun j _ => by rw [← wR_above n n 0 j (by omega)]))
  go_enter Try.func70, Try.ntmps70
  go_wp2_with fail
  refine HC.out.mono ?_
  rintro e w1 ⟨g, p, rfl, hO, hb⟩
  have HL := Lib.hid ((Law.start w).own hb hO)
  clear hO hb HC
  go_wp2_with fail
  go_ret
  exact ⟨_, _, rfl, HL.out.ownLo, HL.out.below⟩

set_option maxHeartbeats 1600000 in
theorem second_any (n k : Nat) (w : World) (hn : n ≤ 10) (hk : k ≤ n) : Calls Try.prog 64 #[.int .i64 n, .int .i64 k] w fun e w' => e = .returned (.int .i64 (triF 0 n k : Nat)) ∧ Below w.heap.size w w' := by
  have HC := Lib.hid (arrowRooks_any n w hn)
  have HE := Lib.hid (stir_tri n k hn hk)
  have hsb : IntKind.i64.wrap ((n : Int) - k) = ((n - k : Nat) : Int) := by rw [show (n : Int) - k = ((n - k : Nat) : Int) by omega]; exact IntWalk.i64_in _ (by omega)
  have hd : (n : Int) - k = ((n - k : Nat) : Int) := by omega
  obtain ⟨d, hdd⟩ : ∃ d, d = n - k := ⟨_, rfl⟩
  rw [← hdd] at hsb hd HE
  have hdn : d ≤ n := by omega
  have hd0 : (0 : Int) ≤ (n : Int) - k := by omega
  have hd1 : (n : Int) - k < (n : Int) + 1 := by omega
  have HD := Lib.hid hd
  clear hdd hd
  go_enter Try.func64, Try.ntmps64
  go_wp2_with fail
  refine HC.out.mono ?_
  rintro e w1 ⟨g, p, rfl, hO, hb⟩
  have L := (Law.start w).own hb hO
  have o := L.ownInts
  have ix := Own.cell (by rw [lstL_len]; exact o) d (by rw [lstL_len]; omega)
  rw [lstL_get _ _ _ (by omega), HE.out] at ix
  have HB := Lib.hid L.below
  clear hO hb HC L o
  go_wp2_with fail
  go_ret
  exact ⟨rfl, HB.out⟩

set_option maxRecDepth 100000 in
set_option maxHeartbeats 1600000 in
theorem first_any (n k : Nat) (w : World) (hn : n ≤ 10) (hk : k ≤ n) : Calls Try.prog 65 #[.int .i64 n, .int .i64 k] w fun e w' => e = .returned (.int .i64 (triF 1 n k : Nat)) ∧ Below w.heap.size w w' := by
  have HC := Lib.hid (indices_any n w (by omega))
  have hgi : ∀ i, 0 ≤ (idx0 n).getD i 0 ∧ (idx0 n).getD i 0 ≤ 11 := fun i => by
    by_cases h : i < n
    · rw [show (idx0 n).getD i 0 = (i : Int) from lstI_get n _ i h]; omega
    · rw [List.getD_eq_getElem?_getD, List.getElem?_eq_none (by rw [show (idx0 n).length = n from lstI_len _ _]; omega)]
      simp
  have HFN := Lib.hid (fun (a : Option Addr) (p : Nat) (W : World) (h : Reads W a n (idx0 n)) => fileNumbers_any n (idx0 n) a p W (lstI_len _ _) (by omega) hgi h)
  have HE := Lib.hid (show filF (fun i => (idx0 n).getD i 0) n (n - k) = (triF 1 n k : Nat) by
    rw [filF_congr (fun i => (idx0 n).getD i 0) (fun i => (i : Int)) n (fun i hi => lstI_get n _ i hi) (n - k)]
    exact fil_tri n k hn hk)
  have hsb : IntKind.i64.wrap ((n : Int) - k) = ((n - k : Nat) : Int) := by rw [show (n : Int) - k = ((n - k : Nat) : Int) by omega]; exact IntWalk.i64_in _ (by omega)
  have hd : (n : Int) - k = ((n - k : Nat) : Int) := by omega
  obtain ⟨d, hdd⟩ : ∃ d, d = n - k := ⟨_, rfl⟩
  rw [← hdd] at hsb hd HE
  have hdn : d ≤ n := by omega
  have hd0 : (0 : Int) ≤ (n : Int) - k := by omega
  have hd1 : (n : Int) - k < (n : Int) + 1 := by omega
  have HD := Lib.hid hd
  clear hdd hd hgi
  go_enter Try.func65, Try.ntmps65
  go_wp2_with fail
  refine HC.out.mono ?_
  rintro e w0 ⟨g0, rfl, hO, hb⟩
  have L := (Law.start w).own hb hO
  have hrd : Reads w0 (some ⟨g0, 0, none⟩) n (idx0 n) := by
    obtain ⟨a, q, e, h⟩ := hO.reads
    rw [show (idx0 n).length = n from lstI_len _ _] at e h
    cases e
    exact h
  have HL := Lib.hid L
  have HRD := Lib.hid hrd
  clear hO hb HC L hrd
  go_wp2_with fail
  refine (HFN.out _ _ _ HRD.out).mono ?_
  rintro e w1 ⟨g, rfl, hO, hb⟩
  have L := HL.out.own hb hO
  have o := L.ownInts
  have ix := Own.cell (by rw [lstH_len]; exact o) d (by rw [lstH_len]; omega)
  rw [lstH_get _ _ _ (by omega), HE.out] at ix
  have HB := Lib.hid L.below
  clear hO hb L o HL HFN HRD
  go_wp2_with fail
  go_ret
  exact ⟨rfl, HB.out⟩

set_option maxRecDepth 100000 in
set_option maxHeartbeats 1600000 in
theorem implStirlingSecond_any (n k : Int) (w : World) : Calls Try.prog 32 #[.int .i64 n, .int .i64 k] w fun e w' => AnsIO (triR 0 n k) w e w' := by
  cases hg : askedB n k
  · rw [show triR 0 n k = ⟨0, false⟩ by simp [triR, hg]]
    have HC := Lib.hid (at_bool (areCounted_any n k) hg)
    clear hg
    go_enter Try.func32, Try.ntmps32
    go_wp2_with fail
    refine (HC.out _).mono ?_
    rintro e w1 ⟨rfl, rfl⟩
    go_wp2_with fail
    go_ret2
    exact ⟨rfl, Below.refl _ _⟩
  · have HC := Lib.hid (at_bool (areCounted_any n k) hg)
    obtain ⟨N, K, rfl, rfl, hN, hK⟩ := askedB_facts hg
    rw [show triR 0 N K = ⟨(triF 0 N K : Nat), true⟩ by simp [triR, hg]]
    have HT := Lib.hid (second_any N K w hN hK)
    generalize triF 0 N K = z at *
    clear hg hK hN
    go_enter Try.func32, Try.ntmps32
    go_wp2_with fail
    refine (HC.out _).mono ?_
    rintro e w1 ⟨rfl, hw⟩
    subst w1
    go_wp2_with fail
    refine HT.out.mono ?_
    rintro e w1 ⟨rfl, hb⟩
    have HB := Lib.hid hb
    clear hb
    go_wp2_with fail
    go_ret2
    exact ⟨rfl, HB.out⟩

set_option maxRecDepth 100000 in
set_option maxHeartbeats 1600000 in
theorem implStirlingFirst_any (n k : Int) (w : World) : Calls Try.prog 34 #[.int .i64 n, .int .i64 k] w fun e w' => AnsIO (triR 1 n k) w e w' := by
  cases hg : askedB n k
  · rw [show triR 1 n k = ⟨0, false⟩ by simp [triR, hg]]
    have HC := Lib.hid (at_bool (areCounted_any n k) hg)
    clear hg
    go_enter Try.func34, Try.ntmps34
    go_wp2_with fail
    refine (HC.out _).mono ?_
    rintro e w1 ⟨rfl, rfl⟩
    go_wp2_with fail
    go_ret2
    exact ⟨rfl, Below.refl _ _⟩
  · have HC := Lib.hid (at_bool (areCounted_any n k) hg)
    obtain ⟨N, K, rfl, rfl, hN, hK⟩ := askedB_facts hg
    rw [show triR 1 N K = ⟨(triF 1 N K : Nat), true⟩ by simp [triR, hg]]
    have HT := Lib.hid (first_any N K w hN hK)
    generalize triF 1 N K = z at *
    clear hg hK hN
    go_enter Try.func34, Try.ntmps34
    go_wp2_with fail
    refine (HC.out _).mono ?_
    rintro e w1 ⟨rfl, hw⟩
    subst w1
    go_wp2_with fail
    refine HT.out.mono ?_
    rintro e w1 ⟨rfl, hb⟩
    have HB := Lib.hid hb
    clear hb
    go_wp2_with fail
    go_ret2
    exact ⟨rfl, HB.out⟩
/-- What the cycles with so many more blocks bring. -/
def lahT (n k j : Nat) : Int := ((triF 1 n (k + j) * triF 0 (k + j) k : Nat) : Int)
theorem lah_facts (n k j : Nat) (hn : n ≤ 10) (hj : k + j ≤ n) : 0 ≤ lahT n k j ∧ lahT n k j ≤ 40000000 ∧ 0 ≤ sumT (lahT n k) j ∧ sumT (lahT n k) j ≤ 40000000 := by
  have key : ∀ n : Fin 11, ∀ k : Fin 11, ∀ j : Fin 11, (k : Nat) + j ≤ n → 0 ≤ lahT n k j ∧ lahT n k j ≤ 40000000 ∧ 0 ≤ sumT (lahT n k) j ∧ sumT (lahT n k) j ≤ 40000000 := by decide +kernel
  exact key ⟨n, by omega⟩ ⟨k, by omega⟩ ⟨j, by omega⟩ hj
theorem lah_sum (n k : Nat) (hn : n ≤ 10) (hk : k ≤ n) : sumT (lahT n k) (n - k + 1) = (triF 2 n k : Nat) := by
  have key : ∀ n : Fin 11, ∀ k : Fin 11, (k : Nat) ≤ n → sumT (lahT n k) (n - k + 1) = (triF 2 n k : Nat) := by decide +kernel
  exact key ⟨n, by omega⟩ ⟨k, by omega⟩ hk
set_option maxRecDepth 100000 in
set_option maxHeartbeats 3200000 in
theorem lah1_any (n k j b1 b2 : Nat) (w : World) (hn : n ≤ 10) (hj : k + j ≤ n) (h1 : w.cell? ⟨b1, 0, none⟩ = some (.int .i64 n)) (h2 : w.cell? ⟨b2, 0, none⟩ = some (.int .i64 k)) (_l1 : b1 < w.heap.size) (_l2 : b2 < w.heap.size) :
    Calls Try.prog 66 (#[.int .i64 j] ++ #[.pointer (some ⟨b1, 0, none⟩), .pointer (some ⟨b2, 0, none⟩)]) w fun e w' => e = .returned (.int .i64 (lahT n k j)) ∧ Below w.heap.size w w' := by
  have hkj : ((k + j : Nat) : Int) = (k : Int) + j := by push_cast; rfl
  have HA : Hid (∀ W, Calls Try.prog 65 #[.int .i64 n, .int .i64 ((k : Int) + j)] W fun e w' => e = .returned (.int .i64 (triF 1 n (k + j) : Nat)) ∧ Below W.heap.size W w') := Lib.hid (fun W => by rw [← hkj]; exact first_any n (k + j) W hn (by omega))
  have HB : Hid (∀ W, Calls Try.prog 64 #[.int .i64 ((k : Int) + j), .int .i64 k] W fun e w' => e = .returned (.int .i64 (triF 0 (k + j) k : Nat)) ∧ Below W.heap.size W w') := Lib.hid (fun W => by rw [← hkj]; exact second_any (k + j) k W (by omega) (by omega))
  have hf := (lah_facts n k j hn hj)
  have hm : IntKind.i64.wrap (((triF 1 n (k + j) : Nat) : Int) * (triF 0 (k + j) k : Nat)) = lahT n k j := by
    rw [show ((triF 1 n (k + j) : Nat) : Int) * (triF 0 (k + j) k : Nat) = lahT n k j by unfold lahT; push_cast; rfl]
    exact IntWalk.i64_in _ (by omega)
  have hkw : IntKind.i64.wrap ((k : Int) + j) = (k : Int) + j := IntWalk.i64_in _ (by omega)
  have hkw2 := Lib.hid (show wrap64 ((k : Int) + j) = (k : Int) + j from IntWalk.wrap64_in _ (by omega))
  have HM := Lib.hid hm
  have HBEL := Lib.hid (Below.refl w.heap.size w)
  clear hf hm hkj
  generalize lahT n k j = z at *
  generalize triF 1 n (k + j) = x at *
  generalize triF 0 (k + j) k = y at *
  have HL : Hid (Law w [] w.drew) := Lib.hid (Law.start w).drew
  have h1 : w.drew.cell? ⟨b1, 0, none⟩ = some (.int .i64 n) := h1
  have h2 : w.drew.cell? ⟨b2, 0, none⟩ = some (.int .i64 k) := h2
  go_enter Try.func66, Try.ntmps66
  go_wp2_with fail
  go_region_held3 (fun w' => w'.cell? ⟨b1, 0, none⟩ = some (.int .i64 n) ∧ w'.cell? ⟨b2, 0, none⟩ = some (.int .i64 k)) (exact ⟨h1, h2⟩) ((first
    | (go_at_call 65; ((with_reducible refine (HA.out _).mono ?_); rintro r wA ⟨rfl, hb⟩; replace HL := Lib.hid (HL.out.kept hb); replace h1 := cell_later hb h1; replace h2 := cell_later hb h2; clear hb))
    | (go_at_call 64; ((with_reducible refine (HB.out _).mono ?_); rintro r wB ⟨rfl, hb⟩; replace HL := Lib.hid (HL.out.kept hb); replace h1 := cell_later hb h1; replace h2 := cell_later hb h2; clear hb))
    | fail))
  all_goals
    clear HA HB h1 h2
    go_wp2_with fail
    go_ret
    exact ⟨ret_int HM.out, HL.out.below⟩

set_option maxRecDepth 100000 in
set_option maxHeartbeats 3200000 in
theorem implLahNumber_any (n k : Int) (w : World) : Calls Try.prog 36 #[.int .i64 n, .int .i64 k] w fun e w' => AnsIO (triR 2 n k) w e w' := by
  have L0 := ((Law.start w).has [.int .i64 n] 3).has [.int .i64 k] 3
  simp only [World.size_alloc] at L0
  rw [show ((w.alloc (.cells [.int .i64 n].toArray 3)).alloc (.cells [.int .i64 k].toArray 3)) = ((w.alloc (.cells #[.int .i64 n] 3)).alloc (.cells #[.int .i64 k] 3)) from rfl] at L0
  have HL := Lib.hid L0
  clear L0
  cases hg : askedB n k
  · rw [show triR 2 n k = ⟨0, false⟩ by simp [triR, hg]]
    have HC := Lib.hid (at_bool (areCounted_any n k) hg)
    clear hg
    go_enter Try.func36, Try.ntmps36
    go_upto_region 1 with fail
    generalize (w.alloc (.cells #[.int .i64 n] 3)).alloc (.cells #[.int .i64 k] 3) = w5 at *
    have f1 := HL.out.ownHas.cell 0
    have f0 := HL.out.tl.ownHas.cell 0
    simp only [List.getElem?_cons_zero] at f0 f1
    go_wp2_with fail
    refine (HC.out _).mono ?_
    rintro e w1 ⟨rfl, rfl⟩
    have HB := Lib.hid HL.out.below
    clear f0 f1
    go_wp2_with fail
    go_ret2
    exact ⟨rfl, HB.out⟩
  · have HC := Lib.hid (at_bool (areCounted_any n k) hg)
    obtain ⟨N, K, rfl, rfl, hN, hK⟩ := askedB_facts hg
    rw [show triR 2 N K = ⟨(triF 2 N K : Nat), true⟩ by simp [triR, hg]]
    have HS := Lib.hid (fun (W : World) (L : Law w [tHas (w.heap.size + 1) [.int .i64 K] 3, tHas w.heap.size [.int .i64 N] 3] W) => sumOfTerms_any (N - K + 1) 66 #[.pointer (some ⟨w.heap.size, 0, none⟩), .pointer (some ⟨w.heap.size + 1, 0, none⟩)] (lahT N K) W (by omega) (fun _ _ => by kernel_rfl)
      (fun j hj w' hb' => by
        have L2 := L.kept hb'
        have h1 := L2.tl.ownHas.cell 0
        simp only [List.getElem?_cons_zero] at h1
        have h2 := L2.ownHas.cell 0
        simp only [List.getElem?_cons_zero] at h2
        exact lah1_any N K j w.heap.size (w.heap.size + 1) w' hN (by omega) h1 h2 L2.tl.ownHas.lt L2.ownHas.lt)
      (fun j hj => by
        have := lah_facts N K j hN (by omega)
        exact IntWalk.i64_in _ (by omega)))
    have HE := Lib.hid (lah_sum N K hN hK)
    have hd : ((N - K + 1 : Nat) : Int) = (N : Int) - K + 1 := by omega
    rw [hd] at HS
    have hw1 : IntKind.i64.wrap ((N : Int) - K) = (N : Int) - K := IntWalk.i64_in _ (by omega)
    have hw2 : IntKind.i64.wrap ((N : Int) - K + 1) = (N : Int) - K + 1 := IntWalk.i64_in _ (by omega)
    clear hg hK hN hd
    go_enter Try.func36, Try.ntmps36
    go_upto_region 1 with fail
    generalize (w.alloc (.cells #[.int .i64 (N : Int)] 3)).alloc (.cells #[.int .i64 (K : Int)] 3) = w5 at *
    have f1 := HL.out.ownHas.cell 0
    have f0 := HL.out.tl.ownHas.cell 0
    simp only [List.getElem?_cons_zero] at f0 f1
    go_wp2_with fail
    refine (HC.out _).mono ?_
    rintro e w1 ⟨rfl, hw⟩
    subst w1
    go_wp2_with fail
    refine (HS.out _ HL.out).mono ?_
    rintro e w1 ⟨rfl, hb⟩
    have HB := Lib.hid (HL.out.kept hb).below
    rw [HE.out]
    clear hb f0 f1
    go_wp2_with fail
    go_ret2
    exact ⟨rfl, HB.out⟩

theorem par_sum (n : Nat) (hn : n ≤ 10) : sumT (trmV (lstL (n + 1) (stir n)) 1) (n + 1) = (sumU (triF 0 n) (n + 1) : Nat) := by
  have key : ∀ n : Fin 11, sumT (trmV (lstL (n + 1) (stir n)) 1) (n + 1) = (sumU (triF 0 n) (n + 1) : Nat) := by decide +kernel
  exact key ⟨n, by omega⟩
theorem par_facts (n k : Nat) (hn : n ≤ 10) (hk : k < n + 1) : 0 ≤ trmV (lstL (n + 1) (stir n)) 1 k ∧ trmV (lstL (n + 1) (stir n)) 1 k ≤ 1000000 ∧ 0 ≤ sumT (trmV (lstL (n + 1) (stir n)) 1) k ∧ sumT (trmV (lstL (n + 1) (stir n)) 1) k ≤ 1000000 := by
  have key : ∀ n : Fin 11, ∀ k : Fin 11, 0 ≤ trmV (lstL (n + 1) (stir n)) 1 k ∧ trmV (lstL (n + 1) (stir n)) 1 k ≤ 1000000 ∧ 0 ≤ sumT (trmV (lstL (n + 1) (stir n)) 1) k ∧ sumT (trmV (lstL (n + 1) (stir n)) 1) k ≤ 1000000 := by decide +kernel
  exact key ⟨n, by omega⟩ ⟨k, by omega⟩
set_option maxRecDepth 100000 in
set_option maxHeartbeats 3200000 in
theorem implPar_any (n : Int) (w : World) : Calls Try.prog 38 #[.int .i64 n] w fun e w' => AnsIO (parR n) w e w' := by
  cases hg : inB 0 n 10
  · rw [show parR n = ⟨0, false⟩ by simp [parR, hg]]
    have HC := Lib.hid (at_bool (isCounted_any n) hg)
    clear hg
    go_enter Try.func38, Try.ntmps38
    go_wp2_with fail
    refine (HC.out _).mono ?_
    rintro e w1 ⟨rfl, rfl⟩
    go_wp2_with fail
    go_ret2
    exact ⟨rfl, Below.refl _ _⟩
  · have HC := Lib.hid (at_bool (isCounted_any n) hg)
    have h12 := inB_iff.1 hg
    obtain ⟨N, rfl⟩ := Int.eq_ofNat_of_zero_le h12.1
    have hN : N ≤ 10 := by omega
    rw [show parR N = ⟨(sumU (triF 0 N) (N + 1) : Nat), true⟩ by simp [parR, hg]]
    have HA := Lib.hid (arrowRooks_any N w hN)
    have HV := Lib.hid (fun (a : Option Addr) (p : Nat) (W : World) (hr : Reads W a (lstL (N + 1) (stir N)).length (lstL (N + 1) (stir N))) => valueAt_any (lstL (N + 1) (stir N)) 1 a p W (by rw [lstL_len]; omega) hr
      (fun k hk W => by
        have h := powU_any 1 k W (.inl rfl) (by rw [lstL_len] at hk; omega)
        rwa [Int.toNat_natCast] at h)
      (fun k hk => by rw [lstL_len] at hk; have := par_facts N k hN hk; exact IntWalk.i64_in _ (by omega))
      (fun k hk => by rw [lstL_len] at hk; have := par_facts N k hN hk; exact IntWalk.i64_in _ (by omega)))
    have HE := Lib.hid (par_sum N hN)
    have HLL := Lib.hid (lstL_len (N + 1) (stir N))
    clear hg h12 hN
    generalize lstL (N + 1) (stir N) = ys at *
    go_enter Try.func38, Try.ntmps38
    go_wp2_with fail
    refine (HC.out _).mono ?_
    rintro e w1 ⟨rfl, hw⟩
    subst w1
    go_wp2_with fail
    refine HA.out.mono ?_
    rintro e w1 ⟨g, p, rfl, hO, hb⟩
    obtain ⟨a, q, e, hr⟩ := hO.reads
    have HR := Lib.hid hr
    have HL := Lib.hid ((Law.start w).own hb hO)
    rw [HLL.out] at HV e
    cases e
    clear hO hb HA hr
    go_wp2_with fail
    refine (HV.out _ _ _ (by have := HR.out; rwa [HLL.out] at this)).mono ?_
    rintro e w2 ⟨rfl, hb⟩
    rw [HE.out]
    have HB := Lib.hid (HL.out.kept hb).below
    clear hb HV HL
    go_wp2_with fail
    go_ret2
    exact ⟨rfl, HB.out⟩
end Go.Proofs.Ytddmommamcgelaa
