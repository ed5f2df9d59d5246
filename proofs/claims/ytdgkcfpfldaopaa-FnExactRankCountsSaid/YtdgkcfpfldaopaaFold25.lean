import Derived.Test.YtdgkcfpfldaopaaFold24
import Derived.Test.YtdgkcfpfldaopaaFold22

section
namespace Go.Proofs.Ytdgkcfpfldaopaa
open Go.RowKit Go.WideShapes

theorem pow_step (q j : Nat) (hq : q ≤ 3) (hj : j ≤ 38) : wrap64 ((q : Int) ^ j * q) = (q : Int) ^ (j + 1) := by
  have h1 := pow23_in q (j + 1) hq (by omega)
  rw [show (q : Int) ^ j * q = (q : Int) ^ (j + 1) from (Int.pow_succ _ j).symm]
  exact IntWalk.wrap64_in _ (by omega)
set_option maxHeartbeats 800000 in
theorem wePower_any (q : Nat) (hq : q ≤ 3) (K : Int) (w : World) (hm : K ≤ 39) : Calls Try.prog 88 #[.int .i64 q, .int .i64 K] w fun e w' => e = .returned (.int .i64 ((q : Int) ^ K.toNat)) ∧ w = w' := by
  have HX := Lib.hid (fun j (hj : j ≤ 38) => pow_step q j hq hj)
  clear hq
  obtain ⟨M, hM⟩ : ∃ M : Nat, M = K.toNat := ⟨_, rfl⟩
  rw [← hM]
  have HM := Lib.hid hM
  have HK := Lib.hid hm
  clear hM hm
  go_enter Try.func88, Try.ntmps88
  go_wp2_with fail
  go_loop [1, 5] (fun i t => ∃ (j : Nat) (k : Int), Hid ((j : Int) + k.toNat = M ∧ k ≤ 39) ∧ i = .int .i64 k ∧ t = .int .i64 ((q : Int) ^ j)) (fun i _ => (intOf i).toNat)
  case atStart => exact ⟨0, K, Lib.hid ⟨by rw [HM.out]; omega, HK.out⟩, rfl, by simp⟩
  case round =>
    obtain ⟨j, k, HJ, rfl, rfl⟩ := hrel
    by_cases hp : 0 < k
    · have HF := Lib.hid (HX.out j (by have := HJ.out; have := HM.out; have := HK.out; omega))
      have hd : wrap64 (k - 1) = k - 1 := IntWalk.wrap64_in _ (by have := HJ.out; have := HM.out; omega)
      have HD := Lib.hid hd
      have HJ2 : Hid (((j + 1 : Nat) : Int) + (k - 1).toNat = M ∧ k - 1 ≤ 39) := Lib.hid (by have := HJ.out; omega)
      clear hd HX HJ
      go_wp2_with fail
      go_round
      case rel => exact ⟨j + 1, k - 1, HJ2, by rw [HD.out], by rw [HF.out]⟩
      case measure => simp only [intOf, HD.out]; omega
    · have hjk : j = M := by have := HJ.out; omega
      clear HJ HX HM HK
      subst hjk
      go_wp2_with fail
      go_ret
      exact ⟨rfl, rfl⟩

/-- The product so far. -/
def invN (q n : Nat) : Nat → Int
  | 0 => 1
  | i + 1 => invN q n i * ((q : Int) ^ n - (q : Int) ^ i)
theorem inv_chk : ∀ q : Fin 4, ∀ n : Fin 6, ∀ i : Fin 6, (i : Nat) < n → 0 ≤ ((q : Nat) : Int) ^ (n : Nat) - ((q : Nat) : Int) ^ (i : Nat) + 1 ∧ ((q : Nat) : Int) ^ (n : Nat) - ((q : Nat) : Int) ^ (i : Nat) ≤ 1000 ∧ 0 ≤ invN q n (i + 1) + 1000000 ∧ invN q n (i + 1) ≤ 1000000000000 := by decide +kernel
theorem inv_step (q n i : Nat) (hq : q ≤ 3) (hn : n ≤ 5) (hi : i < n) : wrap64 ((q : Int) ^ n - (q : Int) ^ i) = (q : Int) ^ n - (q : Int) ^ i ∧ wrap64 (invN q n i * ((q : Int) ^ n - (q : Int) ^ i)) = invN q n (i + 1) := by
  obtain ⟨a, b, c, d⟩ := inv_chk ⟨q, by omega⟩ ⟨n, by omega⟩ ⟨i, by omega⟩ hi
  simp only at a b c d
  refine ⟨IntWalk.wrap64_in _ (by omega), ?_⟩
  rw [show invN q n i * ((q : Int) ^ n - (q : Int) ^ i) = invN q n (i + 1) from rfl]
  exact IntWalk.wrap64_in _ (by omega)
def invR (n q : Int) : R1 := if isQ q && inB 1 n 5 then ⟨invN q.toNat n.toNat n.toNat, true⟩ else ⟨0, false⟩

set_option maxHeartbeats 1600000 in
theorem specInv_any (m q : Int) (w : World) : Calls Try.prog 47 #[.int .i64 m, .int .i64 q] w (AnsIO (invR m q) w) := by
  have HI := Lib.hid (l1In_any m 1 5)
  have HQ := Lib.hid (weBase_any q)
  cases hm : inB 1 m 5
  · rw [show invR m q = ⟨0, false⟩ by simp [invR, hm]]
    rw [hm] at HI
    go_enter Try.func47, Try.ntmps47
    go_wp2_with fail
    refine (HI.out _).mono ?_
    rintro e w' ⟨rfl, rfl⟩
    go_wp2_with fail
    go_ret2
    exact ⟨rfl, Below.refl _ _⟩
  · rw [hm] at HI
    cases hq : isQ q
    · rw [show invR m q = ⟨0, false⟩ by simp [invR, hq]]
      rw [hq] at HQ
      go_enter Try.func47, Try.ntmps47
      go_wp2_with fail
      refine (HI.out _).mono ?_
      rintro e w' ⟨rfl, rfl⟩
      go_wp2_with fail
      refine (HQ.out _).mono ?_
      rintro e w' ⟨rfl, rfl⟩
      go_wp2_with fail
      go_ret2
      exact ⟨rfl, Below.refl _ _⟩
    · rw [show invR m q = ⟨invN q.toNat m.toNat m.toNat, true⟩ by simp [invR, hq, hm]]
      rw [hq] at HQ
      obtain ⟨u, rfl, hn⟩ := isQ_nat hq
      rw [inB_iff] at hm
      obtain ⟨n, rfl⟩ := Int.eq_ofNat_of_zero_le (show 0 ≤ m by omega)
      have HP := Lib.hid (fun (k : Nat) W (hk : k ≤ 5) => wePower_any u (by omega) (k : Int) W (by omega))
      have HS := Lib.hid (fun i (hi : i < n) => inv_step u n i (by omega) (by omega) hi)
      have HN := Lib.hid (show n ≤ 5 by omega)
      simp only [Int.toNat_natCast] at HP ⊢
      have h00 : invN u n 0 = 1 := rfl
      generalize invN u n = F at *
      clear hm hq hn
      go_enter Try.func47, Try.ntmps47
      go_wp2_with fail
      refine (HI.out _).mono ?_
      rintro e w' ⟨rfl, rfl⟩
      go_wp2_with fail
      refine (HQ.out _).mono ?_
      rintro e w' ⟨rfl, rfl⟩
      go_wp2_with fail
      go_loopw [6, 7] (fun t i wr => ∃ j : Nat, j ≤ n ∧ i = .int .i64 j ∧ t = .int .i64 (F j) ∧ wr = w) (fun _ i _ => n - (intOf i).toNat)
      case atStart => exact ⟨0, Nat.zero_le _, rfl, by rw [h00], rfl⟩
      case round =>
        clear h00
        obtain ⟨j, hj, rfl, rfl, hww⟩ := hrel
        subst hww
        by_cases hlt : j < n
        · have HF := Lib.hid (HS.out j hlt)
          have HPn := Lib.hid (fun W => HP.out n W HN.out)
          have HPj := Lib.hid (fun W => HP.out j W (by have := HN.out; omega))
          have hn5 : n ≤ 5 := HN.out
          go_wp2_with fail
          first
            | (refine (HPn.out _).mono ?_; rintro e w' ⟨rfl, hww⟩; subst hww)
          go_wp2_with fail
          first
            | (refine (HPj.out _).mono ?_; rintro e w' ⟨rfl, hww⟩; subst hww)
          go_wp2_with fail
          go_roundw
          case rel => exact ⟨j + 1, by omega, by go_num, by rw [HF.out.1, HF.out.2], by first | rfl | trivial⟩
          case measure => simp [intOf]; omega
        · obtain rfl : j = n := by omega
          go_wp2_with fail
          go_ret2
          exact ⟨rfl, Below.refl _ _⟩
set_option maxRecDepth 100000 in
set_option maxHeartbeats 3200000 in
theorem implInv_any (m q : Int) (w : World) : Calls Try.prog 48 #[.int .i64 m, .int .i64 q] w (AnsIO (invR m q) w) := by
  cases hq : isQ q
  · rw [show invR m q = ⟨0, false⟩ by simp [invR, hq]]
    have HF := Lib.hid (fun W => fieldOf_no q W hq)
    clear hq
    go_enter Try.func48, Try.ntmps48
    go_wp2_with fail
    refine (HF.out _).mono ?_
    rintro e w' ⟨rfl, rfl⟩
    go_wp2_with fail
    go_ret2
    exact ⟨rfl, Below.refl _ _⟩
  · obtain ⟨u, rfl, hn⟩ := isQ_nat hq
    have HF := Lib.hid (fun W => fieldOf_yes u hn W)
    cases hm : inB 1 m 5
    · rw [show invR m u = ⟨0, false⟩ by simp [invR, hm]]
      by_cases h0 : 1 ≤ m
      · have h1 : 5 < m := by
          rw [← Bool.not_eq_true, inB_iff] at hm
          omega
        have h2 : ¬ m < 1 := by omega
        clear hq hn hm h0
        generalize fV u = F at *
        go_enter Try.func48, Try.ntmps48
        go_wp2_with fail
        refine (HF.out _).mono ?_
        rintro e w' ⟨rfl, rfl⟩
        go_wp2_with fail
        go_ret2
        exact ⟨rfl, Below.refl _ _⟩
      · have h1 : m < 1 := by omega
        clear hq hn hm h0
        generalize fV u = F at *
        go_enter Try.func48, Try.ntmps48
        go_wp2_with fail
        refine (HF.out _).mono ?_
        rintro e w' ⟨rfl, rfl⟩
        go_wp2_with fail
        go_ret2
        exact ⟨rfl, Below.refl _ _⟩
    · rw [show invR m u = ⟨invN u m.toNat m.toNat, true⟩ by simp [invR, hq, hm]]
      rw [inB_iff] at hm
      obtain ⟨n, rfl⟩ := Int.eq_ofNat_of_zero_le (show 0 ≤ m by omega)
      have HP := Lib.hid (fun (k : Nat) W (hk : k ≤ 5) => powerq_any u (by omega) k W (by omega))
      have HS := Lib.hid (fun i (hi : i < n) => inv_step u n i (by omega) (by omega) hi)
      have HN := Lib.hid (show n ≤ 5 by omega)
      have h5 : (n : Int) ≤ 5 := by omega
      have h1 : ¬ (n : Int) < 1 := by omega
      simp only [Int.toNat_natCast] at HP ⊢
      have h00 : invN u n 0 = 1 := rfl
      generalize invN u n = F at *
      clear hm hq
      rcases hn with rfl | rfl
      · rw [fV_two] at HF
        have hmt := fun w => meth_size2 w
        have HZ := Lib.hid size_2
        simp only [show ((2 : Nat) : Int) = 2 from rfl] at *
        go_enter Try.func48, Try.ntmps48
        go_wp2_with fail
        refine (HF.out _).mono ?_
        rintro e w' ⟨rfl, rfl⟩
        go_wp2_with fail
        go_loopw [8, 26] (fun t i wr => ∃ j : Nat, j ≤ n ∧ i = .int .i64 j ∧ t = .int .i64 (F j) ∧ Below w.heap.size w wr) (fun _ i _ => n - (intOf i).toNat)
        case atStart => exact ⟨0, Nat.zero_le _, rfl, by rw [h00], Below.refl _ _⟩
        case round =>
          clear h00
          obtain ⟨j, hj, rfl, rfl, hbr⟩ := hrel
          by_cases hlt : j < n
          · have HFj := Lib.hid (HS.out j hlt)
            have HPn := Lib.hid (fun W => HP.out n W HN.out)
            have HPj := Lib.hid (fun W => HP.out j W (by have := HN.out; omega))
            have HB := Lib.hid hbr
            clear hbr
            go_wp2_with fail
            refine (HZ.out _).mono ?_
            rintro e w1 ⟨rfl, hb⟩
            replace HB := Lib.hid (below_on HB.out hb)
            clear hb
            go_wp2_with fail
            refine (HPn.out _).mono ?_
            rintro e w' ⟨rfl, hww⟩
            subst hww
            go_wp2_with fail
            refine (HZ.out _).mono ?_
            rintro e w2 ⟨rfl, hb⟩
            replace HB := Lib.hid (below_on HB.out hb)
            clear hb
            go_wp2_with fail
            refine (HPj.out _).mono ?_
            rintro e w' ⟨rfl, hww⟩
            subst hww
            go_wp2_with fail
            go_roundw
            case rel => exact ⟨j + 1, by omega, by go_num, by rw [HFj.out.1, HFj.out.2], HB.out⟩
            case measure => simp [intOf]; omega
          · obtain rfl : j = n := by omega
            have HB := Lib.hid hbr
            clear hbr
            go_wp2_with fail
            go_ret2
            exact ⟨rfl, HB.out⟩
      · rw [fV_three] at HF
        have hmt := fun w => meth_size3 w
        have HZ := Lib.hid size_3
        simp only [show ((3 : Nat) : Int) = 3 from rfl] at *
        go_enter Try.func48, Try.ntmps48
        go_wp2_with fail
        refine (HF.out _).mono ?_
        rintro e w' ⟨rfl, rfl⟩
        go_wp2_with fail
        go_loopw [8, 26] (fun t i wr => ∃ j : Nat, j ≤ n ∧ i = .int .i64 j ∧ t = .int .i64 (F j) ∧ Below w.heap.size w wr) (fun _ i _ => n - (intOf i).toNat)
        case atStart => exact ⟨0, Nat.zero_le _, rfl, by rw [h00], Below.refl _ _⟩
        case round =>
          clear h00
          obtain ⟨j, hj, rfl, rfl, hbr⟩ := hrel
          by_cases hlt : j < n
          · have HFj := Lib.hid (HS.out j hlt)
            have HPn := Lib.hid (fun W => HP.out n W HN.out)
            have HPj := Lib.hid (fun W => HP.out j W (by have := HN.out; omega))
            have HB := Lib.hid hbr
            clear hbr
            go_wp2_with fail
            refine (HZ.out _).mono ?_
            rintro e w1 ⟨rfl, hb⟩
            replace HB := Lib.hid (below_on HB.out hb)
            clear hb
            go_wp2_with fail
            refine (HPn.out _).mono ?_
            rintro e w' ⟨rfl, hww⟩
            subst hww
            go_wp2_with fail
            refine (HZ.out _).mono ?_
            rintro e w2 ⟨rfl, hb⟩
            replace HB := Lib.hid (below_on HB.out hb)
            clear hb
            go_wp2_with fail
            refine (HPj.out _).mono ?_
            rintro e w' ⟨rfl, hww⟩
            subst hww
            go_wp2_with fail
            go_roundw
            case rel => exact ⟨j + 1, by omega, by go_num, by rw [HFj.out.1, HFj.out.2], HB.out⟩
            case measure => simp [intOf]; omega
          · obtain rfl : j = n := by omega
            have HB := Lib.hid hbr
            clear hbr
            go_wp2_with fail
            go_ret2
            exact ⟨rfl, HB.out⟩
end Go.Proofs.Ytdgkcfpfldaopaa
end

section
namespace Go.Proofs.Ytdgkcfpfldaopaa
open Go.RowKit Go.WideShapes

/-- One term. -/
def trmV (ys : List Int) (x : Int) (k : Nat) : Int := ys.getD k 0 * x ^ k

set_option maxRecDepth 100000 in
set_option maxHeartbeats 1600000 in
theorem value1_any (b1 b2 k q p g o : Nat) (x y : Int) (w : World) (hk : k < q) (h1 : w.cell? ⟨b1, 0, none⟩ = some (.slice (some ⟨g, o, none⟩) q p)) (h2 : w.cell? ⟨b2, 0, none⟩ = some (.int .i64 x)) (h3 : w.cell? ⟨g, o + k, none⟩ = some (.int .i64 y))
    (hP : ∀ W, Calls Try.prog 90 #[.int .i64 x, .int .i64 k] W fun e w' => e = .returned (.int .i64 (x ^ k)) ∧ w' = W) (ht : IntKind.i64.wrap (y * x ^ k) = y * x ^ k) :
    Calls Try.prog 102 (#[.int .i64 k] ++ #[.pointer (some ⟨b1, 0, none⟩), .pointer (some ⟨b2, 0, none⟩)]) w fun e w' => e = .returned (.int .i64 (y * x ^ k)) ∧ Below w.heap.size w w' := by
  have HP := Lib.hid hP
  have hk0 : (0 : Int) ≤ k := by omega
  have hk1 : (k : Int) < q := by omega
  clear hP
  go_enter Try.func102, Try.ntmps102
  go_wp2_with fail
  go_quiet ((go_at_call 90; with_reducible exact Calls.quiet_of_same (HP.out _)))
  go_wp2_with fail
  go_ret
  exact ⟨rfl, below_drewN (Below.refl _ _) _⟩

set_option maxRecDepth 100000 in
set_option maxHeartbeats 1600000 in
theorem valueAt_any (ys : List Int) (x : Int) (a : Option Addr) (p : Nat) (w : World) (hl : ys.length ≤ 1048576) (hr : Reads w a ys.length ys)
    (hP : ∀ k, k < ys.length → ∀ W, Calls Try.prog 90 #[.int .i64 x, .int .i64 k] W fun e w' => e = .returned (.int .i64 (x ^ k)) ∧ w' = W)
    (ht : ∀ k, k < ys.length → IntKind.i64.wrap (trmV ys x k) = trmV ys x k) (hs : ∀ k, k < ys.length → IntKind.i64.wrap (sumT (trmV ys x) k + trmV ys x k) = sumT (trmV ys x) k + trmV ys x k) :
    Calls Try.prog 64 #[.slice a ys.length p, .int .i64 x] w fun e w' => e = .returned (.int .i64 (sumT (trmV ys x) ys.length)) ∧ Below w.heap.size w w' := by
  have L0 := ((Law.start w).has [.slice a ys.length p] 22).has [.int .i64 x] 3
  simp only [World.size_alloc] at L0
  rw [show ((w.alloc (.cells [.slice a ys.length p].toArray 22)).alloc (.cells [.int .i64 x].toArray 3)) = ((w.alloc (.cells #[.slice a ys.length p] 22)).alloc (.cells #[.int .i64 x] 3)) from rfl] at L0
  have HS := Lib.hid (fun (W : World) (L : Law w [tHas (w.heap.size + 1) [.int .i64 x] 3, tHas w.heap.size [.slice a ys.length p] 22] W) => sumOfTerms_any ys.length 102 #[.pointer (some ⟨w.heap.size, 0, none⟩), .pointer (some ⟨w.heap.size + 1, 0, none⟩)] (trmV ys x) W hl (fun _ _ => by kernel_rfl)
    (fun j hj w' hb' => by
      have L2 := L.kept hb'
      obtain ⟨g, o, e, hg, hc⟩ := reads_row (L2.reads hr) (by omega)
      have h1 := L2.tl.ownHas.cell 0
      simp only [List.getElem?_cons_zero] at h1
      have h2 := L2.ownHas.cell 0
      simp only [List.getElem?_cons_zero] at h2
      rw [e] at h1
      exact value1_any w.heap.size (w.heap.size + 1) j ys.length p g o x (ys.getD j 0) w' hj h1 h2 (hc j hj) (hP j hj) (ht j hj))
    hs)
  have HL := Lib.hid L0
  clear L0 hr hP ht hs
  go_enter Try.func64, Try.ntmps64
  go_upto_region 1 with fail
  generalize (w.alloc (.cells #[.slice a ys.length p] 22)).alloc (.cells #[.int .i64 x] 3) = w5 at *
  have f0 := HL.out.tl.ownHas.cell 0
  simp only [List.getElem?_cons_zero] at f0
  go_wp2_with fail
  refine (HS.out _ HL.out).mono ?_
  rintro e w' ⟨rfl, hb⟩
  have HB := Lib.hid (HL.out.kept hb).below
  clear hb
  go_wp2_with fail
  go_ret
  exact ⟨rfl, HB.out⟩
end Go.Proofs.Ytdgkcfpfldaopaa
end
