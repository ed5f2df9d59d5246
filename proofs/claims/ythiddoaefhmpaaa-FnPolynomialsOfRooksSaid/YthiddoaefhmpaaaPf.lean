/- Sums of falling products, in both texts. No condition but the sizes. -/
import Derived.Test.YthiddoaefhmpaaaPl
namespace Go.Proofs.Ythiddoaefhmpaaa
open Go.RowKit Go.WideShapes

def factB (r c : Int) (xs : List Int) (x : Int) : R1 := if sqB r c xs && inB (-20) x 20 then ⟨sumT (falI (numL r.toNat r.toNat (bt xs)) x r.toNat) (r.toNat + 1), true⟩ else ⟨0, false⟩

set_option maxRecDepth 100000 in
set_option maxHeartbeats 1600000 in
theorem specFact_any (r c : Int) (xs : List Int) (x : Int) (w : World) (hx : xs.length ≤ 1048576) (lo : Nat) (s : Value) (hO : Own w lo s xs) :
    Calls Try.prog 7 #[.agg #[.int .i64 r, .int .i64 c, s], .int .i64 x] w fun e w' => AnsIO (factB r c xs x) w e w' := by
  have L0 := (Law.start w).box (.int .i64 r) (.int .i64 c) s 26
  have hO0 := hO.kept L0.below
  obtain ⟨a, cap, rfl, hr⟩ := hO.reads
  have hr0 := L0.reads hr
  clear hO
  have HI := Lib.hid (l1In_any x (-20) 20)
  cases hg : sqB r c xs
  · rw [show factB r c xs x = ⟨0, false⟩ by simp [factB, hg]]
    go_enter Try.func7, Try.ntmps7
    go_wp2_with fail
    refine (at_boolB (roSquare_any r c xs _ hx a cap hr0) hg).mono ?_
    rintro e w1 ⟨rfl, hb⟩
    have HB := Lib.hid (L0.kept hb).below
    clear L0 hb hg hr0 hO0
    go_wp2_with fail
    go_ret2
    exact ⟨rfl, HB.out⟩
  · have HC := Lib.hid (at_boolB (roSquare_any r c xs _ hx a cap hr0) hg)
    cases hi : inB (-20) x 20
    · rw [show factB r c xs x = ⟨0, false⟩ by simp [factB, hi]]
      rw [hi] at HI
      clear hg hr0 hi hO0
      go_enter Try.func7, Try.ntmps7
      go_wp2_with fail
      refine HC.out.mono ?_
      rintro e w1 ⟨rfl, hb⟩
      have HB := Lib.hid (L0.kept hb).below
      clear L0 hb HC
      go_wp2_with fail
      refine (HI.out _).mono ?_
      rintro e w' ⟨rfl, rfl⟩
      go_wp2_with fail
      go_ret2
      exact ⟨rfl, HB.out⟩
    · have hab := in_abs hi
      rw [hi] at HI
      obtain ⟨hgg, rfl⟩ := sq_facts hg
      obtain ⟨g1, g2, g3, _⟩ := good_facts hgg
      obtain ⟨n, rfl⟩ := Int.eq_ofNat_of_zero_le (show 0 ≤ r by omega)
      rw [show factB n n xs x = ⟨sumT (falI (numL n n (bt xs)) x n) (n + 1), true⟩ by simp [factB, hg, hi]]
      have hn := fun (W : World) (hO : Own W lo (.slice a xs.length cap) xs) => roNumbers_any n n xs W hx (by omega) (by omega) (by omega) (good_cell hgg) lo _ hO
      have hk := numL_len n n (bt xs)
      simp only [Nat.min_self] at hn hk
      have HN := Lib.hid hn
      have HK := Lib.hid hk
      have hbd := numL_bd n n (by omega) (by omega) (bt xs)
      have hq6 : n ≤ 6 := by omega
      clear hg hr0 hi hn hk hgg
      generalize numL n n (bt xs) = ys at *
      have HA := Lib.hid hab
      have HY := Lib.hid hbd
      clear hab hbd
      go_enter Try.func7, Try.ntmps7
      go_wp2_with fail
      refine HC.out.mono ?_
      rintro e w1 ⟨rfl, hb⟩
      have L1 := L0.kept hb
      have hO1 := hO0.kept hb
      have ⟨_, k0, k1, k2, _⟩ := L1.ownBox
      have HL := Lib.hid L1
      clear L0 L1 hb HC hO0
      go_wp2_with fail
      refine (HI.out _).mono ?_
      rintro e w' ⟨rfl, rfl⟩
      go_wp2_with fail
      refine (HN.out _ hO1).mono ?_
      rintro e w2 ⟨g, p, rfl, hO, hb⟩
      have HO := Lib.hid hO
      have L2 := HL.out.kept hb
      have HB := Lib.hid L2.below
      clear k0 k1 k2
      have ⟨_, k0, k1, k2, _⟩ := L2.ownBox
      clear HL hO hO1 hb L2
      go_wp2_with fail
      go_loop [6, 20] (fun t i => ∃ k : Nat, k ≤ n + 1 ∧ i = .int .i64 k ∧ t = .int .i64 (sumT (falI ys x n) k)) (fun _ i => n + 1 - (intOf i).toNat)
      case atStart => exact ⟨0, Nat.zero_le _, rfl, rfl⟩
      case round =>
        obtain ⟨k, hk, rfl, rfl⟩ := hrel
        by_cases hlt : k < n + 1
        · have hck := Own.cell (by rw [HK.out]; exact HO.out) k (by rw [HK.out]; exact hlt)
          have h1 := falI_abs ys HY.out x HA.out n k hq6
          have h2 := sum_abs (falI ys x n) (k + 1) (by omega) (fun j hj => falI_abs ys HY.out x HA.out n j hq6)
          rw [sumT] at h2
          have hr := roFalling_any x (n - k) w2 HA.out (by omega)
          rw [show ((n - k : Nat) : Int) = (n : Int) - k by omega] at hr
          obtain ⟨y, hyy⟩ : ∃ y, y = ys.getD k 0 := ⟨_, rfl⟩
          rw [← hyy] at hck
          obtain ⟨z, hzz⟩ : ∃ z, z = fal x (n - k) := ⟨_, rfl⟩
          rw [← hzz] at hr
          have HR := Lib.hid hr
          have hm : wrap64 (y * z) = falI ys x n k := by rw [hyy, hzz, show ys.getD k 0 * fal x (n - k) = falI ys x n k from rfl]; unfold Abs at h1; exact IntWalk.wrap64_in _ (by omega)
          have hs : wrap64 (sumT (falI ys x n) k + falI ys x n k) = sumT (falI ys x n) k + falI ys x n k := by unfold Abs at h2; exact IntWalk.wrap64_in _ (by omega)
          have hkq : (k : Int) < (n : Int) + 1 := by omega
          have HF := Lib.hid (And.intro hm hs)
          clear h1 h2 hm hs hyy hzz hr
          go_wp2_with fail
          refine HR.out.mono ?_
          rintro e w' ⟨rfl, hww⟩
          subst hww
          go_wp2_with fail
          go_round
          case rel => exact ⟨k + 1, by omega, by go_num, by rw [HF.out.1, HF.out.2]; rfl⟩
          case measure => simp [intOf]; omega
        · obtain rfl : k = n + 1 := by omega
          go_wp2_with fail
          go_ret2
          exact ⟨rfl, HB.out⟩

set_option maxRecDepth 100000 in
set_option maxHeartbeats 1600000 in
theorem fact1_any (b1 b2 b3 g p n k : Nat) (x y : Int) (w : World) (hk : k < n + 1) (hn6 : n ≤ 6) (hx : Abs 20 x) (h1 : w.cell? ⟨b1, 0, none⟩ = some (.slice (some ⟨g, 0, none⟩) (n + 1) p)) (h2 : w.cell? ⟨b2, 0, none⟩ = some (.int .i64 x)) (h3 : w.cell? ⟨g, k, none⟩ = some (.int .i64 y)) (h4 : w.cell? ⟨b3, 0, none⟩ = some (.int .i64 n))
    (ht : Abs 150590720000000 (y * fal x (n - k))) :
    Calls Try.prog 20 (#[.int .i64 k] ++ #[.pointer (some ⟨b1, 0, none⟩), .pointer (some ⟨b2, 0, none⟩), .pointer (some ⟨b3, 0, none⟩)]) w fun e w' => e = .returned (.int .i64 (y * fal x (n - k))) ∧ Below w.heap.size w w' := by
  have hp := fun W => falling_any x (n - k) W hx (by omega)
  rw [show ((n - k : Nat) : Int) = (n : Int) - k by omega] at hp
  have hm : IntKind.i64.wrap (y * fal x (n - k)) = y * fal x (n - k) := by unfold Abs at ht; exact IntWalk.i64_in _ (by omega)
  have hd : IntKind.i64.wrap ((n : Int) - k) = (n : Int) - k := IntWalk.i64_in _ (by omega)
  generalize fal x (n - k) = z at *
  have HP := Lib.hid hp
  have hk0 : (0 : Int) ≤ k := by omega
  have hk1 : (k : Int) < (n : Int) + 1 := by omega
  clear hx ht hp
  go_enter Try.func20, Try.ntmps20
  go_wp2_with fail
  go_quiet ((go_at_call 21; with_reducible exact Calls.quiet_of_same (HP.out _)))
  go_wp2_with fail
  go_ret
  exact ⟨rfl, below_drewN (Below.refl _ _) _⟩

set_option maxRecDepth 100000 in
set_option maxHeartbeats 1600000 in
theorem implFact_any (r c : Int) (xs : List Int) (x : Int) (w : World) (hx : xs.length ≤ 1048576) (lo : Nat) (s : Value) (hO : Own w lo s xs) :
    Calls Try.prog 6 #[.agg #[.int .i64 r, .int .i64 c, s], .int .i64 x] w fun e w' => AnsIO (factB r c xs x) w e w' := by
  have L0 := ((Law.start w).box (.int .i64 r) (.int .i64 c) s 26).has [.int .i64 x] 3
  simp only [World.size_alloc] at L0
  obtain ⟨a, cap, rfl, hr⟩ := hO.reads
  have hr0 := L0.reads hr
  clear hO
  have HI := Lib.hid (isPoint_any x)
  cases hg : goodB r c xs
  · rw [show factB r c xs x = ⟨0, false⟩ by simp [factB, sqB, hg]]
    go_enter Try.func6, Try.ntmps6
    go_wp2_with fail
    refine (gridOf_no r c a cap xs _ hx hr0 hg).mono ?_
    rintro e w1 ⟨rfl, hb⟩
    have HB := Lib.hid (((L0.kept hb).kept (below_new (.cells #[.int .i64 0, .int .i64 0, .int .i64 0, .int .i64 0, .int .i64 0, .int .i64 0, .int .i64 0, .int .i64 0] 43))).below)
    clear L0 hb hg hr0
    go_wp2_with fail
    go_ret2
    exact ⟨rfl, HB.out⟩
  · obtain ⟨M, hM, hc⟩ := gridOf_good r c a cap xs _ hx hr0 hg
    have HC := Lib.hid hc; clear hc
    by_cases hrc : r = c
    case neg =>
      have hne : (r != c) = true := by simp [hrc]
      rw [show factB r c xs x = ⟨0, false⟩ by simp [factB, sqB, hrc]]
      clear hg hr0 hM hrc
      go_enter Try.func6, Try.ntmps6
      go_wp2_with fail
      refine HC.out.mono ?_
      rintro e w1 ⟨rfl, hb⟩
      have L1 := (L0.kept hb).has (gl r c M) 43
      rw [show w1.alloc (.cells (gl r c M).toArray 43) = w1.alloc (.cells #[.int .i64 r, .int .i64 c, .int .i64 (M 0), .int .i64 (M 1), .int .i64 (M 2), .int .i64 (M 3), .int .i64 (M 4), .int .i64 (M 5)] 43) from rfl] at L1
      have HL := Lib.hid L1
      clear L0 hb L1 HC
      go_upto_region 2 with fail
      generalize w1.alloc (.cells #[.int .i64 r, .int .i64 c, .int .i64 (M 0), .int .i64 (M 1), .int .i64 (M 2), .int .i64 (M 3), .int .i64 (M 4), .int .i64 (M 5)] 43) = w5 at *
      obtain ⟨e0, e1, e2, e3, e4, e5, e6, e7, _⟩ := HL.out.ownHas.eight
      have y1 := HL.out.tl.ownHas.cell 0
      simp only [List.getElem?_cons_zero] at y1
      have HB := Lib.hid HL.out.below
      clear HL
      go_wp2_with fail
      go_ret2
      exact ⟨rfl, HB.out⟩
    subst hrc
    cases hi : inB (-20) x 20
    · rw [show factB r r xs x = ⟨0, false⟩ by simp [factB, hi]]
      rw [hi] at HI
      clear hg hr0 hi hM
      go_enter Try.func6, Try.ntmps6
      go_wp2_with fail
      refine HC.out.mono ?_
      rintro e w1 ⟨rfl, hb⟩
      have L1 := (L0.kept hb).has (gl r r M) 43
      rw [show w1.alloc (.cells (gl r r M).toArray 43) = w1.alloc (.cells #[.int .i64 r, .int .i64 r, .int .i64 (M 0), .int .i64 (M 1), .int .i64 (M 2), .int .i64 (M 3), .int .i64 (M 4), .int .i64 (M 5)] 43) from rfl] at L1
      have HL := Lib.hid L1
      clear L0 hb L1 HC
      go_upto_region 2 with fail
      generalize w1.alloc (.cells #[.int .i64 r, .int .i64 r, .int .i64 (M 0), .int .i64 (M 1), .int .i64 (M 2), .int .i64 (M 3), .int .i64 (M 4), .int .i64 (M 5)] 43) = w5 at *
      obtain ⟨e0, e1, e2, e3, e4, e5, e6, e7, _⟩ := HL.out.ownHas.eight
      have y1 := HL.out.tl.ownHas.cell 0
      simp only [List.getElem?_cons_zero] at y1
      have HB := Lib.hid HL.out.below
      clear HL
      go_wp2_with fail
      refine (HI.out _).mono ?_
      rintro e w' ⟨rfl, rfl⟩
      go_wp2_with fail
      go_ret2
      exact ⟨rfl, HB.out⟩
    · have hab := in_abs hi
      rw [hi] at HI
      have hgc := good_cell hg
      obtain ⟨g1, g2, g3, _⟩ := good_facts hg
      obtain ⟨n, rfl⟩ := Int.eq_ofNat_of_zero_le (show 0 ≤ r by omega)
      rw [show factB n n xs x = ⟨sumT (falI (numL n n (bt xs)) x n) (n + 1), true⟩ by simp [factB, sqB, hg, hi]]
      simp only [← hM] at hgc
      have hn := fun W => rookNumbers_any n n M W (by omega) (by omega) (fun k _ => hgc k)
      have hd : lstL (min n n + 1) (wR n (bM M) n 0 0) = numL n n (bt xs) := by
        rw [show bM M = bt xs by funext a b; simp only [bM, bt, hM]]
        rfl
      rw [hd] at hn
      have hk := numL_len n n (bt xs)
      simp only [Nat.min_self] at hn hk
      have HN := Lib.hid hn
      have HK := Lib.hid hk
      have hbd := numL_bd n n (by omega) (by omega) (bt xs)
      have hq6 : n ≤ 6 := by omega
      clear hg hr0 hi hgc hn hd hM hk
      generalize numL n n (bt xs) = ys at *
      have HA := Lib.hid hab
      have HY := Lib.hid hbd
      clear hab hbd
      go_enter Try.func6, Try.ntmps6
      go_wp2_with fail
      refine HC.out.mono ?_
      rintro e w1 ⟨rfl, hb⟩
      have L1 := (L0.kept hb).has (gl n n M) 43
      rw [show w1.alloc (.cells (gl n n M).toArray 43) = w1.alloc (.cells #[.int .i64 n, .int .i64 n, .int .i64 (M 0), .int .i64 (M 1), .int .i64 (M 2), .int .i64 (M 3), .int .i64 (M 4), .int .i64 (M 5)] 43) from rfl] at L1
      have HL := Lib.hid L1
      clear L0 hb L1 HC
      go_upto_region 2 with fail
      generalize w1.alloc (.cells #[.int .i64 n, .int .i64 n, .int .i64 (M 0), .int .i64 (M 1), .int .i64 (M 2), .int .i64 (M 3), .int .i64 (M 4), .int .i64 (M 5)] 43) = w5 at *
      obtain ⟨b3, hb3⟩ : ∃ b3, b3 = w1.heap.size := ⟨_, rfl⟩
      rw [← hb3] at HL ⊢
      clear hb3
      obtain ⟨e0, e1, e2, e3, e4, e5, e6, e7, _⟩ := HL.out.ownHas.eight
      have y1 := HL.out.tl.ownHas.cell 0
      simp only [List.getElem?_cons_zero] at y1
      go_wp2_with fail
      refine (HI.out _).mono ?_
      rintro e w' ⟨rfl, rfl⟩
      go_wp2_with fail
      refine (HN.out _).mono ?_
      rintro e w2 ⟨g, p, rfl, hO, hb⟩
      have L2 := (HL.out.own hb hO).has [.slice (some ⟨g, 0, none⟩) (n + 1) p] 24
      rw [show w2.alloc (.cells [.slice (some ⟨g, 0, none⟩) (n + 1) p].toArray 24) = w2.alloc (.cells #[.slice (some ⟨g, 0, none⟩) (n + 1) p] 24) from rfl] at L2
      have HL2 := Lib.hid L2
      clear L2 HL hO hb HN e0 e1 e2 e3 e4 e5 e6 e7 y1
      go_upto_region 5 with fail
      generalize w2.alloc (.cells #[.slice (some ⟨g, 0, none⟩) (n + 1) p] 24) = w6 at *
      obtain ⟨b1, hb1⟩ : ∃ b1, b1 = w2.heap.size := ⟨_, rfl⟩
      rw [← hb1] at HL2 ⊢
      clear hb1
      have HS := Lib.hid (sumOfTerms_any (n + 1) 20 #[.pointer (some ⟨b1, 0, none⟩), .pointer (some ⟨w.heap.size + 1, 0, none⟩), .pointer (some ⟨b3, 0, none⟩)] (falI ys x n) w6 (by omega) (fun _ _ => by kernel_rfl)
        (fun j hj w' hb' => fact1_any b1 (w.heap.size + 1) b3 g p n j x (ys.getD j 0) w' hj hq6 HA.out (((HL2.out.kept hb').ownHas.cell 0)) ((HL2.out.kept hb').tl.tl.tl.ownHas.cell 0) (Own.cell (by rw [HK.out]; exact (HL2.out.kept hb').tl.ownInts) j (by rw [HK.out]; exact hj)) ((HL2.out.kept hb').tl.tl.ownHas.cell 0) (falI_abs ys HY.out x HA.out n j hq6))
        (fun j hj => by
          have h2 := sum_abs (falI ys x n) (j + 1) (by omega) (fun i hi => falI_abs ys HY.out x HA.out n i hq6)
          rw [sumT] at h2
          unfold Abs at h2
          exact IntWalk.i64_in _ (by omega)))
      have f0 := HL2.out.ownHas.cell 0
      simp only [List.getElem?_cons_zero] at f0
      have HB := Lib.hid HL2.out.below
      clear HL2
      go_wp2_with fail
      refine HS.out.mono ?_
      rintro e w3 ⟨rfl, hb⟩
      have HB3 := Lib.hid (below_on HB.out hb)
      clear hb HB HS f0
      go_wp2_with fail
      go_ret2
      exact ⟨rfl, HB3.out⟩

end Go.Proofs.Ythiddoaefhmpaaa
