import Derived.Test.YtakdiiccdkjjcabFold25
import Derived.Test.YtakdiiccdkjjcabFold26
import Derived.Deep.RegionWith

section
namespace Go.Proofs.Ytakdiiccdkjjcab
open Go.RowKit Go.WideShapes

theorem wValue_any (xs : List Int) (q : Nat) (hq : q ≤ 3) (n k : Nat) (hg : lenB xs = true) (hn : n = xs.length) (a2 : Option Addr) (p2 : Nat) (W : World) (h : Reads W a2 (wts xs n k).length (wts xs n k)) :
    Calls Try.prog 94 #[.slice a2 (wts xs n k).length p2, .int .i64 q] W fun e w' => e = .returned (.int .i64 (valW q (wts xs n k))) ∧ Below W.heap.size W w' := by
  subst hn
  obtain ⟨l1, l2, l3, _⟩ := len_facts hg
  have hwp := valW_parts q hq xs (fun k => (l3 k).2) xs.length k l2
  have hwl := wts_len xs (fun k => (l3 k).2) xs.length k
  exact valueAt_any (wts xs xs.length k) q a2 p2 W (by omega) h (fun j hj W => powerq_any q hq j W (by omega))
    (fun j hj => by
      have := hwp j hj
      rw [show trmV (wts xs xs.length k) q j = trmW q (wts xs xs.length k) j from rfl]
      exact IntWalk.i64_in _ (by omega))
    (fun j hj => by
      have := hwp j hj
      rw [show trmV (wts xs xs.length k) q = trmW q (wts xs xs.length k) from rfl]
      exact IntWalk.i64_in _ (by omega))
set_option maxRecDepth 100000 in
set_option maxHeartbeats 6400000 in
theorem implWgt_2 (xs : List Int) (k : Nat) (w : World) (hx : xs.length ≤ 1048576) (a : Option Addr) (p : Nat) (hr : Reads w a xs.length xs) (hg : lenB xs = true) (hk : k ≤ xs.length) :
    Calls Try.prog 48 #[.slice a xs.length p, .int .i64 k, .int .i64 2] w fun e w' => e = .returned (.tuple #[.int .i64 (valW 2 (wts xs xs.length k)), .bool true]) ∧ Below w.heap.size w w' := by
  have L0 := Law.start w
  obtain ⟨l1, l2, l3, _⟩ := len_facts hg
  have HC := Lib.hid (over_yes a p xs 2 w hx hr hg (by decide))
  obtain ⟨n, hn⟩ : ∃ n, n = xs.length := ⟨_, rfl⟩
  obtain ⟨M, hM⟩ : ∃ M : Nat → Int, M = fun k => xs.getD k 0 := ⟨_, rfl⟩
  rw [← hM, ← hn] at HC
  have hV := fun a2 p2 W h => wValue_any xs 2 (by decide) n k hg hn a2 p2 W h
  rw [← hn] at hk ⊢
  have HA := Lib.hid (fun W => allWeights_any n xs M W hn hM hg)
  have hzg : ∀ (h : k < (lstR (n + 1) (wts xs n)).length), (lstR (n + 1) (wts xs n))[k] = wts xs n k := fun h => lstR_get _ _ k h
  have hzl := lstR_len (n + 1) (wts xs n)
  have hk6 : n ≤ 6 := by omega
  have HV := Lib.hid hV
  have HZ := Lib.hid size_2
  have hmt := fun w => meth_size2 w
  have HZG := Lib.hid hzg
  have HZL := Lib.hid hzl
  have hk0 : (0 : Int) ≤ k := by omega
  have hk1 : (k : Int) ≤ n := by omega
  have hk2 : (k : Int) < (n : Int) + 1 := by omega
  clear hr hg hM hn l1 l2 l3 hV hzg hzl hx
  generalize lstR (n + 1) (wts xs n) = zz at *
  generalize wts xs n k = ys at *
  rw [fV_two] at HC
  simp only [show ((2 : Nat) : Int) = 2 from rfl] at HC HV
  go_enter Try.func48, Try.ntmps48
  go_wp2_with fail
  refine HC.out.mono ?_
  rintro e w2 ⟨rfl, hb⟩
  have L2 := (L0.kept hb).has (sl n M) 90
  rw [show w2.alloc (.cells (sl n M).toArray 90) = w2.alloc (.cells #[.int .i64 n, .int .i64 (M 0), .int .i64 (M 1), .int .i64 (M 2), .int .i64 (M 3), .int .i64 (M 4), .int .i64 (M 5)] 90) from rfl] at L2
  have HL := Lib.hid L2.drew
  obtain ⟨e0, e1, e2, e3, e4, e5, e6, _⟩ := L2.ownHas.seven
  clear hb L2 HC L0
  go_upto_region 2 with fail
  generalize w2.alloc _ = w5 at *
  go_wp2_with fail
  go_region_with (first
    | (go_at_call 89; ((with_reducible refine (HA.out _).mono ?_); rintro e wA ⟨g, vs, rfl, hO, hb⟩; have HLM := Lib.hid (HL.out.addM hb hO); obtain ⟨a2, p2, hc1, hr2⟩ := rowM_at HLM.out HZL.out k (by omega) _ HZG.out; have HR2 := Lib.hid hr2; clear hO hb hr2))
    | (go_at_call 167; ((with_reducible refine (HZ.out _).mono ?_); rintro e wB ⟨rfl, hb⟩; (try (have hc1 := cell_later hb hc1)); (try (replace HR2 := Lib.hid (HR2.out.kept hb))); (try (replace HLM := Lib.hid (HLM.out.kept hb))); (try (replace HL := Lib.hid (HL.out.kept hb); have e0 := cell_later hb e0; have e1 := cell_later hb e1; have e2 := cell_later hb e2; have e3 := cell_later hb e3; have e4 := cell_later hb e4; have e5 := cell_later hb e5; have e6 := cell_later hb e6)); clear hb))
    | (go_at_call 94; ((with_reducible refine (HV.out _ _ _ HR2.out).mono ?_); rintro e wC ⟨rfl, hb⟩; replace HLM := Lib.hid (HLM.out.kept hb); clear hb))
    | fail)
  all_goals
    have HB := Lib.hid HLM.out.below
    clear HL HLM HR2
    go_wp2_with fail
    go_ret2
    exact ⟨rfl, HB.out⟩
set_option maxRecDepth 100000 in
set_option maxHeartbeats 6400000 in
theorem implWgt_3 (xs : List Int) (k : Nat) (w : World) (hx : xs.length ≤ 1048576) (a : Option Addr) (p : Nat) (hr : Reads w a xs.length xs) (hg : lenB xs = true) (hk : k ≤ xs.length) :
    Calls Try.prog 48 #[.slice a xs.length p, .int .i64 k, .int .i64 3] w fun e w' => e = .returned (.tuple #[.int .i64 (valW 3 (wts xs xs.length k)), .bool true]) ∧ Below w.heap.size w w' := by
  have L0 := Law.start w
  obtain ⟨l1, l2, l3, _⟩ := len_facts hg
  have HC := Lib.hid (over_yes a p xs 3 w hx hr hg (by decide))
  obtain ⟨n, hn⟩ : ∃ n, n = xs.length := ⟨_, rfl⟩
  obtain ⟨M, hM⟩ : ∃ M : Nat → Int, M = fun k => xs.getD k 0 := ⟨_, rfl⟩
  rw [← hM, ← hn] at HC
  have hV := fun a2 p2 W h => wValue_any xs 3 (by decide) n k hg hn a2 p2 W h
  rw [← hn] at hk ⊢
  have HA := Lib.hid (fun W => allWeights_any n xs M W hn hM hg)
  have hzg : ∀ (h : k < (lstR (n + 1) (wts xs n)).length), (lstR (n + 1) (wts xs n))[k] = wts xs n k := fun h => lstR_get _ _ k h
  have hzl := lstR_len (n + 1) (wts xs n)
  have hk6 : n ≤ 6 := by omega
  have HV := Lib.hid hV
  have HZ := Lib.hid size_3
  have hmt := fun w => meth_size3 w
  have HZG := Lib.hid hzg
  have HZL := Lib.hid hzl
  have hk0 : (0 : Int) ≤ k := by omega
  have hk1 : (k : Int) ≤ n := by omega
  have hk2 : (k : Int) < (n : Int) + 1 := by omega
  clear hr hg hM hn l1 l2 l3 hV hzg hzl hx
  generalize lstR (n + 1) (wts xs n) = zz at *
  generalize wts xs n k = ys at *
  rw [fV_three] at HC
  simp only [show ((3 : Nat) : Int) = 3 from rfl] at HC HV
  go_enter Try.func48, Try.ntmps48
  go_wp2_with fail
  refine HC.out.mono ?_
  rintro e w2 ⟨rfl, hb⟩
  have L2 := (L0.kept hb).has (sl n M) 90
  rw [show w2.alloc (.cells (sl n M).toArray 90) = w2.alloc (.cells #[.int .i64 n, .int .i64 (M 0), .int .i64 (M 1), .int .i64 (M 2), .int .i64 (M 3), .int .i64 (M 4), .int .i64 (M 5)] 90) from rfl] at L2
  have HL := Lib.hid L2.drew
  obtain ⟨e0, e1, e2, e3, e4, e5, e6, _⟩ := L2.ownHas.seven
  clear hb L2 HC L0
  go_upto_region 2 with fail
  generalize w2.alloc _ = w5 at *
  go_wp2_with fail
  go_region_with (first
    | (go_at_call 89; ((with_reducible refine (HA.out _).mono ?_); rintro e wA ⟨g, vs, rfl, hO, hb⟩; have HLM := Lib.hid (HL.out.addM hb hO); obtain ⟨a2, p2, hc1, hr2⟩ := rowM_at HLM.out HZL.out k (by omega) _ HZG.out; have HR2 := Lib.hid hr2; clear hO hb hr2))
    | (go_at_call 171; ((with_reducible refine (HZ.out _).mono ?_); rintro e wB ⟨rfl, hb⟩; (try (have hc1 := cell_later hb hc1)); (try (replace HR2 := Lib.hid (HR2.out.kept hb))); (try (replace HLM := Lib.hid (HLM.out.kept hb))); (try (replace HL := Lib.hid (HL.out.kept hb); have e0 := cell_later hb e0; have e1 := cell_later hb e1; have e2 := cell_later hb e2; have e3 := cell_later hb e3; have e4 := cell_later hb e4; have e5 := cell_later hb e5; have e6 := cell_later hb e6)); clear hb))
    | (go_at_call 94; ((with_reducible refine (HV.out _ _ _ HR2.out).mono ?_); rintro e wC ⟨rfl, hb⟩; replace HLM := Lib.hid (HLM.out.kept hb); clear hb))
    | fail)
  all_goals
    have HB := Lib.hid HLM.out.below
    clear HL HLM HR2
    go_wp2_with fail
    go_ret2
    exact ⟨rfl, HB.out⟩
end Go.Proofs.Ytakdiiccdkjjcab
end

section
namespace Go.Proofs.Ytakdiiccdkjjcab
open Go.RowKit Go.WideShapes

set_option maxRecDepth 100000 in
set_option maxHeartbeats 6400000 in
theorem specSum_any (xs : List Int) (q x : Int) (w : World) (hx : xs.length ≤ 1048576) (lo : Nat) (s : Value) (hO : Own w lo s xs) :
    Calls Try.prog 49 #[s, .int .i64 q, .int .i64 x] w (AnsIO (sumQ xs q x) w) := by
  obtain ⟨a, p, rfl, hr⟩ := hO.reads
  clear hO
  have HA := Lib.hid (weArg_any xs q x a p w hx hr)
  cases hv : argV xs q x
  · rw [show sumQ xs q x = ⟨0, false⟩ by simp [sumQ, hv]]
    rw [hv] at HA
    clear hv hr
    go_enter Try.func49, Try.ntmps49
    go_wp2_with fail
    refine HA.out.mono ?_
    rintro e w2 ⟨rfl, hb⟩
    have HB := Lib.hid hb
    clear hb
    go_wp2_with fail
    go_ret2
    exact ⟨rfl, HB.out⟩
  · rw [show sumQ xs q x = ⟨sumT (trmB xs q.toNat x) (xs.length + 1), true⟩ by simp [sumQ, hv]]
    rw [hv] at HA
    simp only [argV, Bool.and_eq_true, decide_eq_true_eq] at hv
    obtain ⟨hg, h4, hq, hxx⟩ := hv
    obtain ⟨Q, rfl, hQ⟩ := isQ_nat hq
    have hx8 := inB_iff.1 hxx
    obtain ⟨l1, l2, l3, _⟩ := len_facts hg
    rw [Int.toNat_natCast]
    have hS := fun k hk => sumS_in xs hg (by omega) Q (by omega) x hx8 k hk
    have HW := Lib.hid (fun W h => weAll_any xs a p W l1 l2 l3 h)
    have hwl := fun k => wts_len xs (fun k => (l3 k).2) xs.length k
    have HAT := Lib.hid (fun k a2 p2 W h => weAt_any (wts xs xs.length k) Q a2 p2 W (by have := hwl k; omega) (by omega) h
      (fun j hj => by have := valW_parts Q (by omega) xs (fun k => (l3 k).2) xs.length k l2 j hj; exact IntWalk.wrap64_in _ (by omega)) (fun j hj => by have := valW_parts Q (by omega) xs (fun k => (l3 k).2) xs.length k l2 j hj; exact IntWalk.wrap64_in _ (by omega)))
    have HVN := Lib.hid (fun k => valW_wts Q xs xs.length k)
    have HZG := Lib.hid (fun k h => lstR_get (xs.length + 1) (wts xs xs.length) k h)
    have HZL := Lib.hid (lstR_len (xs.length + 1) (wts xs xs.length))
    have HBR := Lib.hid (fun m W hm => weBracket_any Q (by omega) m W hm)
    have HR := Lib.hid hr
    have hT := fun k => show sumT (trmB xs Q x) (k + 1) = sumT (trmB xs Q x) k + vN Q xs xs.length k * falB Q x (xs.length - k) from rfl
    have hMS := fun k i => show midB xs Q x k (i + 1) = midB xs Q x k i * brk Q (x - i).toNat by unfold midB; rw [falB, Int.mul_assoc]
    have hM0 := fun k => show midB xs Q x k 0 = vN Q xs xs.length k by unfold midB; rw [falB, Int.mul_one]
    have hME := fun k => show midB xs Q x k (xs.length - k) = vN Q xs xs.length k * falB Q x (xs.length - k) from rfl
    have hT0 : sumT (trmB xs Q x) 0 = 0 := rfl
    obtain ⟨n, hn⟩ : ∃ n, n = xs.length := ⟨_, rfl⟩
    rw [← hn] at hS h4 hx8 HA HR HW HAT HVN HZG HZL ⊢
    simp only [← hn] at hT hM0 hME
    have HS := Lib.hid hS
    have HT := Lib.hid hT
    have HMS := Lib.hid hMS
    have HM0 := Lib.hid hM0
    have HME := Lib.hid hME
    have HT0 := Lib.hid hT0
    have hn4 : n ≤ 4 := by omega
    have hxn : (n : Int) ≤ x := hx8.1
    have hx82 : x ≤ 8 := hx8.2
    clear hg hq hxx hr hQ l1 l2 l3 hS hx h4 hwl hT hMS hM0 hME hT0 hx8 hn
    generalize wts xs n = WW at *
    generalize sumT (trmB xs Q x) = T at *
    generalize midB xs Q x = MB at *
    generalize vN Q xs n = V at *
    generalize falB Q x = FB at *
    generalize lstR (n + 1) WW = zz at *
    generalize brk Q = K at *
    go_enter Try.func49, Try.ntmps49
    go_wp2_with fail
    refine HA.out.mono ?_
    rintro e w2 ⟨rfl, hb⟩
    have HB := Lib.hid hb
    clear hb
    go_wp2_with fail
    refine (HW.out _ (HR.out.kept HB.out)).mono ?_
    rintro e w4 ⟨g, vs, rfl, hO, hb⟩
    have HL := Lib.hid (((Law.start w).kept HB.out).addM hb hO)
    clear hO hb
    go_wp2_with fail
    go_loopw [8, 21] (fun t i wr => ∃ k : Nat, k ≤ n + 1 ∧ i = .int .i64 k ∧ t = .int .i64 (T k) ∧ Law w [tM (.slice (some ⟨g, 0, none⟩) (n + 1) (n + 1)) vs zz] wr) (fun _ i _ => n + 1 - (intOf i).toNat)
    case atStart => exact ⟨0, Nat.zero_le _, rfl, by rw [HT0.out], HL.out⟩
    case round =>
      clear HL
      obtain ⟨k, hk, rfl, rfl, L⟩ := hrel
      by_cases hlt : k < n + 1
      · obtain ⟨a2, p2, hc1, hr2⟩ := rowM_at L HZL.out k hlt _ (HZG.out k)
        have HRR := Lib.hid hr2
        have HL := Lib.hid L
        have HA2 := Lib.hid (HAT.out k)
        have HVK := Lib.hid (HVN.out k)
        have hs := HS.out k (by omega)
        have HMK := Lib.hid (fun i (hi : i ≤ n - k) => (hs.2 i hi).1)
        have htk : -9223372036854775808 ≤ T (k + 1) ∧ T (k + 1) ≤ 9223372036854775807 := by have := hs.1; omega
        have HTK := Lib.hid (HT.out k)
        have HMEK := Lib.hid (HME.out k)
        have HM0K := Lib.hid (HM0.out k)
        have hkn1 : (k : Int) < (n : Int) + 1 := by omega
        have HFIN := Lib.hid (show wrap64 (T k + MB k (n - k)) = T (k + 1) by rw [HMEK.out, ← HTK.out]; exact IntWalk.wrap64_in _ htk)
        clear hr2 L hs htk
        go_wp2_with fail
        refine (HA2.out _ _ _ HRR.out).mono ?_
        rintro e w5 ⟨rfl, rfl⟩
        rw [HVK.out, ← HM0K.out]
        go_wp2_with fail
        go_loopw [11, 12] (fun t i wr' => ∃ j : Nat, j ≤ n - k ∧ i = .int .i64 j ∧ t = .int .i64 (MB k j) ∧ wr = wr') (fun _ i _ => n - k - (intOf i).toNat)
        case atStart => exact ⟨0, Nat.zero_le _, rfl, rfl, rfl⟩
        case round =>
          obtain ⟨j, hj, rfl, rfl, hww⟩ := hrel
          subst hww
          by_cases hlt2 : j < n - k
          · have hjl : (j : Int) < (n : Int) - k := by omega
            obtain ⟨m, hm⟩ := Int.eq_ofNat_of_zero_le (show 0 ≤ x - j by omega)
            have hst := HMS.out k j
            rw [hm, Int.toNat_natCast] at hst
            have hb1 := HMK.out (j + 1) hlt2
            rw [hst] at hb1
            have HB1 := Lib.hid (fun W => show Calls Try.prog 96 #[.int .i64 (x - j), .int .i64 Q] W fun e w' => e = .returned (.int .i64 (K m)) ∧ W = w' by rw [hm]; exact HBR.out m W (by omega))
            have HMU := Lib.hid ((show wrap64 (MB k j * K m) = MB k j * K m from IntWalk.wrap64_in _ (by omega)).trans hst.symm)
            clear hst hb1 hm
            go_wp2_with fail
            refine (HB1.out _).mono ?_
            rintro e w6 ⟨rfl, rfl⟩
            go_wp2_with fail
            go_roundw
            case rel => exact ⟨j + 1, by omega, by go_num, by rw [HMU.out], trivial⟩
            case measure => simp [intOf]; omega
          · have hjl : ¬ (j : Int) < (n : Int) - k := by omega
            have hje : j = n - k := by omega
            rw [show MB k j = MB k (n - k) by rw [hje]]
            clear hje
            go_wp2_with fail
            go_roundw
            case rel => exact ⟨k + 1, by omega, by go_num, by rw [HFIN.out], HL.out⟩
            case measure => simp [intOf]; omega
      · obtain rfl : k = n + 1 := by omega
        have HB := Lib.hid L.below
        clear L
        go_wp2_with fail
        go_ret2
        exact ⟨rfl, HB.out⟩
end Go.Proofs.Ytakdiiccdkjjcab
end
