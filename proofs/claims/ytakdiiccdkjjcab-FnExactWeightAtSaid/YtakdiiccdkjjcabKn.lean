/- The value of weights, in both texts. No condition but the sizes. -/
import Derived.Test.YtakdiiccdkjjcabKm
import Derived.Test.YtakdiiccdkjjcabMr
import Derived.Deep.RegionWith
namespace Go.Proofs.Ytakdiiccdkjjcab
open Go.RowKit Go.WideShapes

theorem wValue_any (xs : List Int) (q : Nat) (hq : q ≤ 3) (n k : Nat) (hg : lenB xs = true) (hn : n = xs.length) (a2 : Option Addr) (p2 : Nat) (W : World) (h : Reads W a2 (wts xs n k).length (wts xs n k)) :
    Calls Try.prog 94 #[.slice a2 (wts xs n k).length p2, .int .i64 q] W fun e w' => e = .returned (.int .i64 (valW q (wts xs n k))) ∧ Below W.heap.size W w' := by
  subst hn
  obtain ⟨l1, l2, l3, _⟩ := len_facts hg
  have hwp := valW_parts q hq xs (fun k => (l3 k).2) xs.length k l2
  have hwl := wts_len xs (fun k => (l3 k).2) xs.length k
  exact valueAt_any (wts xs xs.length k) q a2 p2 W (by omega) h (fun j hj W => powerq_any q hq j W (by omega))
    (fun j hj => by
      have := hwp j hj
      rw [show trmV (wts xs xs.length k) q j = trmW q (wts xs xs.length k) j from rfl]
      exact IntWalk.i64_in _ (by omega))
    (fun j hj => by
      have := hwp j hj
      rw [show trmV (wts xs xs.length k) q = trmW q (wts xs xs.length k) from rfl]
      exact IntWalk.i64_in _ (by omega))
set_option maxRecDepth 100000 in
set_option maxHeartbeats 6400000 in
theorem implWgt_2 (xs : List Int) (k : Nat) (w : World) (hx : xs.length ≤ 1048576) (a : Option Addr) (p : Nat) (hr : Reads w a xs.length xs) (hg : lenB xs = true) (hk : k ≤ xs.length) :
    Calls Try.prog 48 #[.slice a xs.length p, .int .i64 k, .int .i64 2] w fun e w' => e = .returned (.tuple #[.int .i64 (valW 2 (wts xs xs.length k)), .bool true]) ∧ Below w.heap.size w w' := by
  have L0 := Law.start w
  obtain ⟨l1, l2, l3, _⟩ := len_facts hg
  have HC := Lib.hid (over_yes a p xs 2 w hx hr hg (by decide))
  obtain ⟨n, hn⟩ : ∃ n, n = xs.length := ⟨_, rfl⟩
  obtain ⟨M, hM⟩ : ∃ M : Nat → Int, M = fun k => xs.getD k 0 := ⟨_, rfl⟩
  rw [← hM, ← hn] at HC
  have hV := fun a2 p2 W h => wValue_any xs 2 (by decide) n k hg hn a2 p2 W h
  rw [← hn] at hk ⊢
  have HA := Lib.hid (fun W => allWeights_any n xs M W hn hM hg)
  have hzg : ∀ (h : k < (lstR (n + 1) (wts xs n)).length), (lstR (n + 1) (wts xs n))[k] = wts xs n k := fun h => lstR_get _ _ k h
  have hzl := lstR_len (n + 1) (wts xs n)
  have hk6 : n ≤ 6 := by omega
  have HV := Lib.hid hV
  have HZ := Lib.hid size_2
  have hmt := fun w => meth_size2 w
  have HZG := Lib.hid hzg
  have HZL := Lib.hid hzl
  have hk0 : (0 : Int) ≤ k := by omega
  have hk1 : (k : Int) ≤ n := by omega
  have hk2 : (k : Int) < (n : Int) + 1 := by omega
  clear hr hg hM hn l1 l2 l3 hV hzg hzl hx
  generalize lstR (n + 1) (wts xs n) = zz at *
  generalize wts xs n k = ys at *
  rw [fV_two] at HC
  simp only [show ((2 : Nat) : Int) = 2 from rfl] at HC HV
  go_enter Try.func48, Try.ntmps48
  go_wp2_with fail
  refine HC.out.mono ?_
  rintro e w2 ⟨rfl, hb⟩
  have L2 := (L0.kept hb).has (sl n M) 90
  rw [show w2.alloc (.cells (sl n M).toArray 90) = w2.alloc (.cells #[.int .i64 n, .int .i64 (M 0), .int .i64 (M 1), .int .i64 (M 2), .int .i64 (M 3), .int .i64 (M 4), .int .i64 (M 5)] 90) from rfl] at L2
  have HL := Lib.hid L2.drew
  obtain ⟨e0, e1, e2, e3, e4, e5, e6, _⟩ := L2.ownHas.seven
  clear hb L2 HC L0
  go_upto_region 2 with fail
  generalize w2.alloc _ = w5 at *
  go_wp2_with fail
  go_region_with (first
    | (go_at_call 89; ((with_reducible refine (HA.out _).mono ?_); rintro e wA ⟨g, vs, rfl, hO, hb⟩; have HLM := Lib.hid (HL.out.addM hb hO); obtain ⟨a2, p2, hc1, hr2⟩ := rowM_at HLM.out HZL.out k (by omega) _ HZG.out; have HR2 := Lib.hid hr2; clear hO hb hr2))
    | (go_at_call 167; ((with_reducible refine (HZ.out _).mono ?_); rintro e wB ⟨rfl, hb⟩; (try (have hc1 := cell_later hb hc1)); (try (replace HR2 := Lib.hid (HR2.out.kept hb))); (try (replace HLM := Lib.hid (HLM.out.kept hb))); (try (replace HL := Lib.hid (HL.out.kept hb); have e0 := cell_later hb e0; have e1 := cell_later hb e1; have e2 := cell_later hb e2; have e3 := cell_later hb e3; have e4 := cell_later hb e4; have e5 := cell_later hb e5; have e6 := cell_later hb e6)); clear hb))
    | (go_at_call 94; ((with_reducible refine (HV.out _ _ _ HR2.out).mono ?_); rintro e wC ⟨rfl, hb⟩; replace HLM := Lib.hid (HLM.out.kept hb); clear hb))
    | fail)
  all_goals
    have HB := Lib.hid HLM.out.below
    clear HL HLM HR2
    go_wp2_with fail
    go_ret2
    exact ⟨rfl, HB.out⟩
set_option maxRecDepth 100000 in
set_option maxHeartbeats 6400000 in
theorem implWgt_3 (xs : List Int) (k : Nat) (w : World) (hx : xs.length ≤ 1048576) (a : Option Addr) (p : Nat) (hr : Reads w a xs.length xs) (hg : lenB xs = true) (hk : k ≤ xs.length) :
    Calls Try.prog 48 #[.slice a xs.length p, .int .i64 k, .int .i64 3] w fun e w' => e = .returned (.tuple #[.int .i64 (valW 3 (wts xs xs.length k)), .bool true]) ∧ Below w.heap.size w w' := by
  have L0 := Law.start w
  obtain ⟨l1, l2, l3, _⟩ := len_facts hg
  have HC := Lib.hid (over_yes a p xs 3 w hx hr hg (by decide))
  obtain ⟨n, hn⟩ : ∃ n, n = xs.length := ⟨_, rfl⟩
  obtain ⟨M, hM⟩ : ∃ M : Nat → Int, M = fun k => xs.getD k 0 := ⟨_, rfl⟩
  rw [← hM, ← hn] at HC
  have hV := fun a2 p2 W h => wValue_any xs 3 (by decide) n k hg hn a2 p2 W h
  rw [← hn] at hk ⊢
  have HA := Lib.hid (fun W => allWeights_any n xs M W hn hM hg)
  have hzg : ∀ (h : k < (lstR (n + 1) (wts xs n)).length), (lstR (n + 1) (wts xs n))[k] = wts xs n k := fun h => lstR_get _ _ k h
  have hzl := lstR_len (n + 1) (wts xs n)
  have hk6 : n ≤ 6 := by omega
  have HV := Lib.hid hV
  have HZ := Lib.hid size_3
  have hmt := fun w => meth_size3 w
  have HZG := Lib.hid hzg
  have HZL := Lib.hid hzl
  have hk0 : (0 : Int) ≤ k := by omega
  have hk1 : (k : Int) ≤ n := by omega
  have hk2 : (k : Int) < (n : Int) + 1 := by omega
  clear hr hg hM hn l1 l2 l3 hV hzg hzl hx
  generalize lstR (n + 1) (wts xs n) = zz at *
  generalize wts xs n k = ys at *
  rw [fV_three] at HC
  simp only [show ((3 : Nat) : Int) = 3 from rfl] at HC HV
  go_enter Try.func48, Try.ntmps48
  go_wp2_with fail
  refine HC.out.mono ?_
  rintro e w2 ⟨rfl, hb⟩
  have L2 := (L0.kept hb).has (sl n M) 90
  rw [show w2.alloc (.cells (sl n M).toArray 90) = w2.alloc (.cells #[.int .i64 n, .int .i64 (M 0), .int .i64 (M 1), .int .i64 (M 2), .int .i64 (M 3), .int .i64 (M 4), .int .i64 (M 5)] 90) from rfl] at L2
  have HL := Lib.hid L2.drew
  obtain ⟨e0, e1, e2, e3, e4, e5, e6, _⟩ := L2.ownHas.seven
  clear hb L2 HC L0
  go_upto_region 2 with fail
  generalize w2.alloc _ = w5 at *
  go_wp2_with fail
  go_region_with (first
    | (go_at_call 89; ((with_reducible refine (HA.out _).mono ?_); rintro e wA ⟨g, vs, rfl, hO, hb⟩; have HLM := Lib.hid (HL.out.addM hb hO); obtain ⟨a2, p2, hc1, hr2⟩ := rowM_at HLM.out HZL.out k (by omega) _ HZG.out; have HR2 := Lib.hid hr2; clear hO hb hr2))
    | (go_at_call 171; ((with_reducible refine (HZ.out _).mono ?_); rintro e wB ⟨rfl, hb⟩; (try (have hc1 := cell_later hb hc1)); (try (replace HR2 := Lib.hid (HR2.out.kept hb))); (try (replace HLM := Lib.hid (HLM.out.kept hb))); (try (replace HL := Lib.hid (HL.out.kept hb); have e0 := cell_later hb e0; have e1 := cell_later hb e1; have e2 := cell_later hb e2; have e3 := cell_later hb e3; have e4 := cell_later hb e4; have e5 := cell_later hb e5; have e6 := cell_later hb e6)); clear hb))
    | (go_at_call 94; ((with_reducible refine (HV.out _ _ _ HR2.out).mono ?_); rintro e wC ⟨rfl, hb⟩; replace HLM := Lib.hid (HLM.out.kept hb); clear hb))
    | fail)
  all_goals
    have HB := Lib.hid HLM.out.below
    clear HL HLM HR2
    go_wp2_with fail
    go_ret2
    exact ⟨rfl, HB.out⟩
end Go.Proofs.Ytakdiiccdkjjcab
