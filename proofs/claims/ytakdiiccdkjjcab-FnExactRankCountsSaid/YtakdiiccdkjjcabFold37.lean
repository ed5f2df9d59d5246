import Derived.Test.YtakdiiccdkjjcabFold36
namespace Go.Proofs.Ytakdiiccdkjjcab
open Go.RowKit Go.WideShapes

theorem rkR_yes (xs : List Int) (Q : Nat) (hg : lenB xs = true) (hq : isQ (Q : Int) = true) (hc : celN xs xs.length ≤ 20) : rkR xs Q = ⟨lstI (xs.length + 1) (rkN xs Q), true⟩ := by
  have h : (decide ((celN xs xs.length : Int) ≤ 20)) = true := by simp; omega
  simp [rkR, hg, hq, h]
theorem rkR_len0 (xs : List Int) (q : Int) (hg : lenB xs = false) : rkR xs q = ⟨[], false⟩ := by simp [rkR, hg]
theorem rkR_q (xs : List Int) (q : Int) (hg : isQ q = false) : rkR xs q = ⟨[], false⟩ := by simp [rkR, hg]
theorem rkR_big (xs : List Int) (q : Int) (hc : ¬ celN xs xs.length ≤ 20) : rkR xs q = ⟨[], false⟩ := by
  have h : (decide ((celN xs xs.length : Int) ≤ 20)) = false := by simp; omega
  simp [rkR, h]
theorem rkR_no (xs : List Int) (q : Int) (hg : (lenB xs && isQ q) = false) : rkR xs q = ⟨[], false⟩ := by
  cases h1 : lenB xs
  · exact rkR_len0 xs q h1
  · rw [h1, Bool.true_and] at hg
    exact rkR_q xs q hg

set_option maxRecDepth 100000 in
set_option maxHeartbeats 3200000 in
theorem specRkc_any (xs : List Int) (q : Int) (w : World) (hx : xs.length ≤ 1048576) (lo : Nat) (s : Value) (hO : Own w lo s xs) :
    Calls Try.prog 51 #[s, .int .i64 q] w fun e w' => AnsL (rkR xs q) w e w' := by
  obtain ⟨a, p, rfl, hr⟩ := hO.reads
  clear hO
  have HG := Lib.hid (feGood_any a p xs w hx hr)
  have HQ := Lib.hid (weBase_any q)
  cases hg : lenB xs
  · rw [rkR_len0 xs q hg]
    rw [hg] at HG
    clear hg hr HQ
    go_enter Try.func51, Try.ntmps51
    go_wp2_with fail
    refine HG.out.mono ?_
    rintro e w2 ⟨rfl, hb⟩
    have HB := Lib.hid hb
    clear hb
    go_wp2_with fail
    go_ret2
    exact ⟨_, rfl, Own.nil _ _, HB.out⟩
  · cases hq : isQ q
    · rw [rkR_q xs q hq]
      rw [hg] at HG
      rw [hq] at HQ
      clear hg hr hq
      go_enter Try.func51, Try.ntmps51
      go_wp2_with fail
      refine HG.out.mono ?_
      rintro e w2 ⟨rfl, hb⟩
      have HB := Lib.hid hb
      clear hb
      go_wp2_with fail
      refine (HQ.out _).mono ?_
      rintro e w3 ⟨rfl, rfl⟩
      go_wp2_with fail
      go_ret2
      exact ⟨_, rfl, Own.nil _ _, HB.out⟩
    · by_cases hc : celN xs xs.length ≤ 20
      · obtain ⟨Q, rfl, hQ⟩ := isQ_nat hq
        rw [rkR_yes xs Q hg hq hc]
        exact specRkc_yes xs Q w hx a p hr hg hQ hc
      · rw [rkR_big xs q hc]
        rw [hg] at HG
        rw [hq] at HQ
        obtain ⟨l1, l2, l3, _⟩ := len_facts hg
        have HCE := Lib.hid (fun W h => weCells_any xs.length xs a p W rfl (by omega) l3 h)
        have HR := Lib.hid hr
        have hC : 20 < ((celN xs xs.length : Nat) : Int) := by omega
        clear hg hr hq hc l3
        generalize celN xs xs.length = C at *
        go_enter Try.func51, Try.ntmps51
        go_wp2_with fail
        refine HG.out.mono ?_
        rintro e w2 ⟨rfl, hb⟩
        have HB := Lib.hid hb
        clear hb
        go_wp2_with fail
        refine (HQ.out _).mono ?_
        rintro e w3 ⟨rfl, rfl⟩
        go_wp2_with fail
        refine (HCE.out _ (HR.out.kept HB.out)).mono ?_
        rintro e w3 ⟨rfl, rfl⟩
        go_wp2_with fail
        go_ret2
        exact ⟨_, rfl, Own.nil _ _, HB.out⟩
set_option maxRecDepth 100000 in
set_option maxHeartbeats 3200000 in
theorem implRkcBig_2 (xs : List Int) (w : World) (hx : xs.length ≤ 1048576) (a : Option Addr) (p : Nat) (hr : Reads w a xs.length xs) (hg : lenB xs = true) (hc : ¬ celN xs xs.length ≤ 20) :
    Calls Try.prog 52 #[.slice a xs.length p, .int .i64 2] w (AnsL ⟨[], false⟩ w) := by
  have L0 := Law.start w
  obtain ⟨l1, l2, l3, _⟩ := len_facts hg
  have HC := Lib.hid (over_yes a p xs 2 w hx hr hg (by decide))
  obtain ⟨n, hn⟩ : ∃ n, n = xs.length := ⟨_, rfl⟩
  obtain ⟨M, hM⟩ : ∃ M : Nat → Int, M = fun k => xs.getD k 0 := ⟨_, rfl⟩
  rw [← hM, ← hn] at HC
  have hCE := fun W => cells_any n xs M W hn.symm (by omega) (fun j => by rw [hM]) l3
  rw [← hn] at hc ⊢
  rw [fV_two] at HC
  simp only [show ((2 : Nat) : Int) = 2 from rfl] at HC
  have HCE := Lib.hid hCE
  have hC20 : 20 < ((celN xs n : Nat) : Int) := by omega
  clear hCE hg hn hr l1 l3 hx hM hc
  generalize celN xs n = C at *
  go_enter Try.func52, Try.ntmps52
  go_wp2_with fail
  refine HC.out.mono ?_
  rintro e w2 ⟨rfl, hb⟩
  have L2 := ((L0.kept hb).has (sl n M) 90).has [fV2] 95
  simp only [World.size_alloc] at L2
  rw [show (w2.alloc (.cells (sl n M).toArray 90)).alloc (.cells ([fV2] : List Value).toArray 95) = (w2.alloc (.cells #[.int .i64 n, .int .i64 (M 0), .int .i64 (M 1), .int .i64 (M 2), .int .i64 (M 3), .int .i64 (M 4), .int .i64 (M 5)] 90)).alloc (.cells #[fV2] 95) from rfl] at L2
  have HL2 := Lib.hid L2
  clear hb L2 HC L0
  go_upto_region 2 with fail
  generalize (w2.alloc _).alloc _ = w5 at *
  obtain ⟨e0, e1, e2, e3, e4, e5, e6, _⟩ := HL2.out.tl.ownHas.seven
  go_wp2_with fail
  refine (HCE.out _).mono ?_
  rintro e w6 ⟨rfl, hb⟩
  have HB := Lib.hid (HL2.out.kept hb).below
  clear hb e0 e1 e2 e3 e4 e5 e6 HL2
  go_wp2_with fail
  go_ret2
  exact ⟨_, rfl, Own.nil _ _, HB.out⟩
set_option maxRecDepth 100000 in
set_option maxHeartbeats 3200000 in
theorem implRkcBig_3 (xs : List Int) (w : World) (hx : xs.length ≤ 1048576) (a : Option Addr) (p : Nat) (hr : Reads w a xs.length xs) (hg : lenB xs = true) (hc : ¬ celN xs xs.length ≤ 20) :
    Calls Try.prog 52 #[.slice a xs.length p, .int .i64 3] w (AnsL ⟨[], false⟩ w) := by
  have L0 := Law.start w
  obtain ⟨l1, l2, l3, _⟩ := len_facts hg
  have HC := Lib.hid (over_yes a p xs 3 w hx hr hg (by decide))
  obtain ⟨n, hn⟩ : ∃ n, n = xs.length := ⟨_, rfl⟩
  obtain ⟨M, hM⟩ : ∃ M : Nat → Int, M = fun k => xs.getD k 0 := ⟨_, rfl⟩
  rw [← hM, ← hn] at HC
  have hCE := fun W => cells_any n xs M W hn.symm (by omega) (fun j => by rw [hM]) l3
  rw [← hn] at hc ⊢
  rw [fV_three] at HC
  simp only [show ((3 : Nat) : Int) = 3 from rfl] at HC
  have HCE := Lib.hid hCE
  have hC20 : 20 < ((celN xs n : Nat) : Int) := by omega
  clear hCE hg hn hr l1 l3 hx hM hc
  generalize celN xs n = C at *
  go_enter Try.func52, Try.ntmps52
  go_wp2_with fail
  refine HC.out.mono ?_
  rintro e w2 ⟨rfl, hb⟩
  have L2 := ((L0.kept hb).has (sl n M) 90).has [fV3] 95
  simp only [World.size_alloc] at L2
  rw [show (w2.alloc (.cells (sl n M).toArray 90)).alloc (.cells ([fV3] : List Value).toArray 95) = (w2.alloc (.cells #[.int .i64 n, .int .i64 (M 0), .int .i64 (M 1), .int .i64 (M 2), .int .i64 (M 3), .int .i64 (M 4), .int .i64 (M 5)] 90)).alloc (.cells #[fV3] 95) from rfl] at L2
  have HL2 := Lib.hid L2
  clear hb L2 HC L0
  go_upto_region 2 with fail
  generalize (w2.alloc _).alloc _ = w5 at *
  obtain ⟨e0, e1, e2, e3, e4, e5, e6, _⟩ := HL2.out.tl.ownHas.seven
  go_wp2_with fail
  refine (HCE.out _).mono ?_
  rintro e w6 ⟨rfl, hb⟩
  have HB := Lib.hid (HL2.out.kept hb).below
  clear hb e0 e1 e2 e3 e4 e5 e6 HL2
  go_wp2_with fail
  go_ret2
  exact ⟨_, rfl, Own.nil _ _, HB.out⟩
set_option maxRecDepth 100000 in
set_option maxHeartbeats 3200000 in
theorem implRkc_any (xs : List Int) (q : Int) (w : World) (hx : xs.length ≤ 1048576) (lo : Nat) (s : Value) (hO : Own w lo s xs) :
    Calls Try.prog 52 #[s, .int .i64 q] w fun e w' => AnsL (rkR xs q) w e w' := by
  obtain ⟨a, p, rfl, hr⟩ := hO.reads
  clear hO
  cases hv : lenB xs && isQ q
  · rw [rkR_no xs q hv]
    have HC := Lib.hid (over_noG a p xs q w hx hr hv)
    clear hv hr
    go_enter Try.func52, Try.ntmps52
    go_wp2_with fail
    refine HC.out.mono ?_
    rintro e w2 ⟨⟨u, N, F, hF, rfl⟩, hb⟩
    have HB := Lib.hid hb
    clear hb HC
    rcases hF with rfl | rfl | rfl
    all_goals
      go_upto_region 2 with fail
      go_wp2_with fail
      go_ret2
      exact ⟨_, rfl, Own.nil _ _, below_on HB.out (below_on (below_new _) (below_new _))⟩
  · simp only [Bool.and_eq_true] at hv
    obtain ⟨hg, hq⟩ := hv
    obtain ⟨Q, rfl, hQ⟩ := isQ_nat hq
    by_cases hc : celN xs xs.length ≤ 20
    · rw [rkR_yes xs Q hg hq hc]
      rcases hQ with rfl | rfl
      · exact implRkc_2 xs w hx a p hr hg hc
      · exact implRkc_3 xs w hx a p hr hg hc
    · rw [rkR_big xs Q hc]
      rcases hQ with rfl | rfl
      · exact implRkcBig_2 xs w hx a p hr hg hc
      · exact implRkcBig_3 xs w hx a p hr hg hc
end Go.Proofs.Ytakdiiccdkjjcab
