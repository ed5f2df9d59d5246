import Derived.Test.YtakdiiccdkjjcabFold28
namespace Go.Proofs.Ytakdiiccdkjjcab
open Go.RowKit Go.WideShapes

set_option maxRecDepth 100000 in
set_option maxHeartbeats 6400000 in
theorem implSum_2 (xs : List Int) (x : Int) (w : World) (hx : xs.length ≤ 1048576) (a : Option Addr) (p : Nat) (hr : Reads w a xs.length xs) (hg : lenB xs = true) (h4 : (xs.length : Int) ≤ 4) (hx1 : (xs.length : Int) ≤ x) (hx2 : x ≤ 8) :
    Calls Try.prog 50 #[.slice a xs.length p, .int .i64 2, .int .i64 x] w fun e w' => e = .returned (.tuple #[.int .i64 (sumT (trmB xs 2 x) (xs.length + 1)), .bool true]) ∧ Below w.heap.size w w' := by
  have L0 := (Law.start w).has [.int .i64 x] 3
  rw [show w.alloc (.cells [.int .i64 x].toArray 3) = w.alloc (.cells #[.int .i64 x] 3) from rfl] at L0
  have HC := Lib.hid (valued_yes a p xs 2 x _ hx (L0.reads hr) hg (by decide) h4 hx1 hx2)
  have hS := fun k hk => sumS_in xs hg (by omega) 2 (by decide) x ⟨hx1, hx2⟩ k hk
  obtain ⟨n, hn⟩ : ∃ n, n = xs.length := ⟨_, rfl⟩
  obtain ⟨M, hM⟩ : ∃ M : Nat → Int, M = fun k => xs.getD k 0 := ⟨_, rfl⟩
  rw [← hM, ← hn] at HC
  rw [← hn] at h4 hx1 ⊢
  have HA := Lib.hid (fun W => allWeights_any n xs M W hn hM hg)
  have hV := fun k a2 p2 W h => wValue_any xs 2 (by decide) n k hg hn a2 p2 W h
  simp only [show ∀ k, valW ((2 : Nat) : Int) (wts xs n k) = vN 2 xs n k from fun k => valW_wts 2 xs n k] at hV
  have hFB := fun k (hk : k ≤ n) W => fallB_any 2 (by decide) x (n - k) W (by omega) hx2 (fun i hi => ((hS k (by omega)).2 i (by rw [← hn]; exact hi)).2)
  rw [fV_two] at HC hFB
  simp only [show ((2 : Nat) : Int) = 2 from rfl] at HC hV
  have hterm : ∀ k, trmB xs 2 x k = vN 2 xs n k * falB 2 x (n - k) := fun k => by rw [hn]; rfl
  have hmul : ∀ k, k ≤ n → IntKind.i64.wrap (vN 2 xs n k * falB 2 x (n - k)) = vN 2 xs n k * falB 2 x (n - k) := fun k hk => by
    have h9 := ((hS k (by omega)).2 (n - k) (by omega)).1
    unfold midB at h9
    rw [← hn] at h9
    exact IntWalk.i64_in _ (by simp only [show ((2 : Nat) : Int) = 2 from rfl] at h9; omega)
  have hsw : ∀ k, k < n + 1 → IntKind.i64.wrap (sumT (trmB xs 2 x) k + trmB xs 2 x k) = sumT (trmB xs 2 x) k + trmB xs 2 x k := fun k hk => by
    have h9 := (hS k (by omega)).1
    rw [sumT] at h9
    exact IntWalk.i64_in _ (by omega)
  have hzg := fun k h => lstR_get (n + 1) (wts xs n) k h
  have hzl := lstR_len (n + 1) (wts xs n)
  have hn4 : n ≤ 4 := by omega
  have HSUM := Lib.hid (fun (bw bf bx bs g : Nat) (vs : List Value) (W : World) (L : Law w [tHas bw [.slice (some ⟨g, 0, none⟩) (n + 1) (n + 1)] 37, tM (.slice (some ⟨g, 0, none⟩) (n + 1) (n + 1)) vs (lstR (n + 1) (wts xs n)), tHas bf [fV2] 95, tHas bs (sl n M) 90, tHas bx [.int .i64 x] 3] W) =>
    sumOfTerms_any (n + 1) 99 #[.pointer (some ⟨bw, 0, none⟩), .pointer (some ⟨bf, 0, none⟩), .pointer (some ⟨bx, 0, none⟩), .pointer (some ⟨bs, 0, none⟩)] (trmB xs 2 x) W (by omega) (fun _ _ => by kernel_rfl)
      (fun j hj w' hb' => by
        have L2 := L.kept hb'
        have c1 := L2.ownHas.cell 0
        have c2 := L2.tl.tl.ownHas.cell 0
        have c3 := L2.tl.tl.tl.ownHas.cell 0
        have c4 := L2.tl.tl.tl.tl.ownHas.cell 0
        simp only [List.getElem?_cons_zero] at c1 c2 c3 c4
        obtain ⟨a2, p2, hc1, hr2⟩ := rowM_at L2.tl hzl j hj _ (hzg j)
        rw [hterm j]
        refine sum1_2 bw bf bx bs g n j p2 a2 (wts xs n j) x (vN 2 xs n j) (falB 2 x (n - j)) w' (by omega) hn4 c1 c2 c4 c3 hc1 hr2 (hV j) (fun W' => ?_) (hmul j (by omega))
        have h8 := hFB j (by omega) W'
        rw [show ((n - j : Nat) : Int) = (n : Int) - j by omega] at h8
        exact h8)
      hsw)
  have HL := Lib.hid L0
  clear hr hg hM hn h4 hV hFB hS hterm hmul hsw hzg hzl hx L0
  generalize lstR (n + 1) (wts xs n) = zz at *
  generalize sumT (trmB xs 2 x) (n + 1) = T at *
  go_enter Try.func50, Try.ntmps50
  have x0 := HL.out.ownHas.cell 0
  simp only [List.getElem?_cons_zero] at x0
  go_wp2_with fail
  refine HC.out.mono ?_
  rintro e w2 ⟨rfl, hb⟩
  have L2 := ((HL.out.kept hb).has (sl n M) 90).has [fV2] 95
  simp only [World.size_alloc] at L2
  rw [show (w2.alloc (.cells (sl n M).toArray 90)).alloc (.cells ([fV2] : List Value).toArray 95) = (w2.alloc (.cells #[.int .i64 n, .int .i64 (M 0), .int .i64 (M 1), .int .i64 (M 2), .int .i64 (M 3), .int .i64 (M 4), .int .i64 (M 5)] 90)).alloc (.cells #[fV2] 95) from rfl] at L2
  have HL2 := Lib.hid L2
  clear hb L2 HC HL x0
  go_upto_region 2 with fail
  generalize (w2.alloc _).alloc _ = w5 at *
  obtain ⟨e0, e1, e2, e3, e4, e5, e6, _⟩ := HL2.out.tl.ownHas.seven
  go_wp2_with fail
  refine (HA.out _).mono ?_
  rintro e w6 ⟨g, vs, rfl, hO, hb⟩
  have L6 := (HL2.out.addM hb hO).has [.slice (some ⟨g, 0, none⟩) (n + 1) (n + 1)] 37
  rw [show w6.alloc (.cells ([.slice (some ⟨g, 0, none⟩) (n + 1) (n + 1)] : List Value).toArray 37) = w6.alloc (.cells #[.slice (some ⟨g, 0, none⟩) (n + 1) (n + 1)] 37) from rfl] at L6
  have HL6 := Lib.hid L6
  clear hO hb L6 HL2 e0 e1 e2 e3 e4 e5 e6
  go_upto_region 5 with fail
  generalize w6.alloc _ = w7 at *
  have c0 := HL6.out.ownHas.cell 0
  simp only [List.getElem?_cons_zero] at c0
  have HS7 := Lib.hid (HSUM.out _ _ _ _ _ _ w7 HL6.out)
  rw [show ((n + 1 : Nat) : Int) = (n : Int) + 1 by omega] at HS7
  go_wp2_with fail
  refine HS7.out.mono ?_
  rintro e w8 ⟨rfl, hb⟩
  have HB := Lib.hid (HL6.out.kept hb).below
  clear hb HL6 HS7
  go_wp2_with fail
  go_ret2
  exact ⟨rfl, HB.out⟩
set_option maxRecDepth 100000 in
set_option maxHeartbeats 6400000 in
theorem implSum_3 (xs : List Int) (x : Int) (w : World) (hx : xs.length ≤ 1048576) (a : Option Addr) (p : Nat) (hr : Reads w a xs.length xs) (hg : lenB xs = true) (h4 : (xs.length : Int) ≤ 4) (hx1 : (xs.length : Int) ≤ x) (hx2 : x ≤ 8) :
    Calls Try.prog 50 #[.slice a xs.length p, .int .i64 3, .int .i64 x] w fun e w' => e = .returned (.tuple #[.int .i64 (sumT (trmB xs 3 x) (xs.length + 1)), .bool true]) ∧ Below w.heap.size w w' := by
  have L0 := (Law.start w).has [.int .i64 x] 3
  rw [show w.alloc (.cells [.int .i64 x].toArray 3) = w.alloc (.cells #[.int .i64 x] 3) from rfl] at L0
  have HC := Lib.hid (valued_yes a p xs 3 x _ hx (L0.reads hr) hg (by decide) h4 hx1 hx2)
  have hS := fun k hk => sumS_in xs hg (by omega) 3 (by decide) x ⟨hx1, hx2⟩ k hk
  obtain ⟨n, hn⟩ : ∃ n, n = xs.length := ⟨_, rfl⟩
  obtain ⟨M, hM⟩ : ∃ M : Nat → Int, M = fun k => xs.getD k 0 := ⟨_, rfl⟩
  rw [← hM, ← hn] at HC
  rw [← hn] at h4 hx1 ⊢
  have HA := Lib.hid (fun W => allWeights_any n xs M W hn hM hg)
  have hV := fun k a2 p2 W h => wValue_any xs 3 (by decide) n k hg hn a2 p2 W h
  simp only [show ∀ k, valW ((3 : Nat) : Int) (wts xs n k) = vN 3 xs n k from fun k => valW_wts 3 xs n k] at hV
  have hFB := fun k (hk : k ≤ n) W => fallB_any 3 (by decide) x (n - k) W (by omega) hx2 (fun i hi => ((hS k (by omega)).2 i (by rw [← hn]; exact hi)).2)
  rw [fV_three] at HC hFB
  simp only [show ((3 : Nat) : Int) = 3 from rfl] at HC hV
  have hterm : ∀ k, trmB xs 3 x k = vN 3 xs n k * falB 3 x (n - k) := fun k => by rw [hn]; rfl
  have hmul : ∀ k, k ≤ n → IntKind.i64.wrap (vN 3 xs n k * falB 3 x (n - k)) = vN 3 xs n k * falB 3 x (n - k) := fun k hk => by
    have h9 := ((hS k (by omega)).2 (n - k) (by omega)).1
    unfold midB at h9
    rw [← hn] at h9
    exact IntWalk.i64_in _ (by simp only [show ((3 : Nat) : Int) = 3 from rfl] at h9; omega)
  have hsw : ∀ k, k < n + 1 → IntKind.i64.wrap (sumT (trmB xs 3 x) k + trmB xs 3 x k) = sumT (trmB xs 3 x) k + trmB xs 3 x k := fun k hk => by
    have h9 := (hS k (by omega)).1
    rw [sumT] at h9
    exact IntWalk.i64_in _ (by omega)
  have hzg := fun k h => lstR_get (n + 1) (wts xs n) k h
  have hzl := lstR_len (n + 1) (wts xs n)
  have hn4 : n ≤ 4 := by omega
  have HSUM := Lib.hid (fun (bw bf bx bs g : Nat) (vs : List Value) (W : World) (L : Law w [tHas bw [.slice (some ⟨g, 0, none⟩) (n + 1) (n + 1)] 37, tM (.slice (some ⟨g, 0, none⟩) (n + 1) (n + 1)) vs (lstR (n + 1) (wts xs n)), tHas bf [fV3] 95, tHas bs (sl n M) 90, tHas bx [.int .i64 x] 3] W) =>
    sumOfTerms_any (n + 1) 99 #[.pointer (some ⟨bw, 0, none⟩), .pointer (some ⟨bf, 0, none⟩), .pointer (some ⟨bx, 0, none⟩), .pointer (some ⟨bs, 0, none⟩)] (trmB xs 3 x) W (by omega) (fun _ _ => by kernel_rfl)
      (fun j hj w' hb' => by
        have L2 := L.kept hb'
        have c1 := L2.ownHas.cell 0
        have c2 := L2.tl.tl.ownHas.cell 0
        have c3 := L2.tl.tl.tl.ownHas.cell 0
        have c4 := L2.tl.tl.tl.tl.ownHas.cell 0
        simp only [List.getElem?_cons_zero] at c1 c2 c3 c4
        obtain ⟨a2, p2, hc1, hr2⟩ := rowM_at L2.tl hzl j hj _ (hzg j)
        rw [hterm j]
        refine sum1_3 bw bf bx bs g n j p2 a2 (wts xs n j) x (vN 3 xs n j) (falB 3 x (n - j)) w' (by omega) hn4 c1 c2 c4 c3 hc1 hr2 (hV j) (fun W' => ?_) (hmul j (by omega))
        have h8 := hFB j (by omega) W'
        rw [show ((n - j : Nat) : Int) = (n : Int) - j by omega] at h8
        exact h8)
      hsw)
  have HL := Lib.hid L0
  clear hr hg hM hn h4 hV hFB hS hterm hmul hsw hzg hzl hx L0
  generalize lstR (n + 1) (wts xs n) = zz at *
  generalize sumT (trmB xs 3 x) (n + 1) = T at *
  go_enter Try.func50, Try.ntmps50
  have x0 := HL.out.ownHas.cell 0
  simp only [List.getElem?_cons_zero] at x0
  go_wp2_with fail
  refine HC.out.mono ?_
  rintro e w2 ⟨rfl, hb⟩
  have L2 := ((HL.out.kept hb).has (sl n M) 90).has [fV3] 95
  simp only [World.size_alloc] at L2
  rw [show (w2.alloc (.cells (sl n M).toArray 90)).alloc (.cells ([fV3] : List Value).toArray 95) = (w2.alloc (.cells #[.int .i64 n, .int .i64 (M 0), .int .i64 (M 1), .int .i64 (M 2), .int .i64 (M 3), .int .i64 (M 4), .int .i64 (M 5)] 90)).alloc (.cells #[fV3] 95) from rfl] at L2
  have HL2 := Lib.hid L2
  clear hb L2 HC HL x0
  go_upto_region 2 with fail
  generalize (w2.alloc _).alloc _ = w5 at *
  obtain ⟨e0, e1, e2, e3, e4, e5, e6, _⟩ := HL2.out.tl.ownHas.seven
  go_wp2_with fail
  refine (HA.out _).mono ?_
  rintro e w6 ⟨g, vs, rfl, hO, hb⟩
  have L6 := (HL2.out.addM hb hO).has [.slice (some ⟨g, 0, none⟩) (n + 1) (n + 1)] 37
  rw [show w6.alloc (.cells ([.slice (some ⟨g, 0, none⟩) (n + 1) (n + 1)] : List Value).toArray 37) = w6.alloc (.cells #[.slice (some ⟨g, 0, none⟩) (n + 1) (n + 1)] 37) from rfl] at L6
  have HL6 := Lib.hid L6
  clear hO hb L6 HL2 e0 e1 e2 e3 e4 e5 e6
  go_upto_region 5 with fail
  generalize w6.alloc _ = w7 at *
  have c0 := HL6.out.ownHas.cell 0
  simp only [List.getElem?_cons_zero] at c0
  have HS7 := Lib.hid (HSUM.out _ _ _ _ _ _ w7 HL6.out)
  rw [show ((n + 1 : Nat) : Int) = (n : Int) + 1 by omega] at HS7
  go_wp2_with fail
  refine HS7.out.mono ?_
  rintro e w8 ⟨rfl, hb⟩
  have HB := Lib.hid (HL6.out.kept hb).below
  clear hb HL6 HS7
  go_wp2_with fail
  go_ret2
  exact ⟨rfl, HB.out⟩
set_option maxRecDepth 100000 in
set_option maxHeartbeats 3200000 in
theorem implSum_any (xs : List Int) (q x : Int) (w : World) (hx : xs.length ≤ 1048576) (lo : Nat) (s : Value) (hO : Own w lo s xs) :
    Calls Try.prog 50 #[s, .int .i64 q, .int .i64 x] w (AnsIO (sumQ xs q x) w) := by
  obtain ⟨a, p, rfl, hr⟩ := hO.reads
  clear hO
  cases hv : argV xs q x
  · rw [show sumQ xs q x = ⟨0, false⟩ by simp [sumQ, hv]]
    have L0 := (Law.start w).has [.int .i64 x] 3
    rw [show w.alloc (.cells [.int .i64 x].toArray 3) = w.alloc (.cells #[.int .i64 x] 3) from rfl] at L0
    have HC := Lib.hid (valued_noF a p xs q x _ hx (L0.reads hr) hv)
    have HL := Lib.hid L0
    have x0 := L0.ownHas.cell 0
    simp only [List.getElem?_cons_zero] at x0
    clear hv hr L0
    go_enter Try.func50, Try.ntmps50
    go_wp2_with fail
    refine HC.out.mono ?_
    rintro e w2 ⟨⟨u, N, F, hF, rfl⟩, hb⟩
    have HB := Lib.hid (HL.out.kept hb).below
    clear hb HC HL x0
    rcases hF with rfl | rfl | rfl
    all_goals
      go_upto_region 2 with fail
      go_wp2_with fail
      go_ret2
      exact ⟨rfl, below_on HB.out (below_on (below_new _) (below_new _))⟩
  · rw [show sumQ xs q x = ⟨sumT (trmB xs q.toNat x) (xs.length + 1), true⟩ by simp [sumQ, hv]]
    simp only [argV, Bool.and_eq_true, decide_eq_true_eq] at hv
    obtain ⟨hg, h4, hq, hxx⟩ := hv
    obtain ⟨Q, rfl, hQ⟩ := isQ_nat hq
    have hx8 := inB_iff.1 hxx
    rcases hQ with rfl | rfl
    · exact implSum_2 xs x w hx a p hr hg h4 hx8.1 hx8.2
    · exact implSum_3 xs x w hx a p hr hg h4 hx8.1 hx8.2
end Go.Proofs.Ytakdiiccdkjjcab
