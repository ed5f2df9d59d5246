import Derived.Test.YtaipcmplpjkebaaFold18
import Derived.Test.YtaipcmplpjkebaaFold1

section
namespace Go.Proofs.Ytaipcmplpjkebaa
open Go.RowKit Go.WideShapes

theorem diag_val (m k : Nat) (hm : m ≤ 6) (hk : k < m) : wrap64 (2 ^ k) = (rulM diagR k m : Nat) := by
  have key : ∀ m : Fin 7, ∀ k : Fin 6, (k : Nat) < m → wrap64 (2 ^ (k : Nat)) = (rulM diagR k m : Nat) := by decide +kernel
  exact key ⟨m, by omega⟩ ⟨k, by omega⟩ hk
set_option maxRecDepth 100000 in
set_option maxHeartbeats 3200000 in
theorem specDiagonalBoard_any (n : Int) (w : World) : Calls Try.prog 9 #[.int .i64 n] w fun e w' => AnsB (diagB n) w e w' := by
  have L0 := (Law.start w).box (.int .i64 0) (.int .i64 0) (.slice none 0 0) 27
  cases hg : inB 1 n 6
  · rw [show diagB n = BR.zero by simp [diagB, ruleB, hg]]
    have HC := Lib.hid (at_bool (boSide_any n) hg)
    have ⟨_, n0, n1, n2, nf⟩ := L0.ownBox
    have HB := Lib.hid L0.below
    clear L0 hg
    go_enter Try.func9, Try.ntmps9
    go_wp2_with fail
    refine (HC.out _).mono ?_
    rintro e w2 ⟨rfl, rfl⟩
    go_wp2_with fail
    refine bodyPost_ret (v := .tuple #[.agg #[.int .i64 0, .int .i64 0, .slice none 0 0], .bool false]) (by simp [results, Try.results9, go_sem, n0, n1, n2]) rfl (ansB_zero _ _ ?_)
    have h2 := HB.out
    repeat (refine Below.setCell ?_ (by first | exact Nat.le_refl _ | (simp <;> omega) | simp | omega) _)
    exact h2
  · obtain ⟨h1, h2⟩ := inB_iff.1 hg
    obtain ⟨m, rfl⟩ := Int.eq_ofNat_of_zero_le (show 0 ≤ n by omega)
    rw [show diagB m = ⟨m, m, rowsL diagR m, true⟩ by simp [diagB, ruleB, hg]]
    have HC := Lib.hid (at_bool (boSide_any m) hg)
    have hm6 : m ≤ 6 := by omega
    have hm1 : 1 ≤ m := by omega
    have HVAL := Lib.hid (fun k (hk : k < m) => diag_val m k hm6 hk)
    have HYK := Lib.hid (rowsL_get diagR m)
    have HLY := Lib.hid (rowsL_len diagR m)
    obtain ⟨ys, hys⟩ : ∃ ys, ys = rowsL diagR m := ⟨_, rfl⟩
    rw [← hys] at HYK HLY ⊢
    have HL := Lib.hid L0
    clear L0 hg h1 h2 hys
    go_enter Try.func9, Try.ntmps9
    go_wp2_with fail
    refine (HC.out _).mono ?_
    rintro e w2 ⟨rfl, hw⟩
    subst w2
    go_wp2_with fail
    refine (boEmpty_any m m _ hm6).mono ?_
    rintro e w1 ⟨s, rfl, hO, hb⟩
    rcases hO.cases with ⟨rfl, h0⟩ | ⟨g, cap, rfl, _, _, _, _⟩
    · have := congrArg List.length h0
      simp at this
      omega
    rw [List.length_replicate] at hO ⊢
    have L1 := (HL.out.own hb hO).box (.int .i64 m) (.int .i64 m) (.slice (some ⟨g, 0, none⟩) m cap) 27
    have hlx : (List.replicate m (0 : Int)).length = m := by simp
    rw [← over_zero ys (List.replicate m 0)] at L1
    generalize List.replicate m (0 : Int) = zs at *
    have HLX := Lib.hid hlx
    have HL1 := Lib.hid L1
    clear HL hO hb L1 hlx HC
    go_upto_region 4 with fail
    generalize w1.alloc _ = w6 at *
    have ⟨_, k0, k1, k2, _⟩ := HL1.out.ownBox
    go_wp2_with fail
    clear k0 k1 k2
    go_loopw [16] (fun i wr => ∃ k : Nat, k ≤ m ∧ i = .int .i64 k ∧ Law w [tBox w1.heap.size (.int .i64 m) (.int .i64 m) (.slice (some ⟨g, 0, none⟩) m cap), tOwn (.slice (some ⟨g, 0, none⟩) m cap) (over ys zs k), tBox w.heap.size (.int .i64 0) (.int .i64 0) (.slice none 0 0)] wr) (fun i _ => m - (intOf i).toNat)
    case atStart => exact ⟨0, Nat.zero_le _, rfl, HL1.out⟩
    case round =>
      clear HL1
      obtain ⟨k, hk, rfl, L⟩ := hrel
      obtain ⟨wo, rfl⟩ : ∃ wo : World, wo = wr := ⟨_, rfl⟩
      by_cases hlt : k < m
      · have ⟨_, k0, k1, k2, _⟩ := L.drew.ownBox
        have o := L.drew.tl.ownInts
        have hol := over_len ys zs k m HLY.out HLX.out hk
        have d1 := Own.cell (by rw [hol]; exact o) k (by rw [hol]; exact hlt)
        have d2 := Own.free (by rw [hol]; exact o) k
        have hS := Law.store (ts := [_]) L.drew hol k (rulM diagR k m : Nat)
        rw [over_set ys zs k m HLY.out HLX.out hlt _ (HYK.out k hlt)] at hS
        have HS := Lib.hid hS
        have hval := HVAL.out k hlt
        generalize (over ys zs k).getD k 0 = u at *
        generalize rulM diagR k m = y at *
        have hx0 : (0 : Int) ≤ k := by omega
        have hx1 : (k : Int) < m := by omega
        have hx6 : (m : Int) ≤ 6 := by omega
        have hx64 : (k : Int) < 64 := by omega
        have hx65 : (m : Int) < 64 := by omega
        have hx00 : (0 : Int) ≤ m := by omega
        have HV := Lib.hid hval
        clear L hS o hol
        go_wp2_with fail
        go_region
        go_wp2_with fail
        go_roundw
        case rel => exact ⟨k + 1, by omega, by go_num, by first | exact HS.out | (rw [HV.out]; exact HS.out)⟩
        case measure => simp [intOf]; omega
      · obtain rfl : k = m := by omega
        rw [over_full ys zs k HLY.out HLX.out] at L
        have ⟨_, k0, k1, k2, _⟩ := L.ownBox
        have ⟨_, m0, m1, m2, mf⟩ := L.tl.tl.ownBox
        have hfin := L.tl.fin3 (n := w.heap.size) (x := .int .i64 0) (y := .int .i64 0) (z := .slice none 0 0) (by simp) (.int .i64 k) (.int .i64 k) (.slice (some ⟨g, 0, none⟩) k cap)
        have HF := Lib.hid hfin
        clear L hfin hlt
        go_wp2_with fail
        exact bodyPost_ret (v := .tuple #[.agg #[.int .i64 k, .int .i64 k, .slice (some ⟨g, 0, none⟩) k cap], .bool true]) (by simp [results, Try.results9, go_sem, m0, m1, m2]) rfl ⟨_, rfl, HF.out.1, HF.out.2⟩

theorem above_val (m k : Nat) (hm : m ≤ 6) (hk : k < m) : wrap64 (wrap64 (2 ^ m) - wrap64 (2 ^ (k + 1))) = (rulM aboveR k m : Nat) := by
  have key : ∀ m : Fin 7, ∀ k : Fin 6, (k : Nat) < m → wrap64 (wrap64 (2 ^ (m : Nat)) - wrap64 (2 ^ ((k : Nat) + 1))) = (rulM aboveR k m : Nat) := by decide +kernel
  exact key ⟨m, by omega⟩ ⟨k, by omega⟩ hk
set_option maxRecDepth 100000 in
set_option maxHeartbeats 3200000 in
theorem specAboveBoard_any (n : Int) (w : World) : Calls Try.prog 11 #[.int .i64 n] w fun e w' => AnsB (aboveB n) w e w' := by
  have L0 := (Law.start w).box (.int .i64 0) (.int .i64 0) (.slice none 0 0) 27
  cases hg : inB 1 n 6
  · rw [show aboveB n = BR.zero by simp [aboveB, ruleB, hg]]
    have HC := Lib.hid (at_bool (boSide_any n) hg)
    have ⟨_, n0, n1, n2, nf⟩ := L0.ownBox
    have HB := Lib.hid L0.below
    clear L0 hg
    go_enter Try.func11, Try.ntmps11
    go_wp2_with fail
    refine (HC.out _).mono ?_
    rintro e w2 ⟨rfl, rfl⟩
    go_wp2_with fail
    refine bodyPost_ret (v := .tuple #[.agg #[.int .i64 0, .int .i64 0, .slice none 0 0], .bool false]) (by simp [results, Try.results11, go_sem, n0, n1, n2]) rfl (ansB_zero _ _ ?_)
    have h2 := HB.out
    repeat (refine Below.setCell ?_ (by first | exact Nat.le_refl _ | (simp <;> omega) | simp | omega) _)
    exact h2
  · obtain ⟨h1, h2⟩ := inB_iff.1 hg
    obtain ⟨m, rfl⟩ := Int.eq_ofNat_of_zero_le (show 0 ≤ n by omega)
    rw [show aboveB m = ⟨m, m, rowsL aboveR m, true⟩ by simp [aboveB, ruleB, hg]]
    have HC := Lib.hid (at_bool (boSide_any m) hg)
    have hm6 : m ≤ 6 := by omega
    have hm1 : 1 ≤ m := by omega
    have HVAL := Lib.hid (fun k (hk : k < m) => above_val m k hm6 hk)
    have HYK := Lib.hid (rowsL_get aboveR m)
    have HLY := Lib.hid (rowsL_len aboveR m)
    obtain ⟨ys, hys⟩ : ∃ ys, ys = rowsL aboveR m := ⟨_, rfl⟩
    rw [← hys] at HYK HLY ⊢
    have HL := Lib.hid L0
    clear L0 hg h1 h2 hys
    go_enter Try.func11, Try.ntmps11
    go_wp2_with fail
    refine (HC.out _).mono ?_
    rintro e w2 ⟨rfl, hw⟩
    subst w2
    go_wp2_with fail
    refine (boEmpty_any m m _ hm6).mono ?_
    rintro e w1 ⟨s, rfl, hO, hb⟩
    rcases hO.cases with ⟨rfl, h0⟩ | ⟨g, cap, rfl, _, _, _, _⟩
    · have := congrArg List.length h0
      simp at this
      omega
    rw [List.length_replicate] at hO ⊢
    have L1 := (HL.out.own hb hO).box (.int .i64 m) (.int .i64 m) (.slice (some ⟨g, 0, none⟩) m cap) 27
    have hlx : (List.replicate m (0 : Int)).length = m := by simp
    rw [← over_zero ys (List.replicate m 0)] at L1
    generalize List.replicate m (0 : Int) = zs at *
    have HLX := Lib.hid hlx
    have HL1 := Lib.hid L1
    clear HL hO hb L1 hlx HC
    go_upto_region 4 with fail
    generalize w1.alloc _ = w6 at *
    have ⟨_, k0, k1, k2, _⟩ := HL1.out.ownBox
    go_wp2_with fail
    clear k0 k1 k2
    go_loopw [16] (fun i wr => ∃ k : Nat, k ≤ m ∧ i = .int .i64 k ∧ Law w [tBox w1.heap.size (.int .i64 m) (.int .i64 m) (.slice (some ⟨g, 0, none⟩) m cap), tOwn (.slice (some ⟨g, 0, none⟩) m cap) (over ys zs k), tBox w.heap.size (.int .i64 0) (.int .i64 0) (.slice none 0 0)] wr) (fun i _ => m - (intOf i).toNat)
    case atStart => exact ⟨0, Nat.zero_le _, rfl, HL1.out⟩
    case round =>
      clear HL1
      obtain ⟨k, hk, rfl, L⟩ := hrel
      obtain ⟨wo, rfl⟩ : ∃ wo : World, wo = wr := ⟨_, rfl⟩
      by_cases hlt : k < m
      · have ⟨_, k0, k1, k2, _⟩ := L.drew.ownBox
        have o := L.drew.tl.ownInts
        have hol := over_len ys zs k m HLY.out HLX.out hk
        have d1 := Own.cell (by rw [hol]; exact o) k (by rw [hol]; exact hlt)
        have d2 := Own.free (by rw [hol]; exact o) k
        have hS := Law.store (ts := [_]) L.drew hol k (rulM aboveR k m : Nat)
        rw [over_set ys zs k m HLY.out HLX.out hlt _ (HYK.out k hlt)] at hS
        have HS := Lib.hid hS
        have hval := HVAL.out k hlt
        generalize (over ys zs k).getD k 0 = u at *
        generalize rulM aboveR k m = y at *
        have hx0 : (0 : Int) ≤ k := by omega
        have hx1 : (k : Int) < m := by omega
        have hx6 : (m : Int) ≤ 6 := by omega
        have hx64 : (k : Int) < 64 := by omega
        have hx65 : (m : Int) < 64 := by omega
        have hx00 : (0 : Int) ≤ m := by omega
        have hk1 : (k : Int) + 1 < 64 := by omega
        have HV := Lib.hid hval
        clear hval
        clear L hS o hol
        go_wp2_with fail
        go_region
        go_wp2_with fail
        go_roundw
        case rel => exact ⟨k + 1, by omega, by go_num, by first | exact HS.out | (rw [HV.out]; exact HS.out)⟩
        case measure => simp [intOf]; omega
      · obtain rfl : k = m := by omega
        rw [over_full ys zs k HLY.out HLX.out] at L
        have ⟨_, k0, k1, k2, _⟩ := L.ownBox
        have ⟨_, m0, m1, m2, mf⟩ := L.tl.tl.ownBox
        have hfin := L.tl.fin3 (n := w.heap.size) (x := .int .i64 0) (y := .int .i64 0) (z := .slice none 0 0) (by simp) (.int .i64 k) (.int .i64 k) (.slice (some ⟨g, 0, none⟩) k cap)
        have HF := Lib.hid hfin
        clear L hfin hlt
        go_wp2_with fail
        exact bodyPost_ret (v := .tuple #[.agg #[.int .i64 k, .int .i64 k, .slice (some ⟨g, 0, none⟩) k cap], .bool true]) (by simp [results, Try.results11, go_sem, m0, m1, m2]) rfl ⟨_, rfl, HF.out.1, HF.out.2⟩

theorem table_val (m k : Nat) (hm : m ≤ 6) (hk : k < m) : bits .or .i64 (wrap64 (2 ^ k)) (wrap64 (2 ^ ((k + 1) % m))) = (rulM (tableR m) k m : Nat) := by
  have key : ∀ m : Fin 7, ∀ k : Fin 6, (k : Nat) < m → bits .or .i64 (wrap64 (2 ^ (k : Nat))) (wrap64 (2 ^ (((k : Nat) + 1) % m))) = (rulM (tableR m) k m : Nat) := by decide +kernel
  exact key ⟨m, by omega⟩ ⟨k, by omega⟩ hk
set_option maxRecDepth 100000 in
set_option maxHeartbeats 3200000 in
theorem specTableBoard_any (n : Int) (w : World) : Calls Try.prog 13 #[.int .i64 n] w fun e w' => AnsB (tableB n) w e w' := by
  have L0 := (Law.start w).box (.int .i64 0) (.int .i64 0) (.slice none 0 0) 27
  cases hg : inB 2 n 6
  · rw [show tableB n = BR.zero by simp [tableB, ruleB, hg]]
    have HC := Lib.hid (at_bool (l1In_any n 2 6) hg)
    have ⟨_, n0, n1, n2, nf⟩ := L0.ownBox
    have HB := Lib.hid L0.below
    clear L0 hg
    go_enter Try.func13, Try.ntmps13
    go_wp2_with fail
    refine (HC.out _).mono ?_
    rintro e w2 ⟨rfl, rfl⟩
    go_wp2_with fail
    refine bodyPost_ret (v := .tuple #[.agg #[.int .i64 0, .int .i64 0, .slice none 0 0], .bool false]) (by simp [results, Try.results13, go_sem, n0, n1, n2]) rfl (ansB_zero _ _ ?_)
    have h2 := HB.out
    repeat (refine Below.setCell ?_ (by first | exact Nat.le_refl _ | (simp <;> omega) | simp | omega) _)
    exact h2
  · obtain ⟨h1, h2⟩ := inB_iff.1 hg
    obtain ⟨m, rfl⟩ := Int.eq_ofNat_of_zero_le (show 0 ≤ n by omega)
    rw [show tableB m = ⟨m, m, rowsL (tableR m) m, true⟩ by simp [tableB, ruleB, hg]]
    have HC := Lib.hid (at_bool (l1In_any m 2 6) hg)
    have hm6 : m ≤ 6 := by omega
    have hm1 : 1 ≤ m := by omega
    have HVAL := Lib.hid (fun k (hk : k < m) => table_val m k hm6 hk)
    have HYK := Lib.hid (rowsL_get (tableR m) m)
    have HLY := Lib.hid (rowsL_len (tableR m) m)
    obtain ⟨ys, hys⟩ : ∃ ys, ys = rowsL (tableR m) m := ⟨_, rfl⟩
    rw [← hys] at HYK HLY ⊢
    have HL := Lib.hid L0
    clear L0 hg h1 h2 hys
    go_enter Try.func13, Try.ntmps13
    go_wp2_with fail
    refine (HC.out _).mono ?_
    rintro e w2 ⟨rfl, hw⟩
    subst w2
    go_wp2_with fail
    refine (boEmpty_any m m _ hm6).mono ?_
    rintro e w1 ⟨s, rfl, hO, hb⟩
    rcases hO.cases with ⟨rfl, h0⟩ | ⟨g, cap, rfl, _, _, _, _⟩
    · have := congrArg List.length h0
      simp at this
      omega
    rw [List.length_replicate] at hO ⊢
    have L1 := (HL.out.own hb hO).box (.int .i64 m) (.int .i64 m) (.slice (some ⟨g, 0, none⟩) m cap) 27
    have hlx : (List.replicate m (0 : Int)).length = m := by simp
    rw [← over_zero ys (List.replicate m 0)] at L1
    generalize List.replicate m (0 : Int) = zs at *
    have HLX := Lib.hid hlx
    have HL1 := Lib.hid L1
    clear HL hO hb L1 hlx HC
    go_upto_region 4 with fail
    generalize w1.alloc _ = w6 at *
    have ⟨_, k0, k1, k2, _⟩ := HL1.out.ownBox
    go_wp2_with fail
    clear k0 k1 k2
    go_loopw [16] (fun i wr => ∃ k : Nat, k ≤ m ∧ i = .int .i64 k ∧ Law w [tBox w1.heap.size (.int .i64 m) (.int .i64 m) (.slice (some ⟨g, 0, none⟩) m cap), tOwn (.slice (some ⟨g, 0, none⟩) m cap) (over ys zs k), tBox w.heap.size (.int .i64 0) (.int .i64 0) (.slice none 0 0)] wr) (fun i _ => m - (intOf i).toNat)
    case atStart => exact ⟨0, Nat.zero_le _, rfl, HL1.out⟩
    case round =>
      clear HL1
      obtain ⟨k, hk, rfl, L⟩ := hrel
      obtain ⟨wo, rfl⟩ : ∃ wo : World, wo = wr := ⟨_, rfl⟩
      by_cases hlt : k < m
      · have ⟨_, k0, k1, k2, _⟩ := L.drew.ownBox
        have o := L.drew.tl.ownInts
        have hol := over_len ys zs k m HLY.out HLX.out hk
        have d1 := Own.cell (by rw [hol]; exact o) k (by rw [hol]; exact hlt)
        have d2 := Own.free (by rw [hol]; exact o) k
        have hS := Law.store (ts := [_]) L.drew hol k (rulM (tableR m) k m : Nat)
        rw [over_set ys zs k m HLY.out HLX.out hlt _ (HYK.out k hlt)] at hS
        have HS := Lib.hid hS
        have hval := HVAL.out k hlt
        generalize (over ys zs k).getD k 0 = u at *
        generalize rulM (tableR m) k m = y at *
        have hx0 : (0 : Int) ≤ k := by omega
        have hx1 : (k : Int) < m := by omega
        have hx6 : (m : Int) ≤ 6 := by omega
        have hx64 : (k : Int) < 64 := by omega
        have hx65 : (m : Int) < 64 := by omega
        have hx00 : (0 : Int) ≤ m := by omega
        have hm0 : ((m : Int) == 0) = false := by rw [beq_eq_false_iff_ne]; omega
        have hmd : ((k : Int) + 1) % m = (((k + 1) % m : Nat) : Int) := by push_cast; rfl
        have hmd2 := Nat.mod_lt (k + 1) (show 0 < m by omega)
        have hz0 : (0 : Int) ≤ ((k : Int) + 1) % m := by rw [hmd]; omega
        have hz1 : ((k : Int) + 1) % m < 64 := by rw [hmd]; omega
        have HV := Lib.hid hval
        clear hmd hmd2 hval
        clear L hS o hol
        go_wp2_with fail
        go_region
        go_wp2_with fail
        go_roundw
        case rel => exact ⟨k + 1, by omega, by go_num, by first | exact HS.out | (rw [HV.out]; exact HS.out)⟩
        case measure => simp [intOf]; omega
      · obtain rfl : k = m := by omega
        rw [over_full ys zs k HLY.out HLX.out] at L
        have ⟨_, k0, k1, k2, _⟩ := L.ownBox
        have ⟨_, m0, m1, m2, mf⟩ := L.tl.tl.ownBox
        have hfin := L.tl.fin3 (n := w.heap.size) (x := .int .i64 0) (y := .int .i64 0) (z := .slice none 0 0) (by simp) (.int .i64 k) (.int .i64 k) (.slice (some ⟨g, 0, none⟩) k cap)
        have HF := Lib.hid hfin
        clear L hfin hlt
        go_wp2_with fail
        exact bodyPost_ret (v := .tuple #[.agg #[.int .i64 k, .int .i64 k, .slice (some ⟨g, 0, none⟩) k cap], .bool true]) (by simp [results, Try.results13, go_sem, m0, m1, m2]) rfl ⟨_, rfl, HF.out.1, HF.out.2⟩
end Go.Proofs.Ytaipcmplpjkebaa
end

section
namespace Go.Proofs.Ytaipcmplpjkebaa
open Go.RowKit Go.WideShapes

theorem fiThings_any (n : Int) (w : World) : Calls Try.prog 81 #[.int .i64 n] w fun e w' => e = .returned (.bool (inB 1 n 6)) ∧ w = w' := by
  go_enter Try.func81, Try.ntmps81
  go_wp2_with (go_at_call 66; refine (l1In_any _ _ _ _).mono ?_; rintro e w' ⟨rfl, rfl⟩)
  go_ret
  exact ⟨rfl, rfl⟩
theorem isThings_any (n : Int) (w : World) : Calls Try.prog 80 #[.int .i64 n] w fun e w' => e = .returned (.bool (inB 1 n 6)) ∧ w = w' := by
  by_cases h1 : 1 ≤ n
  · by_cases h2 : n ≤ 6
    · rw [inB_yes h1 h2]
      go_enter Try.func80, Try.ntmps80
      go_wp2
      go_ret
      exact ⟨rfl, rfl⟩
    · rw [inB_no (by omega)]
      go_enter Try.func80, Try.ntmps80
      go_wp2
      go_ret
      exact ⟨ret_bool (by simp <;> omega), rfl⟩
  · rw [inB_no (by omega)]
    go_enter Try.func80, Try.ntmps80
    go_wp2
    go_ret
    exact ⟨ret_bool (by simp <;> omega), rfl⟩

end Go.Proofs.Ytaipcmplpjkebaa
end
