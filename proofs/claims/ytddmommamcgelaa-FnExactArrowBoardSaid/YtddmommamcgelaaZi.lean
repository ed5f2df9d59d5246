/- The arrow board: both texts. No condition. -/
import Derived.Test.YtddmommamcgelaaIc
namespace Go.Proofs.Ytddmommamcgelaa
open Go.RowKit Go.WideShapes

theorem arrow_val (m k : Nat) (hm : m ≤ 6) (hk : k < m) : wrap64 (wrap64 (2 ^ m) - wrap64 (2 ^ (k + 1))) = (rulM aboveR k m : Nat) := by
  have key : ∀ m : Fin 7, ∀ k : Fin 6, (k : Nat) < m → wrap64 (wrap64 (2 ^ (m : Nat)) - wrap64 (2 ^ ((k : Nat) + 1))) = (rulM aboveR k m : Nat) := by decide +kernel
  exact key ⟨m, by omega⟩ ⟨k, by omega⟩ hk
set_option maxRecDepth 100000 in
set_option maxHeartbeats 3200000 in
theorem fiArrow_any (m : Nat) (w : World) (hm6 : m ≤ 6) (hm1 : 1 ≤ m) : Calls Try.prog 58 #[.int .i64 m] w fun e w' => ∃ g cap, e = .returned (.agg #[.int .i64 m, .int .i64 m, .slice (some ⟨g, 0, none⟩) m cap]) ∧ Own w' w.heap.size (.slice (some ⟨g, 0, none⟩) m cap) (rowsL aboveR m) ∧ Below w.heap.size w w' := by
  have L0 := (Law.start w).box (.int .i64 0) (.int .i64 0) (.slice none 0 0) 33
  have HVAL := Lib.hid (fun k (hk : k < m) => arrow_val m k hm6 hk)
  have HYK := Lib.hid (rowsL_get aboveR m)
  have HLY := Lib.hid (rowsL_len aboveR m)
  obtain ⟨ys, hys⟩ : ∃ ys, ys = rowsL aboveR m := ⟨_, rfl⟩
  rw [← hys] at HYK HLY ⊢
  have HL := Lib.hid L0
  clear L0 hys
  go_enter Try.func58, Try.ntmps58
  go_wp2_with fail
  refine (boEmpty_any m m _ hm6).mono ?_
  rintro e w1 ⟨s, rfl, hO, hb⟩
  rcases hO.cases with ⟨rfl, h0⟩ | ⟨g, cap, rfl, _, _, _, _⟩
  · have := congrArg List.length h0
    simp at this
    omega
  rw [List.length_replicate] at hO ⊢
  have L1 := (HL.out.own hb hO).box (.int .i64 m) (.int .i64 m) (.slice (some ⟨g, 0, none⟩) m cap) 33
  have hlx : (List.replicate m (0 : Int)).length = m := by simp
  rw [← over_zero ys (List.replicate m 0)] at L1
  generalize List.replicate m (0 : Int) = zs at *
  have HLX := Lib.hid hlx
  have HL1 := Lib.hid L1
  clear HL hO hb L1 hlx
  go_upto_region 2 with fail
  generalize w1.alloc _ = w6 at *
  have ⟨_, k0, k1, k2, _⟩ := HL1.out.ownBox
  go_wp2_with fail
  clear k0 k1 k2
  go_loopw [11] (fun i wr => ∃ k : Nat, k ≤ m ∧ i = .int .i64 k ∧ Law w [tBox w1.heap.size (.int .i64 m) (.int .i64 m) (.slice (some ⟨g, 0, none⟩) m cap), tOwn (.slice (some ⟨g, 0, none⟩) m cap) (over ys zs k), tBox w.heap.size (.int .i64 0) (.int .i64 0) (.slice none 0 0)] wr) (fun i _ => m - (intOf i).toNat)
  case atStart => exact ⟨0, Nat.zero_le _, rfl, HL1.out⟩
  case round =>
    clear HL1
    obtain ⟨k, hk, rfl, L⟩ := hrel
    obtain ⟨wo, rfl⟩ : ∃ wo : World, wo = wr := ⟨_, rfl⟩
    by_cases hlt : k < m
    · have ⟨_, k0, k1, k2, _⟩ := L.drew.ownBox
      have o := L.drew.tl.ownInts
      have hol := over_len ys zs k m HLY.out HLX.out hk
      have d1 := Own.cell (by rw [hol]; exact o) k (by rw [hol]; exact hlt)
      have d2 := Own.free (by rw [hol]; exact o) k
      have hS := Law.store (ts := [_]) L.drew hol k (rulM aboveR k m : Nat)
      rw [over_set ys zs k m HLY.out HLX.out hlt _ (HYK.out k hlt)] at hS
      have HS := Lib.hid hS
      have hval := HVAL.out k hlt
      generalize (over ys zs k).getD k 0 = u at *
      generalize rulM aboveR k m = y at *
      have hx0 : (0 : Int) ≤ k := by omega
      have hx1 : (k : Int) < m := by omega
      have hx6 : (m : Int) ≤ 6 := by omega
      have hx64 : (k : Int) < 64 := by omega
      have hx65 : (m : Int) < 64 := by omega
      have hx00 : (0 : Int) ≤ m := by omega
      have hk1 : (k : Int) + 1 < 64 := by omega
      have HV := Lib.hid hval
      clear hval
      clear L hS o hol
      go_wp2_with fail
      go_region
      go_wp2_with fail
      go_roundw
      case rel => exact ⟨k + 1, by omega, by go_num, by first | exact HS.out | (rw [HV.out]; exact HS.out)⟩
      case measure => simp [intOf]; omega
    · obtain rfl : k = m := by omega
      rw [over_full ys zs k HLY.out HLX.out] at L
      have ⟨_, k0, k1, k2, _⟩ := L.ownBox
      have ⟨_, m0, m1, m2, mf⟩ := L.tl.tl.ownBox
      have hfin := L.tl.fin3 (n := w.heap.size) (x := .int .i64 0) (y := .int .i64 0) (z := .slice none 0 0) (by simp) (.int .i64 k) (.int .i64 k) (.slice (some ⟨g, 0, none⟩) k cap)
      have HF := Lib.hid hfin
      clear L hfin hlt
      go_wp2_with fail
      exact bodyPost_ret (v := .agg #[.int .i64 k, .int .i64 k, .slice (some ⟨g, 0, none⟩) k cap]) (by simp [results, Try.results58, go_sem, m0, m1, m2]) rfl ⟨_, _, rfl, HF.out.1, HF.out.2⟩

theorem fiThings_any (n : Int) (w : World) : Calls Try.prog 57 #[.int .i64 n] w fun e w' => e = .returned (.bool (inB 1 n 6)) ∧ w = w' := by
  go_enter Try.func57, Try.ntmps57
  go_wp2_with (go_at_call 48; refine (l1In_any _ _ _ _).mono ?_; rintro e w' ⟨rfl, rfl⟩)
  go_ret
  exact ⟨rfl, rfl⟩
theorem isThings_any (n : Int) (w : World) : Calls Try.prog 59 #[.int .i64 n] w fun e w' => e = .returned (.bool (inB 1 n 6)) ∧ w = w' := by
  by_cases h1 : 1 ≤ n
  · by_cases h2 : n ≤ 6
    · rw [inB_yes h1 h2]
      go_enter Try.func59, Try.ntmps59
      go_wp2
      go_ret
      exact ⟨rfl, rfl⟩
    · rw [inB_no (by omega)]
      go_enter Try.func59, Try.ntmps59
      go_wp2
      go_ret
      exact ⟨ret_bool (by simp <;> omega), rfl⟩
  · rw [inB_no (by omega)]
    go_enter Try.func59, Try.ntmps59
    go_wp2
    go_ret
    exact ⟨ret_bool (by simp <;> omega), rfl⟩

set_option maxRecDepth 100000 in
set_option maxHeartbeats 1600000 in
theorem implArrow_any (n : Int) (w : World) : Calls Try.prog 27 #[.int .i64 n] w fun e w' => AnsB (aboveB n) w e w' := by
  have L0 := (Law.start w).box (.int .i64 0) (.int .i64 0) (.slice none 0 0) 33
  cases hg : inB 1 n 6
  · rw [show aboveB n = BR.zero by simp [aboveB, ruleB, hg]]
    have HC := Lib.hid (at_bool (isThings_any n) hg)
    have ⟨_, n0, n1, n2, nf⟩ := L0.ownBox
    have HB := Lib.hid L0.below
    clear L0 hg
    go_enter Try.func27, Try.ntmps27
    go_wp2_with fail
    refine (HC.out _).mono ?_
    rintro e w2 ⟨rfl, rfl⟩
    go_wp2_with fail
    refine bodyPost_ret (v := .tuple #[.agg #[.int .i64 0, .int .i64 0, .slice none 0 0], .bool false]) (by simp [results, Try.results27, go_sem, n0, n1, n2]) rfl (ansB_zero _ _ ?_)
    have h2 := HB.out
    repeat (refine Below.setCell ?_ (by first | exact Nat.le_refl _ | (simp <;> omega) | simp | omega) _)
    exact h2
  · have HC := Lib.hid (at_bool (isThings_any n) hg)
    have HA := Lib.hid (fun W => implAboveBoard_any n W)
    obtain ⟨h1, h2⟩ := inB_iff.1 hg
    obtain ⟨m, rfl⟩ := Int.eq_ofNat_of_zero_le (show 0 ≤ n by omega)
    rw [show aboveB m = ⟨m, m, rowsL aboveR m, true⟩ by simp [aboveB, ruleB, hg]] at *
    have HL := Lib.hid L0
    have HLL := Lib.hid (rowsL_len aboveR m)
    clear L0 hg h1 h2
    go_enter Try.func27, Try.ntmps27
    go_wp2_with fail
    refine (HC.out _).mono ?_
    rintro e w2 ⟨rfl, hw⟩
    subst w2
    go_wp2_with fail
    refine (HA.out _).mono ?_
    rintro e w1 ⟨s, rfl, hO, hb⟩
    obtain ⟨a1, p1, hv, _⟩ := hO.reads
    rw [HLL.out] at hv
    subst hv
    have L1 := HL.out.own hb hO
    have ⟨_, n0, n1, n2, nf⟩ := L1.tl.ownBox
    have hfin := L1.fin3 (n := w.heap.size) (x := .int .i64 0) (y := .int .i64 0) (z := .slice none 0 0) (by simp) (.int .i64 m) (.int .i64 m) (.slice a1 m p1)
    have HF := Lib.hid hfin
    clear HL hO hb L1 hfin HC HA
    go_wp2_with fail
    exact bodyPost_ret (v := .tuple #[.agg #[.int .i64 m, .int .i64 m, .slice a1 m p1], .bool true]) (by simp [results, Try.results27, go_sem, n0, n1, n2]) rfl ⟨_, rfl, HF.out.1, HF.out.2⟩

set_option maxRecDepth 100000 in
set_option maxHeartbeats 1600000 in
theorem specArrow_any (n : Int) (w : World) : Calls Try.prog 26 #[.int .i64 n] w fun e w' => AnsB (aboveB n) w e w' := by
  have L0 := (Law.start w).box (.int .i64 0) (.int .i64 0) (.slice none 0 0) 33
  cases hg : inB 1 n 6
  · rw [show aboveB n = BR.zero by simp [aboveB, ruleB, hg]]
    have HC := Lib.hid (at_bool (fiThings_any n) hg)
    have ⟨_, n0, n1, n2, nf⟩ := L0.ownBox
    have HB := Lib.hid L0.below
    clear L0 hg
    go_enter Try.func26, Try.ntmps26
    go_wp2_with fail
    refine (HC.out _).mono ?_
    rintro e w2 ⟨rfl, rfl⟩
    go_wp2_with fail
    refine bodyPost_ret (v := .tuple #[.agg #[.int .i64 0, .int .i64 0, .slice none 0 0], .bool false]) (by simp [results, Try.results26, go_sem, n0, n1, n2]) rfl (ansB_zero _ _ ?_)
    have h2 := HB.out
    repeat (refine Below.setCell ?_ (by first | exact Nat.le_refl _ | (simp <;> omega) | simp | omega) _)
    exact h2
  · have HC := Lib.hid (at_bool (fiThings_any n) hg)
    obtain ⟨h1, h2⟩ := inB_iff.1 hg
    obtain ⟨m, rfl⟩ := Int.eq_ofNat_of_zero_le (show 0 ≤ n by omega)
    have HA := Lib.hid (fun W => fiArrow_any m W (by omega) (by omega))
    rw [show aboveB m = ⟨m, m, rowsL aboveR m, true⟩ by simp [aboveB, ruleB, hg]]
    have HL := Lib.hid L0
    clear L0 hg h1 h2
    go_enter Try.func26, Try.ntmps26
    go_wp2_with fail
    refine (HC.out _).mono ?_
    rintro e w2 ⟨rfl, hw⟩
    subst w2
    go_wp2_with fail
    refine (HA.out _).mono ?_
    rintro e w1 ⟨g, cap, rfl, hO, hb⟩
    have L1 := HL.out.own hb hO
    have ⟨_, n0, n1, n2, nf⟩ := L1.tl.ownBox
    have hfin := L1.fin3 (n := w.heap.size) (x := .int .i64 0) (y := .int .i64 0) (z := .slice none 0 0) (by simp) (.int .i64 m) (.int .i64 m) (.slice (some ⟨g, 0, none⟩) m cap)
    have HF := Lib.hid hfin
    clear HL hO hb L1 hfin HC HA
    go_wp2_with fail
    exact bodyPost_ret (v := .tuple #[.agg #[.int .i64 m, .int .i64 m, .slice (some ⟨g, 0, none⟩) m cap], .bool true]) (by simp [results, Try.results26, go_sem, n0, n1, n2]) rfl ⟨_, rfl, HF.out.1, HF.out.2⟩
end Go.Proofs.Ytddmommamcgelaa
