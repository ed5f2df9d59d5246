/- Rook numbers off hit numbers, in the specification. No condition but the sizes. -/
import Derived.Test.YtjmefcebldifaaaHw
import Derived.Test.YtjmefcebldifaaaAp
namespace Go.Proofs.Ytjmefcebldifaaa
open Go.RowKit Go.WideShapes

theorem lstH_snoc (L : Nat) (g : Nat → Int) : lstH L g ++ [g L] = lstH (L + 1) g := by simp [lstH, List.range_succ]
set_option maxRecDepth 100000 in
set_option maxHeartbeats 6400000 in
theorem specRfh_any (ys : List Int) (w : World) (hx : ys.length ≤ 1048576) (lo : Nat) (s : Value) (hO : Own w lo s ys) :
    Calls Try.prog 45 #[s] w fun e w' => AnsL (rfhT ys) w e w' := by
  obtain ⟨a, cap, rfl, hr⟩ := hO.reads
  cases hs : sumsB ys
  · rw [show rfhT ys = ⟨[], false⟩ by simp [rfhT, hs]]
    have HC := Lib.hid (at_boolU (hiList_any a cap ys w hx hr) hs)
    clear hO hs
    go_enter Try.func45, Try.ntmps45
    go_wp2_with fail
    refine HC.out.mono ?_
    rintro e w1 ⟨rfl, rfl⟩
    go_wp2_with fail
    go_ret2
    exact ⟨_, rfl, Own.nil _ _, Below.refl _ _⟩
  · rw [show rfhT ys = rfhR ys.length ys by simp [rfhT, hs]]
    have HC := Lib.hid (at_boolU (hiList_any a cap ys w hx hr) hs)
    obtain ⟨f1, f2, f3⟩ := sums_facts hs
    obtain ⟨n, hn⟩ : ∃ n, n = ys.length := ⟨_, rfl⟩
    rw [← hn] at f1 f2 hr HC ⊢
    have HNE := Lib.hid hn
    have HSH := Lib.hid (fun k j (hk : k < n) (hj : j < n) => shT_abs ys 1 (.inl rfl) k j (by omega) (by omega) (by have := f3 j; unfold Abs; omega))
    have HSS := Lib.hid (fun k j (hk : k < n) (hj : j ≤ n) => shS_abs ys 1 (.inl rfl) k j (by omega) (by omega) (fun i hi => by have := f3 i; unfold Abs; omega))
    unfold rfhR
    obtain ⟨Z, hZ⟩ : ∃ Z : Nat → Int, Z = fun k => sumT (shT ys 1 k) n := ⟨_, rfl⟩
    rw [← hZ]
    obtain ⟨R, hR⟩ : ∃ R : LR, R = if wholeF n Z then ⟨lstH n (quoF n Z), true⟩ else ⟨[], false⟩ := ⟨_, rfl⟩
    rw [← hR]
    have HZE := Lib.hid hZ
    have HRR := Lib.hid hR
    have HR := Lib.hid hr
    have hs1 : IntKind.i64.wrap ((n : Int) - 1) = ((n - 1 : Nat) : Int) := by rw [show (n : Int) - 1 = ((n - 1 : Nat) : Int) by omega]; exact IntWalk.i64_in _ (by omega)
    have hs2 : wrap64 ((n : Int) - 1) = ((n - 1 : Nat) : Int) := by rw [show (n : Int) - 1 = ((n - 1 : Nat) : Int) by omega]; exact IntWalk.wrap64_in _ (by omega)
    obtain ⟨N, hN⟩ : ∃ N, n - 1 = N := ⟨_, rfl⟩
    rw [hN] at hs1 hs2
    have hN7 : (N : Int) ≤ 6 := by omega
    have hn7 : (n : Int) ≤ 7 := by omega
    have HL := Lib.hid ((Law.start w).own (Below.refl _ _) (Own.nil w _))
    have HNN := Lib.hid hN
    clear hO hs f3 hn hr hN hZ hR
    go_enter Try.func45, Try.ntmps45
    go_wp2_with fail
    refine HC.out.mono ?_
    rintro e w1 ⟨rfl, hw⟩
    subst hw
    go_wp2_with fail
    clear hs1 hs2 HC
    go_loopw [5, 6] (fun o i wr => ∃ k : Nat, k ≤ n ∧ i = .int .i64 k ∧ Hid (∀ i, i < k → (Z i).tmod (fct (n - 1 - i)) = 0) ∧ Law w [tOwn o (lstH k (quoF n Z))] wr) (fun _ i _ => n - (intOf i).toNat)
    case atStart => exact ⟨0, Nat.zero_le _, rfl, Lib.hid (fun i hi => by omega), by simpa [lstH] using HL.out⟩
    case round =>
      clear HL
      obtain ⟨k, hk, rfl, HW, L⟩ := hrel
      obtain ⟨wo, rfl⟩ : ∃ wo : World, wo = wr := ⟨_, rfl⟩
      by_cases hlt : k < n
      · have hkN : (k : Int) ≤ N := by have := HNN.out; omega
        have HL := Lib.hid L
        clear L
        go_wp2_with fail
        go_loopw [7, 23] (fun t i wr => ∃ j : Nat, j ≤ n ∧ i = .int .i64 j ∧ t = .int .i64 (sumT (shT ys 1 k) j) ∧ wr = wo) (fun _ i _ => n - (intOf i).toNat)
        case atStart => exact ⟨0, Nat.zero_le _, rfl, rfl, rfl⟩
        case round =>
          obtain ⟨j, hj, rfl, rfl, hww⟩ := hrel
          subst wr
          by_cases hjn : j < n
          · obtain ⟨b1, o1, rfl, hb1, hc1⟩ := reads_row (HL.out.reads HR.out) (by omega)
            have hcj := hc1 j hjn
            have HCH := Lib.hid (fun W => hiChoose_any j k W (by omega) (by omega))
            obtain ⟨t1, _⟩ := HSH.out k j hlt hjn
            have hsn := HSS.out k (j + 1) hlt (by omega)
            have hsj := HSS.out k j hlt (by omega)
            have HNXT := Lib.hid (show sumT (shT ys 1 k) (j + 1) = sumT (shT ys 1 k) j + (chs j k : Nat) * ys.getD j 0 by rw [sumT, shT, Int.one_pow, Int.mul_one, Int.mul_comm (ys.getD j 0)])
            rw [HNXT.out] at hsn
            rw [Int.mul_comm] at t1
            generalize sumT (shT ys 1 k) j = t at *
            generalize ys.getD j 0 = y at *
            generalize chs j k = c at *
            have hq1 : IntKind.i64.wrap ((c : Nat) * y) = (c : Nat) * y := by unfold Abs at t1; exact IntWalk.i64_in _ (by omega)
            have hq12 : wrap64 ((c : Nat) * y) = (c : Nat) * y := by unfold Abs at t1; exact IntWalk.wrap64_in _ (by omega)
            have hq2 : IntKind.i64.wrap (t + (c : Nat) * y) = t + (c : Nat) * y := by unfold Abs at hsn; exact IntWalk.i64_in _ (by omega)
            have hq22 : wrap64 (t + (c : Nat) * y) = t + (c : Nat) * y := by unfold Abs at hsn; exact IntWalk.wrap64_in _ (by omega)
            have HQ := Lib.hid hq22
            have HQ2 := Lib.hid hq12
            clear hc1 hb1 t1 hsn hsj
            go_wp2_with fail
            refine (HCH.out _).mono ?_
            rintro e w2 ⟨rfl, rfl⟩
            go_wp2_with fail
            go_roundw
            case rel => exact ⟨j + 1, by omega, by go_num, by rw [HNXT.out] <;> first | rfl | rw [HQ.out] | rw [HQ2.out, HQ.out], by first | rfl | trivial⟩
            case measure => simp [intOf]; omega
          · obtain rfl : j = n := by omega
            rw [show sumT (shT ys 1 k) j = Z k by rw [HZE.out]]
            have HFA := Lib.hid (fun W => hiFactorial_any (N - k) W (by have := HNN.out; omega))
            have hv := fct_bd (N - k) (by have := HNN.out; omega)
            have hzk : Abs 12012000000000000 (Z k) := by rw [HZE.out]; exact HSS.out k j hlt (Nat.le_refl _)
            have hsb : IntKind.i64.wrap ((N : Int) - k) = ((N - k : Nat) : Int) := by rw [show (N : Int) - k = ((N - k : Nat) : Int) by omega]; exact IntWalk.i64_in _ (by omega)
            have hsb2 : wrap64 ((N : Int) - k) = ((N - k : Nat) : Int) := by rw [show (N : Int) - k = ((N - k : Nat) : Int) by omega]; exact IntWalk.wrap64_in _ (by omega)
            have HNX := Lib.hid (fun h => whole_no j Z k hlt h)
            have HQ := Lib.hid (show quoF j Z k = (Z k).tdiv (fct (N - k)) by unfold quoF; rw [HNN.out])
            have HWN := Lib.hid (show (Z k).tmod (fct (N - k)) = 0 → ∀ i, i < k + 1 → (Z i).tmod (fct (j - 1 - i)) = 0 from fun h i hi => by
              by_cases e : i = k
              · subst e; rw [HNN.out]; exact h
              · exact HW.out i (by omega))
            rw [HNN.out] at HNX
            have hvz : (fct (N - k) == 0) = false := by rw [beq_eq_false_iff_ne]; omega
            have hqs : IntKind.i64.wrap ((Z k).tdiv (fct (N - k))) = (Z k).tdiv (fct (N - k)) := by unfold Abs at hzk; exact IntWalk.i64_quo' _ _ (by omega)
            have hqs2 : wrap64 ((Z k).tdiv (fct (N - k))) = (Z k).tdiv (fct (N - k)) := by rw [← IntWalk.i64_left]; exact hqs
            generalize fct (N - k) = v at *
            obtain ⟨z, hz⟩ : ∃ z, z = Z k := ⟨_, rfl⟩
            rw [← hz] at HNX HQ HWN hqs hqs2 hzk ⊢
            have HZ := Lib.hid hz
            clear hz HW
            by_cases hm : z.tmod v = 0
            · have hm1 : (z.tmod v != 0) = false := by simp [hm]
              have HM := Lib.hid hm
              have hqd := HQ.out
              have LX := HL.out.kept (below_new (.cells #[.int .i64 (z.tdiv v)] 3))
              have HL2 := Lib.hid LX
              have HX := Lib.hid (show (wo.alloc (.cells #[.int .i64 (z.tdiv v)] 3)).cell? ⟨wo.heap.size, 0, none⟩ = some (.int .i64 (z.tdiv v)) by rw [World.cell?_alloc_at _ _ _ _ rfl]; rfl)
              have HSN := Lib.hid (lstH_snoc k (quoF j Z))
              rw [hqd] at HSN
              clear hm hqd LX
              go_wp2_with fail
              refine (HFA.out _).mono ?_
              rintro e w2 ⟨rfl, hw2⟩
              subst w2
              go_wp2_with fail
              refine (HFA.out _).mono ?_
              rintro e w2 ⟨rfl, hw2⟩
              subst w2
              go_wp2_with (at_builtin; refine wp_appendI rfl _ _ rfl (z.tdiv v) HL2.out wo.heap.size rfl rfl HX.out (by rw [lstH_len]; omega) (lstH (k + 1) (quoF j Z)) HSN.out ?_)
              intro g1 cap1 w3 L3
              have HL3 := Lib.hid L3
              clear L3 HL2 HX
              go_wp2_with fail
              go_roundw
              case rel => exact ⟨k + 1, by omega, by go_num, Lib.hid (HWN.out HM.out), HL3.out⟩
              case measure => simp [intOf]; omega
            · have hm1 : (z.tmod v != 0) = true := by simp [hm]
              have HM := Lib.hid hm
              clear hm
              have HWF := Lib.hid (HNX.out HM.out)
              go_wp2_with fail
              refine (HFA.out _).mono ?_
              rintro e w2 ⟨rfl, hw2⟩
              subst w2
              go_wp2_with fail
              go_ret2
              have e : R = ⟨[], false⟩ := by rw [HRR.out, HWF.out]; rfl
              rw [e]
              exact ⟨_, rfl, Own.nil _ _, HL.out.below⟩
      · obtain rfl : k = n := by omega
        have hkN : ¬ (k : Int) ≤ N := by have := HNN.out; omega
        have HL := Lib.hid L
        have HWF := Lib.hid (whole_yes k Z HW.out)
        clear L HW
        go_wp2_with fail
        go_ret2
        have e : R = ⟨lstH k (quoF k Z), true⟩ := by rw [HRR.out, HWF.out]; rfl
        rw [e]
        exact ⟨_, rfl, HL.out.ownLo, HL.out.below⟩
end Go.Proofs.Ytjmefcebldifaaa
