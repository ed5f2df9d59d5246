/- Hit numbers off rook numbers and the way back, in the specification. No condition but the sizes. -/
import Derived.Test.YtjmefcebldifaaaHw
namespace Go.Proofs.Ytjmefcebldifaaa
open Go.RowKit Go.WideShapes

/-- The hit numbers, the first j terms of each and of the first k numbers one more. -/
def midH (E : List Int) (j k i : Nat) : Int := sumT (shT E (-1) i) j + if i < k then shT E (-1) i j else 0
theorem midH_start (n : Nat) (E : List Int) (j : Nat) : lstH n (midH E j 0) = lstH n (fun i => sumT (shT E (-1) i) j) := lstH_congr n _ _ (fun k _ => by simp [midH])
theorem midH_end (n : Nat) (E : List Int) (j : Nat) : lstH n (midH E j (j + 1)) = lstH n (fun i => sumT (shT E (-1) i) (j + 1)) := lstH_congr n _ _ (fun k _ => by
  unfold midH
  rw [sumT]
  congr 1
  split
  · rfl
  · rw [shT, chs_big j k (by omega)]; simp)
theorem midH_set (n : Nat) (E : List Int) (j k : Nat) : (lstH n (midH E j k)).set k (midH E j k k + shT E (-1) k j) = lstH n (midH E j (k + 1)) :=
  lstH_set n _ _ k _ (by simp [midH]) (fun i _ hi => by
    unfold midH
    by_cases h : i < k
    · rw [if_pos h, if_pos (by omega)]
    · rw [if_neg h, if_neg (by omega)])
theorem neg_pow (d : Nat) : (-1 : Int) ^ d = if d % 2 = 1 then -1 else 1 := by
  induction d with
  | zero => rfl
  | succ d ih =>
    rw [Int.pow_succ, ih]
    rcases Nat.mod_two_eq_zero_or_one d with h | h
    · rw [if_neg (by omega), if_pos (by omega)]; rfl
    · rw [if_pos h, if_neg (by omega)]; rfl
theorem shT_even (E : List Int) (k j : Nat) (h : (j - k) % 2 = 0) : shT E (-1) k j = E.getD j 0 * (chs j k : Nat) := by
  unfold shT
  rw [neg_pow, if_neg (by omega), Int.mul_one]
theorem shT_odd (E : List Int) (k j : Nat) (h : (j - k) % 2 = 1) : shT E (-1) k j = -(E.getD j 0 * (chs j k : Nat)) := by
  unfold shT
  rw [neg_pow, if_pos h, Int.mul_neg, Int.mul_one]

set_option maxRecDepth 100000 in
set_option maxHeartbeats 6400000 in
theorem specHfr_any (ys : List Int) (w : World) (hx : ys.length ≤ 1048576) (lo : Nat) (s : Value) (hO : Own w lo s ys) :
    Calls Try.prog 43 #[s] w fun e w' => AnsL (hfrR ys) w e w' := by
  obtain ⟨a, cap, rfl, hr⟩ := hO.reads
  cases hs : sumsB ys
  · rw [show hfrR ys = ⟨[], false⟩ by simp [hfrR, hs]]
    have HC := Lib.hid (at_boolU (hiList_any a cap ys w hx hr) hs)
    clear hO hs
    go_enter Try.func43, Try.ntmps43
    go_wp2_with fail
    refine HC.out.mono ?_
    rintro e w1 ⟨rfl, rfl⟩
    go_wp2_with fail
    go_ret2
    exact ⟨_, rfl, Own.nil _ _, Below.refl _ _⟩
  · rw [show hfrR ys = ⟨hfrL ys.length ys, true⟩ by simp [hfrR, hs]]
    have HC := Lib.hid (at_boolU (hiList_any a cap ys w hx hr) hs)
    obtain ⟨f1, f2, f3⟩ := sums_facts hs
    obtain ⟨n, hn⟩ : ∃ n, n = ys.length := ⟨_, rfl⟩
    rw [← hn] at f1 f2 hr HC ⊢
    have HNE := Lib.hid hn
    have hsa : ∀ j, Abs 1000000000000 (ys.getD j 0 * fct (n - 1 - j)) := fun j => sums_abs f3 j _ (by omega)
    obtain ⟨E, hE⟩ : ∃ E, E = extL n ys := ⟨_, rfl⟩
    have hEg : ∀ j, j < n → E.getD j 0 = ys.getD j 0 * fct (n - 1 - j) := fun j hj => by rw [hE]; exact lstH_get n _ j hj
    have HSH := Lib.hid (fun k j (hk : k < n) (hj : j < n) => shT_abs E (-1) (.inr rfl) k j (by omega) (by omega) (by rw [hEg j hj]; exact hsa j))
    have HSS := Lib.hid (fun k j (hk : k < n) (hj : j ≤ n) => shS_abs E (-1) (.inr rfl) k j (by omega) (by omega) (fun i hi => by rw [hEg i (by omega)]; exact hsa i))
    have HEG := Lib.hid hEg
    have HSA := Lib.hid hsa
    have HFIN := Lib.hid (show hfrL n ys = lstH n (fun i => sumT (shT E (-1) i) n) by rw [hE]; rfl)
    have HR := Lib.hid hr
    have hs1 : IntKind.i64.wrap ((n : Int) - 1) = ((n - 1 : Nat) : Int) := by rw [show (n : Int) - 1 = ((n - 1 : Nat) : Int) by omega]; exact IntWalk.i64_in _ (by omega)
    have hs2 : wrap64 ((n : Int) - 1) = ((n - 1 : Nat) : Int) := by rw [show (n : Int) - 1 = ((n - 1 : Nat) : Int) by omega]; exact IntWalk.wrap64_in _ (by omega)
    obtain ⟨N, hN⟩ : ∃ N, n - 1 = N := ⟨_, rfl⟩
    rw [hN] at hs1 hs2
    have hmk : ∀ w, (Instr.makeSlice 22 (.int .i64 ((N : Int) + 1)) (.int .i64 ((N : Int) + 1))).run Try.prog w = .ok (.slice (some ⟨w.heap.size, 0, none⟩) n n) (w.alloc (.cells (madeCells #[.int .i64 0] n) 3)) := by
      intro w
      rw [show ((N : Int) + 1) = (n : Int) by omega]
      exact run_make_row' (P := Try.prog) 22 3 (.int .i64 0) 8 Try.underlying22 Try.infoI rfl .i64 .i64 n (by omega) (by omega) w
    have hN7 : (N : Int) ≤ 6 := by omega
    have hn7 : (n : Int) ≤ 7 := by omega
    have L0 := (Law.start w).own (below_new _) (own_made w n _ w.heap.size rfl (Nat.le_refl _) (by omega))
    rw [show List.replicate n (0 : Int) = lstH n (fun i => sumT (shT E (-1) i) 0) from lstH_zero n] at L0
    have HL := Lib.hid L0
    have HNN := Lib.hid hN
    clear hO hs f3 hn hsa hE hEg L0 hr hN
    go_enter Try.func43, Try.ntmps43
    go_wp2_with fail
    refine HC.out.mono ?_
    rintro e w1 ⟨rfl, hw⟩
    subst hw
    go_upto_region 5 with fail
    generalize w.alloc (.cells (madeCells #[.int .i64 0] n) 3) = w5 at *
    obtain ⟨g, hgg⟩ : ∃ g, g = w.heap.size := ⟨_, rfl⟩
    rw [← hgg] at HL ⊢
    have HGG := Lib.hid hgg
    clear hmk hgg hs1 hs2 HC
    go_wp2_with fail
    go_loopw [21] (fun i wr => ∃ j : Nat, j ≤ n ∧ i = .int .i64 j ∧ Law w [tOwn (.slice (some ⟨g, 0, none⟩) n n) (lstH n (fun i => sumT (shT E (-1) i) j))] wr) (fun i _ => n - (intOf i).toNat)
    case atStart => exact ⟨0, Nat.zero_le _, rfl, HL.out⟩
    case round =>
      clear HL
      obtain ⟨j, hj, rfl, L⟩ := hrel
      by_cases hlt : j < n
      · obtain ⟨b1, o1, rfl, hb1, hc1⟩ := reads_row (L.reads HR.out) (by omega)
        have hcj := hc1 j hlt
        have hEj := HEG.out j hlt
        have hsaj := HSA.out j
        rw [HNN.out] at hEj hsaj
        have hfj := fct_bd (N - j) (by omega)
        have HFA := Lib.hid (fun W => hiFactorial_any (N - j) W (by omega))
        have HSHj := Lib.hid (fun k hk => HSH.out k j hk hlt)
        have hsb : IntKind.i64.wrap ((N : Int) - j) = ((N - j : Nat) : Int) := by rw [show (N : Int) - j = ((N - j : Nat) : Int) by have := HNN.out; omega]; exact IntWalk.i64_in _ (by omega)
        have hsb2 : wrap64 ((N : Int) - j) = ((N - j : Nat) : Int) := by rw [show (N : Int) - j = ((N - j : Nat) : Int) by have := HNN.out; omega]; exact IntWalk.wrap64_in _ (by omega)
        have HE1 := Lib.hid (midH_end n E j)
        rw [← midH_start n E j] at L
        have HL := Lib.hid L
        generalize fct (N - j) = v at *
        generalize ys.getD j 0 = y at *
        have hm1 : IntKind.i64.wrap (y * v) = E.getD j 0 := by rw [hEj]; unfold Abs at hsaj; exact IntWalk.i64_in _ (by omega)
        have hm12 : wrap64 (y * v) = E.getD j 0 := by rw [hEj]; unfold Abs at hsaj; exact IntWalk.wrap64_in _ (by omega)
        have HEJ := Lib.hid (show ∃ q, q = E.getD j 0 from ⟨_, rfl⟩)
        clear L hc1 hb1 hEj hsaj
        go_wp2_with fail
        go_loopw [8] (fun i wr => ∃ k : Nat, k ≤ j + 1 ∧ i = .int .i64 k ∧ Law w [tOwn (.slice (some ⟨g, 0, none⟩) n n) (lstH n (midH E j k))] wr) (fun i _ => (j + 1) - (intOf i).toNat)
        case atStart => exact ⟨0, Nat.zero_le _, rfl, HL.out⟩
        case round =>
          clear HL
          obtain ⟨k, hk, rfl, L⟩ := hrel
          by_cases hkj : k < j + 1
          · have hkj' : (k : Int) ≤ j := by omega
            have hkn : k < n := by omega
            obtain ⟨t1, t2⟩ := HSHj.out k hkn
            have hsm := HSS.out k j hkn (by omega)
            have HCH := Lib.hid (fun W => hiChoose_any j k W (by omega) (by omega))
            have hO := L.ownInts
            have y1 := Own.cell (by rw [lstH_len]; exact hO) k (by rw [lstH_len]; exact hkn)
            have y2 := Own.free (by rw [lstH_len]; exact hO) k
            rw [lstH_get n _ k hkn] at y1
            have hS := Law.store (ts := []) L (lstH_len _ _) k (midH E j k k + shT E (-1) k j)
            rw [midH_set] at hS
            have hmm : midH E j k k = sumT (shT E (-1) k) j := by simp [midH]
            have hss := HSS.out k (j + 1) hkn (by omega)
            rw [sumT, ← hmm] at hss
            have hmA : IntKind.i64.wrap (midH E j k k + shT E (-1) k j) = midH E j k k + shT E (-1) k j := by unfold Abs at hss; exact IntWalk.i64_in _ (by omega)
            have hmA2 : wrap64 (midH E j k k + shT E (-1) k j) = midH E j k k + shT E (-1) k j := by unfold Abs at hss; exact IntWalk.wrap64_in _ (by omega)
            have hk0 : (0 : Int) ≤ k := by omega
            have hkn' : (k : Int) < n := by omega
            have hd1 : IntKind.i64.wrap ((j : Int) - k) = ((j - k : Nat) : Int) := by rw [show (j : Int) - k = ((j - k : Nat) : Int) by omega]; exact IntWalk.i64_in _ (by omega)
            have hd2 : wrap64 ((j : Int) - k) = ((j - k : Nat) : Int) := by rw [show (j : Int) - k = ((j - k : Nat) : Int) by omega]; exact IntWalk.wrap64_in _ (by omega)
            have HS2 := Lib.hid (show Law w [tOwn (.slice (some ⟨g, 0, none⟩) n n) (lstH n (midH E j (k + 1)))] (wr.setCell ⟨g, k, none⟩ (.int .i64 (midH E j k k + shT E (-1) k j))) from hS)
            have hev := shT_even E k j
            have hod := shT_odd E k j
            generalize midH E j k k = z at *
            generalize shT E (-1) k j = q at *
            generalize E.getD j 0 = ej at *
            generalize chs j k = c at *
            have hq1 : IntKind.i64.wrap (ej * (c : Nat)) = ej * (c : Nat) := by unfold Abs at t1; exact IntWalk.i64_in _ (by omega)
            have hq12 : wrap64 (ej * (c : Nat)) = ej * (c : Nat) := by unfold Abs at t1; exact IntWalk.wrap64_in _ (by omega)
            obtain ⟨d, hdd⟩ : ∃ d, d = j - k := ⟨_, rfl⟩
            rw [← hdd] at hd1 hd2 hev hod
            have HDD := Lib.hid hdd
            clear hS hO L hmm hss hsm hdd
            rcases Nat.mod_two_eq_zero_or_one d with h | h
            · have hqq := hev h
              have htm : (((d : Nat) : Int) % 2 == 1) = false := by rw [show ((d : Nat) : Int) % 2 = ((d % 2 : Nat) : Int) by omega, h]; rfl
              subst hqq
              have HFE := Lib.hid hmA2
              clear hev hod h t1 t2
              go_wp2_with fail
              refine (HFA.out _).mono ?_
              rintro e w2 ⟨rfl, rfl⟩
              go_wp2_with fail
              refine (HCH.out _).mono ?_
              rintro e w2 ⟨rfl, rfl⟩
              go_wp2_with fail
              go_roundw
              case rel => exact ⟨k + 1, by omega, by go_num, by first | exact HS2.out | (rw [HFE.out]; exact HS2.out)⟩
              case measure => simp [intOf]; omega
            · have hqq := hod h
              have htm : (((d : Nat) : Int) % 2 == 1) = true := by rw [show ((d : Nat) : Int) % 2 = ((d % 2 : Nat) : Int) by omega, h]; rfl
              subst hqq
              have hng : IntKind.i64.wrap (-(ej * (c : Nat))) = -(ej * (c : Nat)) := by unfold Abs at t1; exact IntWalk.i64_in _ (by omega)
              have HFN := Lib.hid (show wrap64 (z + wrap64 (-(ej * (c : Nat)))) = z + -(ej * (c : Nat)) by rw [show wrap64 (-(ej * (c : Nat))) = -(ej * (c : Nat)) by unfold Abs at t1; exact IntWalk.wrap64_in _ (by omega)]; exact hmA2)
              have hng2 : wrap64 (-(ej * (c : Nat))) = -(ej * (c : Nat)) := by unfold Abs at t1; exact IntWalk.wrap64_in _ (by omega)
              clear hev hod h t1 t2
              go_wp2_with fail
              refine (HFA.out _).mono ?_
              rintro e w2 ⟨rfl, rfl⟩
              go_wp2_with fail
              refine (HCH.out _).mono ?_
              rintro e w2 ⟨rfl, rfl⟩
              go_wp2_with fail
              go_roundw
              case rel => exact ⟨k + 1, by omega, by go_num, by first | exact HS2.out | (rw [HFN.out]; exact HS2.out)⟩
              case measure => simp [intOf]; omega
          · obtain rfl : k = j + 1 := by omega
            rw [HE1.out] at L
            have HL := Lib.hid L
            have hkj' : ¬ ((j + 1 : Nat) : Int) ≤ j := by omega
            clear L hkj
            go_wp2_with fail
            go_roundw
            case rel => exact ⟨j + 1, by omega, by go_num, HL.out⟩
            case measure => simp [intOf]; omega
      · obtain rfl : j = n := by omega
        rw [← HFIN.out] at L
        have HL := Lib.hid L
        clear L
        go_wp2_with fail
        go_ret2
        exact ⟨_, rfl, HL.out.ownLo, HL.out.below⟩
end Go.Proofs.Ytjmefcebldifaaa
