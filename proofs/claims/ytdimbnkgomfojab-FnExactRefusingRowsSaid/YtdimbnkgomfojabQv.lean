/- A search for rows, in the program. No condition but the sizes. -/
import Derived.Test.YtdimbnkgomfojabQw
import Derived.Test.YtdimbnkgomfojabQu
import Derived.Test.YtdimbnkgomfojabWb
namespace Go.Proofs.Ytdimbnkgomfojab
open Go.RowKit Go.WideShapes

set_option maxRecDepth 100000 in
set_option maxHeartbeats 1600000 in
theorem rowsOfNumber_any (n x : Nat) (w : World) (hn : n ≤ 6) (hx : x < 64) :
    Calls Try.prog 114 #[.int .i64 x, .int .i64 n] w fun e w' => ∃ g cp, e = .returned (.slice (some ⟨g, 0, none⟩) (rowsN n x).length cp) ∧ Own w' w.heap.size (.slice (some ⟨g, 0, none⟩) (rowsN n x).length cp) (rowsN n x) ∧ Below w.heap.size w w' := by
  obtain ⟨N, hN⟩ := Int.eq_ofNat_of_zero_le (pop_bd (x : Nat)).1
  have hN2 := (pop_bd (x : Nat)).2
  rw [hN] at hN2
  have hNl : N ≤ 6 := by omega
  have HN := Lib.hid hN
  have HF : Hid (rowsN n x = rowsU n x n) := Lib.hid rfl
  clear hN hN2
  obtain ⟨i0, hi, hz0, hz1, hz2⟩ := info_parts Try.infoI
  go_enter Try.func114, Try.ntmps114
  go_wp2_with fail
  refine (ones_any x _ hx).mono ?_
  rintro e w' ⟨rfl, rfl⟩
  rw [HN.out]
  go_wp2_with (at_make; refine wpList_make_own _ rfl _ _ 22 rfl _ 3 i0 (.int .i64 0) 1 Try.underlying22 hi hz0 hz1 .i64 .i64 (N : Int) N rfl rfl rfl (by rw [hz2]; omega) (by unfold maxLen; omega) (Nat.le_refl _) ?_)
  intro w6 hown hg
  have L2 := (Law.start w).own ((Below.refl _ _).grown hg (Nat.le_refl _) (by simp)) (show Own w6 w.heap.size (.slice (some ⟨w.heap.size, 0, none⟩) 0 N) [] from hown)
  have HL2 := Lib.hid L2
  clear L2 hown hg hi hz0 hz1 hz2
  go_wp2_with fail
  go_loopw [5, 12] (fun v i wr => ∃ (k g c : Nat), k ≤ n ∧ i = .int .i64 k ∧ v = .slice (some ⟨g, 0, none⟩) (rowsU n x k).length c ∧ Law w [tOwn v (rowsU n x k)] wr) (fun _ i _ => n - (intOf i).toNat)
  case atStart => exact ⟨0, _, _, by omega, rfl, rfl, HL2.out⟩
  case round =>
    clear HL2
    obtain ⟨k, g, c, hk, rfl, rfl, L⟩ := hrel
    by_cases hlt : k < n
    · obtain ⟨j, hj⟩ : ∃ j : Nat, j = n - 1 - k := ⟨_, rfl⟩
      have hb := bit_at (x : Int) j ⟨by omega, by omega⟩ (by omega)
      rw [Int.toNat_natCast] at hb
      have hno := rowsU_no n x k
      have hyes := rowsU_yes n x k
      rw [← hj] at hno hyes
      have hln := rowsU_len n x k
      have hk0 : (0 : Int) ≤ k := by omega
      have hkn : (k : Int) < n := by omega
      have hw1 : IntKind.i64.wrap ((n : Int) - 1) = (n : Int) - 1 := IntWalk.i64_in _ (by omega)
      have hw2 : IntKind.i64.wrap ((n : Int) - 1 - k) = (j : Int) := by rw [IntWalk.i64_in _ (by omega)]; omega
      have hw3 : wrap64 ((n : Int) - 1 - k) = (j : Int) := by rw [IntWalk.wrap64_in _ (by omega)]; omega
      have hj0 : (0 : Int) ≤ j := by omega
      have hj64 : (j : Int) < 64 := by omega
      clear hj
      cases hp : x.testBit j
      · rw [hp] at hb
        have HX := Lib.hid (hno hp)
        have HL := Lib.hid L
        clear L hp hno hyes
        go_wp2_with fail
        go_roundw
        case rel => exact ⟨k + 1, g, c, by omega, by go_num, by rw [HX.out], by rw [HX.out]; exact HL.out⟩
        case measure => simp [intOf]; omega
      · rw [hp] at hb
        have HX := Lib.hid (hyes hp).symm
        have HL := Lib.hid (L.kept (below_new (.cells #[.int .i64 (k : Int)] 3)))
        have HC1 := Lib.hid (show (wr.alloc (.cells #[.int .i64 (k : Int)] 3)).cell? ⟨wr.heap.size, 0, none⟩ = some (.int .i64 (k : Int)) by simp)
        have hl2 : (rowsU n x k).length + 1 ≤ 1048576 := by omega
        clear L hp hno hyes
        go_wp2_with (at_builtin; refine wp_appendI rfl _ _ rfl (k : Int) HL.out wr.heap.size rfl rfl HC1.out hl2 _ HX.out ?_)
        intro g2 cp w3 L3
        have HL3 := Lib.hid L3
        clear L3 HL
        go_wp2_with fail
        go_roundw
        case rel => exact ⟨k + 1, g2, cp, by omega, by go_num, rfl, HL3.out⟩
        case measure => simp [intOf]; omega
    · obtain rfl : k = n := by omega
      have HL := Lib.hid L
      clear L
      go_wp2_with fail
      go_ret
      exact ⟨g, c, by first | (rw [HF.out]; done) | (rw [HF.out]; rfl), by rw [HF.out]; exact HL.out.ownLo, HL.out.below⟩

theorem pow_less0 (m : Nat) (hm : m ≤ 6) : wrap64 (wrap64 (2 ^ m) - 1) = ((2 ^ m - 1 : Nat) : Int) := by
  have key : ∀ m : Fin 7, wrap64 (wrap64 (2 ^ (m : Nat)) - 1) = ((2 ^ (m : Nat) - 1 : Nat) : Int) := by decide +kernel
  exact key ⟨m, by omega⟩

set_option maxRecDepth 100000 in
set_option maxHeartbeats 6400000 in
/-- A search: what is wanted is asked of each list of rows in order; what is found is handed over. -/
theorem among_any (n : Nat) (Wf Ff : FuncId) (cw cf : Array Value) (foot : Nat → Prop) (I : Nat → World → Prop) (wb cb : Nat → Bool) (w : World) (hn : n ≤ 6)
    (hfoot : ∀ b, foot b → b < w.heap.size) (hkeep : ∀ j w1 w2, Below w1.heap.size w1 w2 → I j w1 → I j w2)
    (hcw : ∀ (args : Array Value) (w : World), (callFunc Wf args).run Try.prog w = .ok (.enter Wf args) w) (hcf : ∀ (args : Array Value) (w : World), (callFunc Ff args).run Try.prog w = .ok (.enter Ff args) w)
    (hskip : ∀ j w1, (runW (fun j => !wb j || cb j) j).2 = true → wb j = false → I j w1 → I (j + 1) w1)
    (hwant : ∀ j R, (sets n)[j]? = some R → (runW (fun j => !wb j || cb j) j).2 = true → ∀ (w1 : World) (g cp : Nat), I j w1 → Own w1 w.heap.size (.slice (some ⟨g, 0, none⟩) R.length cp) R → Calls Try.prog Wf (#[.slice (some ⟨g, 0, none⟩) R.length cp] ++ cw) w1 fun e w2 => e = .returned (.bool (wb j)) ∧ Below w1.heap.size w1 w2)
    (hfound : ∀ j R, (sets n)[j]? = some R → (runW (fun j => !wb j || cb j) j).2 = true → wb j = true → ∀ (w1 : World) (g cp : Nat), I j w1 → Own w1 w.heap.size (.slice (some ⟨g, 0, none⟩) R.length cp) R → Calls Try.prog Ff (#[.slice (some ⟨g, 0, none⟩) R.length cp] ++ cf) w1 fun e w2 => e = .returned (.bool (cb j)) ∧ I (j + 1) w2 ∧ Chg foot w1 w2)
    (hI : I 0 w) :
    Calls Try.prog 84 #[.agg #[.func (.func Wf) #[] cw, .func (.func Ff) #[] cf], .int .i64 n] w fun e w' => e = .returned (.tuple #[]) ∧ I (runW (fun j => !wb j || cb j) (sets n).length).1 w' ∧ Chg foot w w' := by
  have L0 := (Law.start w).has [.func (.func Wf) #[] cw, .func (.func Ff) #[] cf] 87
  have HL := Lib.hid L0
  have HK := Lib.hid hkeep
  have HFT := Lib.hid hfoot
  have HSK := Lib.hid hskip
  have HWN := Lib.hid hwant
  have HFN := Lib.hid hfound
  have HI0 := Lib.hid hI
  have HRN := Lib.hid (fun x W (h : x < 64) => rowsOfNumber_any n x W hn h)
  clear L0 hkeep hfoot hskip hwant hfound hI
  have HP2 := Lib.hid (show ∀ q : Nat, q < 2 ^ n → 2 ^ n - 1 - q < 64 from fun q _ => by
    have : 2 ^ n ≤ 2 ^ 6 := Nat.pow_le_pow_right (by omega) hn
    omega)
  have hn0 : (0 : Int) ≤ n := by omega
  have hn64 : (n : Int) < 64 := by omega
  have hn7 : (n : Int) < 7 := by omega
  obtain ⟨T, hT⟩ : ∃ T : Nat, T = 2 ^ n := ⟨_, rfl⟩
  have hT64 : T ≤ 64 := by rw [hT]; exact Nat.pow_le_pow_right (by omega) hn
  have hTp : 0 < T := by rw [hT]; exact Nat.two_pow_pos n
  have HPW : Hid (wrap64 (wrap64 (2 ^ n) - 1) = (T : Int) - 1) := Lib.hid (by rw [pow_less0 n hn, hT]; have := Nat.two_pow_pos n; omega)
  have HTT := Lib.hid hT
  clear hT
  go_enter Try.func84, Try.ntmps84
  go_wp2_with fail
  go_step3
  go_wp2_with fail
  go_step3
  go_upto_region 1 with fail
  have hb1 := below_new (w := w) (.cells #[.func (.func Wf) #[] cw, .func (.func Ff) #[] cf] 87)
  have HS0 := Lib.hid (show I 0 (w.alloc (.cells #[.func (.func Wf) #[] cw, .func (.func Ff) #[] cf] 87)) ∧ Has (w.alloc (.cells #[.func (.func Wf) #[] cw, .func (.func Ff) #[] cf] 87)) w.heap.size [.func (.func Wf) #[] cw, .func (.func Ff) #[] cf] 87 ∧ Chg foot w (w.alloc (.cells #[.func (.func Wf) #[] cw, .func (.func Ff) #[] cf] 87)) from ⟨HK.out 0 _ _ hb1 HI0.out, HL.out.ownHas, Chg.of_below hb1⟩)
  clear hb1 HL HI0
  generalize w.alloc (.cells #[.func (.func Wf) #[] cw, .func (.func Ff) #[] cf] 87) = w5 at *
  have HFB := Lib.hid (fun h : foot w.heap.size => Nat.lt_irrefl _ (HFT.out _ h))
  go_wp2_with fail
  go_loopw [9] (fun i wr => ∃ z : Nat, z ≤ n + 1 ∧ i = .int .i64 z ∧ Hid ((runW (fun j => !wb j || cb j) (seenS n z 0)).2 = true) ∧ I (seenS n z 0) wr ∧ Has wr w.heap.size [.func (.func Wf) #[] cw, .func (.func Ff) #[] cf] 87 ∧ Chg foot w wr) (fun i _ => ((n : Int) + 1 - intOf i).toNat)
  case atStart => exact ⟨0, by omega, rfl, Lib.hid rfl, HS0.out⟩
  case round =>
    clear HS0
    obtain ⟨z, hz, rfl, HG, hi, hh, hc⟩ := hrel
    by_cases hzn : z ≤ n
    · have hz1 : (z : Int) < (n : Int) + 1 := by omega
      have HST := Lib.hid (And.intro hi (And.intro hh hc))
      clear hi hh hc
      go_wp2_with fail
      go_loopw [5] (fun v wr => ∃ (q : Nat) (y : Int), q ≤ T ∧ Hid (y + 1 + q = T) ∧ v = .int .i64 y ∧ Hid ((runW (fun j => !wb j || cb j) (seenS n z q)).2 = true) ∧ I (seenS n z q) wr ∧ Has wr w.heap.size [.func (.func Wf) #[] cw, .func (.func Ff) #[] cf] 87 ∧ Chg foot w wr) (fun v _ => (intOf v + 1).toNat)
      case atStart => exact ⟨0, (T : Int) - 1, by omega, Lib.hid (by omega), by rw [HPW.out], HG, HST.out⟩
      case round =>
        clear HST HG
        obtain ⟨q, y, hq, HY, rfl, HG, hi, hh, hc⟩ := hrel
        by_cases hqT : q < T
        · obtain ⟨x, hx⟩ : ∃ x : Nat, x = 2 ^ n - 1 - q := ⟨_, rfl⟩
          have hyx : y = (x : Int) := by have := HY.out; have := HTT.out; omega
          have hx64 : x < 64 := by rw [hx]; exact HP2.out q (by have := HTT.out; omega)
          subst hyx
          have hx0 : (0 : Int) ≤ x := by omega
          have hv0 := hh.cell 0
          have hv1 := hh.cell 1
          simp only [List.getElem?_cons_zero, List.getElem?_cons_succ] at hv0 hv1
          have HHH := Lib.hid hh
          have HC0 := Lib.hid hc
          have HI1 := Lib.hid hi
          have HQX := Lib.hid hx
          by_cases hp : pop (x : Int) = z
          · have hat := seenS_at n z q hn hzn (by have := HTT.out; omega) (by rw [← hx]; exact hp)
            have hsy := seenS_yes n z q (by rw [← hx]; exact hp)
            rw [← hx] at hat
            have HAT := Lib.hid hat
            have HSY := Lib.hid hsy
            have HON := Lib.hid (fun W => ones_any x W hx64)
            have hrn := fun W => HRN.out x W hx64
            rw [hp] at HON
            generalize rowsN n x = R at HAT hrn
            have HRX := Lib.hid hrn
            have hzz : ((z : Int) != (z : Int)) = false := by simp
            clear hat hsy hh hc hi hx hp hrn
            go_wp2_with fail
            refine (HON.out _).mono ?_
            rintro e w' ⟨rfl, rfl⟩
            go_wp2_with fail
            refine (HRX.out _).mono ?_
            rintro e w2 ⟨g, cp, rfl, hO, hb⟩
            have hv0 := (hb.cell (p := ⟨w.heap.size, 0, none⟩) HHH.out.lt).trans hv0
            have hv1 := (hb.cell (p := ⟨w.heap.size, 1, none⟩) HHH.out.lt).trans hv1
            have HO2 := Lib.hid (hO.lower (show w.heap.size ≤ wr.heap.size from HC0.out.size))
            have HI2 := Lib.hid (HK.out _ _ _ hb HI1.out)
            have HH2 := Lib.hid (HHH.out.kept hb HHH.out.lt)
            have HC2 := Lib.hid (HC0.out.trans (Chg.of_below hb))
            have HLT := Lib.hid HH2.out.lt
            clear hO hb HI1 HC0 HHH
            go_wp2_with fail
            cases hw : wb (seenS n z q)
            · have hwn := HWN.out _ R HAT.out HG.out w2 g cp HI2.out HO2.out
              rw [hw] at hwn
              refine hwn.mono ?_
              rintro e w3 ⟨rfl, hb3⟩
              have HN := Lib.hid (show (runW (fun j => !wb j || cb j) (seenS n z (q + 1))).2 = true ∧ I (seenS n z (q + 1)) w3 ∧ Has w3 w.heap.size [.func (.func Wf) #[] cw, .func (.func Ff) #[] cf] 87 ∧ Chg foot w w3 from
                ⟨by rw [HSY.out, runW, HG.out, if_pos rfl]; simp [hw], by rw [HSY.out]; exact HSK.out _ _ HG.out hw (HK.out _ _ _ hb3 HI2.out), HH2.out.kept hb3 HLT.out, HC2.out.trans (Chg.of_below hb3)⟩)
              clear hwn hb3 hw HI2 HO2 HH2 HC2 hv0 hv1
              go_wp2_with fail
              go_roundw
              case rel => exact ⟨q + 1, (x : Int) - 1, hqT, Lib.hid (by have := HY.out; push_cast; omega), by go_num, Lib.hid HN.out.1, HN.out.2⟩
              case measure => first | (simp [intOf]; done) | (simp [intOf]; omega)
            · have hwn := HWN.out _ R HAT.out HG.out w2 g cp HI2.out HO2.out
              rw [hw] at hwn
              refine hwn.mono ?_
              rintro e w3 ⟨rfl, hb3⟩
              have hv0 := (hb3.cell (p := ⟨w.heap.size, 0, none⟩) HLT.out).trans hv0
              have hv1 := (hb3.cell (p := ⟨w.heap.size, 1, none⟩) HLT.out).trans hv1
              have hfn := HFN.out _ R HAT.out HG.out hw w3 g cp (HK.out _ _ _ hb3 HI2.out) (HO2.out.kept hb3)
              have HH3 := Lib.hid (HH2.out.kept hb3 HLT.out)
              have HC3 := Lib.hid (HC2.out.trans (Chg.of_below hb3))
              have HF3 := Lib.hid hfn
              clear hwn hfn hb3 HI2 HO2 HH2 HC2
              cases hcb : cb (seenS n z q)
              · rw [hcb] at HF3
                go_wp2_with fail
                refine HF3.out.mono ?_
                rintro e w4 ⟨rfl, hi4, hc4⟩
                have HE := Lib.hid (show I (runW (fun j => !wb j || cb j) (sets n).length).1 w4 ∧ Chg foot w w4 from by
                  have h1 : runW (fun j => !wb j || cb j) (seenS n z q + 1) = (seenS n z q + 1, false) := by
                    rw [runW, HG.out, if_pos rfl, hw, hcb]
                    rfl
                  have hlt : seenS n z q < (sets n).length := (List.getElem?_eq_some_iff.1 HAT.out).1
                  have h2 := runW_stop (fun j => !wb j || cb j) (seenS n z q + 1) (sets n).length hlt (by rw [h1])
                  rw [h2, h1]
                  exact ⟨hi4, HC3.out.trans hc4⟩)
                clear hi4 hc4 hw hcb HF3 HH3 HC3 hv0 hv1
                go_wp2_with fail
                first | rw [Exit.noGoto_normal] | simp only [Exit.noGoto]
                go_end0
                exact ⟨rfl, HE.out⟩
              · rw [hcb] at HF3
                go_wp2_with fail
                refine HF3.out.mono ?_
                rintro e w4 ⟨rfl, hi4, hc4⟩
                have HN := Lib.hid (show (runW (fun j => !wb j || cb j) (seenS n z (q + 1))).2 = true ∧ I (seenS n z (q + 1)) w4 ∧ Has w4 w.heap.size [.func (.func Wf) #[] cw, .func (.func Ff) #[] cf] 87 ∧ Chg foot w w4 from
                  ⟨by rw [HSY.out, runW, HG.out, if_pos rfl]; simp [hcb], by rw [HSY.out]; exact hi4, hc4.has HFB.out HH3.out, HC3.out.trans hc4⟩)
                clear hi4 hc4 hw hcb HF3 HH3 HC3 hv0 hv1
                go_wp2_with fail
                go_roundw
                case rel => exact ⟨q + 1, (x : Int) - 1, hqT, Lib.hid (by have := HY.out; push_cast; omega), by go_num, Lib.hid HN.out.1, HN.out.2⟩
                case measure => first | (simp [intOf]; done) | (simp [intOf]; omega)
          · have HON := Lib.hid (fun W => ones_any x W hx64)
            have hsn := seenS_no n z q (by rw [← hx]; exact hp)
            have HN := Lib.hid (show (runW (fun j => !wb j || cb j) (seenS n z (q + 1))).2 = true ∧ I (seenS n z (q + 1)) wr ∧ Has wr w.heap.size [.func (.func Wf) #[] cw, .func (.func Ff) #[] cf] 87 ∧ Chg foot w wr from
              ⟨by rw [hsn]; exact HG.out, by rw [hsn]; exact HI1.out, HHH.out, HC0.out⟩)
            have hpne : (pop (x : Int) != (z : Int)) = true := by simp [hp]
            generalize pop (x : Int) = px at *
            clear hsn hh hc hi hx hp HI1 HC0 HHH hv0 hv1
            go_wp2_with fail
            refine (HON.out _).mono ?_
            rintro e w' ⟨rfl, rfl⟩
            go_wp2_with fail
            go_roundw
            case rel => exact ⟨q + 1, (x : Int) - 1, hqT, Lib.hid (by have := HY.out; push_cast; omega), by go_num, Lib.hid HN.out.1, HN.out.2⟩
            case measure => first | (simp [intOf]; done) | (simp [intOf]; omega)
        · obtain rfl : q = T := by omega
          obtain rfl : y = -1 := by have := HY.out; omega
          have HN := Lib.hid (show (runW (fun j => !wb j || cb j) (seenS n (z + 1) 0)).2 = true ∧ I (seenS n (z + 1) 0) wr ∧ Has wr w.heap.size [.func (.func Wf) #[] cw, .func (.func Ff) #[] cf] 87 ∧ Chg foot w wr from by
            rw [← seenS_row, ← HTT.out]
            exact ⟨HG.out, hi, hh, hc⟩)
          clear hi hh hc HG
          go_wp2_with fail
          go_roundw
          case rel => exact ⟨z + 1, by omega, by go_num, Lib.hid HN.out.1, HN.out.2⟩
          case measure => first | (simp [intOf]; done) | (simp [intOf]; omega)
    · obtain rfl : z = n + 1 := by omega
      have hz1 : ¬ ((n + 1 : Nat) : Int) < (n : Int) + 1 := by omega
      have HE := Lib.hid (show I (runW (fun j => !wb j || cb j) (sets n).length).1 wr ∧ Chg foot w wr from by
        rw [← seenS_all n hn, runW_full _ _ HG.out]
        exact ⟨hi, hc⟩)
      clear hi hh hc HG
      go_wp2_with fail
      go_end0
      exact ⟨rfl, HE.out⟩
end Go.Proofs.Ytdimbnkgomfojab
