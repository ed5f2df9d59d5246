/- Strict lists, in both texts. No condition but the sizes. -/
import Derived.Test.YthkghbnmdebhpaaFv
namespace Go.Proofs.Ythkghbnmdebhpaa
open Go.RowKit Go.WideShapes

def strictR (xs : List Int) : LR := if lenB xs then ⟨stP (facs xs) xs.length, true⟩ else ⟨[], false⟩
theorem strictR_len (xs : List Int) : (strictR xs).ys.length ≤ 1048576 := by
  unfold strictR
  split
  · rename_i h
    have := len_facts h
    show (stP _ _).length ≤ _
    rw [stP_len, facs_len]
    omega
  · simp
theorem outP_A {fs : List Int} {k : Nat} (h : ¬ fs.getD k 0 ≤ 0) : outP fs k = false := by rw [outP, decide_eq_false h, Bool.false_and]
theorem outP_B {fs : List Int} {k : Nat} (h : fs.getD k 0 ≤ 0) (hk : k = 0) : outP fs k = true := by rw [outP, decide_eq_true h, decide_eq_true hk]; rfl
theorem outP_C {fs : List Int} {k : Nat} (h : fs.getD k 0 ≤ 0) (hl : fs.getD (k - 1) 0 < fs.getD k 0) : outP fs k = true := by rw [outP, decide_eq_true h, decide_eq_true hl, Bool.or_true]; rfl
theorem outP_D {fs : List Int} {k : Nat} (hk : ¬ k = 0) (hl : ¬ fs.getD (k - 1) 0 < fs.getD k 0) : outP fs k = false := by rw [outP, decide_eq_false hk, decide_eq_false hl, Bool.or_false, Bool.and_false]
theorem stP_skip {fs : List Int} {k : Nat} (h : outP fs k = true) : stP fs (k + 1) = stP fs k ∧ atP fs (k + 1) = atP fs k := by
  rw [stP, atP, if_pos h, if_pos h]
  exact ⟨rfl, rfl⟩
theorem stP_put {fs : List Int} {k q : Nat} (h : outP fs k = false) (hq : atP fs k = q) : stP fs (k + 1) = (stP fs k).set q (fs.getD k 0 + q) ∧ atP fs (k + 1) = (q : Int) + 1 := by
  rw [stP, atP, if_neg (by rw [h]; decide), if_neg (by rw [h]; decide), hq, Int.toNat_natCast]
  exact ⟨rfl, rfl⟩

set_option maxRecDepth 100000 in
set_option maxHeartbeats 3200000 in
theorem implStrict_any (xs : List Int) (w : World) (hx : xs.length ≤ 1048576) (lo : Nat) (s : Value) (hO : Own w lo s xs) :
    Calls Try.prog 45 #[s] w fun e w' => AnsL (strictR xs) w e w' := by
  obtain ⟨a, p, rfl, hr⟩ := hO.reads
  clear hO
  cases hg : lenB xs
  · rw [show strictR xs = ⟨[], false⟩ by simp [strictR, hg]]
    have HC := Lib.hid (lengthsOf_no a p xs w hx hr hg)
    clear hg
    go_enter Try.func45, Try.ntmps45
    go_wp2_with fail
    refine HC.out.mono ?_
    rintro e w2 ⟨rfl, hb⟩
    go_wp2_with fail
    go_ret2
    exact ⟨_, rfl, Own.nil _ _, below_on hb (below_new _)⟩
  · rw [show strictR xs = ⟨stP (facs xs) xs.length, true⟩ by simp [strictR, hg]]
    obtain ⟨l1, l2, _⟩ := len_facts hg
    have HC := Lib.hid (lengthsOf_yes a p xs w hx hr hg)
    have HF := Lib.hid (fun W => factors_any xs W l1 l2 (len_bd hg))
    have hl := fun W => list_any (facs xs) W (by rw [facs_len]; exact l2)
    rw [facs_len] at hl
    have hst := (strict_same hg).2
    have hbd := facs_bd hg
    have hfl := facs_len xs
    obtain ⟨n, hn⟩ : ∃ n, n = xs.length := ⟨_, rfl⟩
    rw [← hn] at l1 l2 HC HF hl hst hfl ⊢
    obtain ⟨M, hM⟩ : ∃ M : Nat → Int, M = fun k => xs.getD k 0 := ⟨_, rfl⟩
    rw [show fl xs = M from hM.symm] at HF
    rw [← hM] at HC
    obtain ⟨fs, hfs⟩ : ∃ fs, fs = facs xs := ⟨_, rfl⟩
    rw [← hfs] at hl hst hbd hfl HF ⊢
    have HL := Lib.hid hl
    have HT := Lib.hid hst
    have HY := Lib.hid hbd
    have HN := Lib.hid hfl
    have hmk := run_make_row' (P := Try.prog) 22 3 (.int .i64 0) 8 Try.underlying22 Try.infoI rfl .i64 .i64 n (by omega) (by omega)
    clear hg hl hM hfs hn hst hbd hfl hr
    go_enter Try.func45, Try.ntmps45
    go_wp2_with fail
    refine HC.out.mono ?_
    rintro e w2 ⟨rfl, hb⟩
    have L2 := ((Law.start w).kept hb).has (sl n M) 49
    rw [show w2.alloc (.cells (sl n M).toArray 49) = w2.alloc (.cells #[.int .i64 n, .int .i64 (M 0), .int .i64 (M 1), .int .i64 (M 2), .int .i64 (M 3), .int .i64 (M 4), .int .i64 (M 5)] 49) from rfl] at L2
    have HL2 := Lib.hid L2
    clear hb L2 HC
    go_upto_region 2 with fail
    generalize w2.alloc _ = w5 at *
    obtain ⟨e0, e1, e2, e3, e4, e5, e6, _⟩ := HL2.out.ownHas.seven
    go_wp2_with fail
    refine (HF.out _).mono ?_
    rintro e w3 ⟨rfl, hb3⟩
    go_wp2_with fail
    refine (HL.out _).mono ?_
    rintro e w4 ⟨v, rfl, hO, hb4⟩
    have L4 := (HL2.out.kept hb3).own hb4 hO
    clear e0 e1 e2 e3 e4 e5 e6
    rcases hO.cases with ⟨rfl, h0⟩ | ⟨gf, po, rfl, _, _, _, _⟩
    · rw [h0] at HN
      have := HN.out
      simp at this
      omega
    rw [HN.out] at L4 ⊢
    have ⟨e0, _⟩ := L4.tl.ownHas.seven
    have HL4 := Lib.hid L4
    clear L4 hO hb3 hb4 HF HL HL2
    go_upto_region 6 with fail
    have L5 := HL4.out.own (below_new _) (own_made w4 n _ w4.heap.size rfl (Nat.le_refl _) (by omega))
    rw [show List.replicate n 0 = stP fs 0 by rw [stP, HN.out]] at L5
    have HL5 := Lib.hid L5
    clear HL4 L5 e0 hmk
    generalize w4.alloc (.cells (madeCells #[.int .i64 0] n) 3) = w6 at *
    obtain ⟨g, hgg⟩ : ∃ g, g = w4.heap.size := ⟨_, rfl⟩
    have o1 := HL5.out.tl.ownInts
    have c0 := Own.cell (by rw [HN.out]; exact o1) 0 (by rw [HN.out]; omega)
    have hy0 := HY.out 0
    have hn0 : (0 : Int) < n := by omega
    have hn1 : 0 < n := by omega
    obtain ⟨y0, hyy0⟩ : ∃ y0, y0 = fs.getD 0 0 := ⟨_, rfl⟩
    rw [← hyy0] at c0 hy0
    have hw0 : IntKind.i64.wrap (1 - y0) = 1 - y0 := IntWalk.i64_in _ (by omega)
    have HAT := Lib.hid (show 1 - y0 = atP fs 0 by rw [hyy0]; rfl)
    clear hyy0 o1
    go_wp2_with fail
    go_loopw [8, 30] (fun z i wr => ∃ k : Nat, k ≤ n ∧ i = .int .i64 k ∧ z = .int .i64 (atP fs k) ∧ Law w [tOwn (.slice (some ⟨w4.heap.size, 0, none⟩) n n) (stP fs k), tOwn (.slice (some ⟨gf, 0, none⟩) n po) fs, tHas w2.heap.size (sl n M) 49] wr) (fun _ i _ => n - (intOf i).toNat)
    case atStart => exact ⟨0, Nat.zero_le _, rfl, by rw [HAT.out], HL5.out⟩
    case round =>
      clear HL5 c0 hy0 hw0 HAT
      obtain ⟨k, hk, rfl, rfl, L⟩ := hrel
      obtain ⟨wo, rfl⟩ : ∃ wo : World, wo = wr := ⟨_, rfl⟩
      by_cases hlt : k < n
      · have o1 := L.tl.ownInts
        have ck := Own.cell (by rw [HN.out]; exact o1) k (by rw [HN.out]; omega)
        have cj := Own.cell (by rw [HN.out]; exact o1) (k - 1) (by rw [HN.out]; omega)
        obtain ⟨hb1, hb2⟩ := HT.out k hlt
        have hy := HY.out k
        clear o1
        obtain ⟨y, hyy⟩ : ∃ y, y = fs.getD k 0 := ⟨_, rfl⟩
        rw [← hyy] at ck hy
        replace hyy := hyy.symm
        have hk0 : (0 : Int) ≤ k := by omega
        by_cases hA : fs.getD k 0 ≤ 0
        · have hyle : y ≤ 0 := by omega
          by_cases hk1 : k = 0
          · have HOUT := Lib.hid (outP_B hA hk1)
            clear hA cj
            subst hk1
            simp only [show ((0 : Nat) : Int) = 0 from rfl]
            have hskip := stP_skip HOUT.out
            rw [← hskip.1] at L
            have HS := Lib.hid L
            have HA := Lib.hid hskip.2
            clear L hskip hb1 hb2 HOUT hyy
            go_wp2_with fail
            go_roundw
            case rel => exact ⟨1, by omega, by go_num, by rw [HA.out], HS.out⟩
            case measure => simp [intOf]; omega
          · have hk2 : (0 : Int) ≤ (k : Int) - 1 := by omega
            have hk3 : ((k : Int) - 1).toNat = k - 1 := by omega
            have hk4 : (k : Int) - 1 < n := by omega
            have hk5 : IntKind.i64.wrap ((k : Int) - 1) = (k : Int) - 1 := IntWalk.i64_in _ (by omega)
            have hk6 : ((k : Int) == 0) = false := by rw [beq_eq_false_iff_ne]; omega
            by_cases hC : fs.getD (k - 1) 0 < fs.getD k 0
            · have HOUT := Lib.hid (outP_C hA hC)
              rw [hyy] at hC
              generalize fs.getD (k - 1) 0 = x at *
              clear hA
              have hskip := stP_skip HOUT.out
              rw [← hskip.1] at L
              have HS := Lib.hid L
              have HA := Lib.hid hskip.2
              clear L hskip hb1 hb2 HOUT hyy
              go_wp2_with fail
              go_roundw
              case rel => exact ⟨k + 1, by omega, by go_num, by rw [HA.out], HS.out⟩
              case measure => simp [intOf]; omega
            · have HOUT := Lib.hid (outP_D hk1 hC)
              rw [hyy] at hC
              have hC2 : ¬ fs.getD (k - 1) 0 < y := hC
              generalize fs.getD (k - 1) 0 = x at *
              clear hA
              have hqn : atP fs k < n := hb2 HOUT.out
              obtain ⟨q, hq⟩ := Int.eq_ofNat_of_zero_le hb1
              have o := L.ownInts
              have d1 := Own.cell (by rw [stP_len, HN.out]; exact o) q (by rw [stP_len, HN.out]; omega)
              have d2 := Own.free (by rw [stP_len, HN.out]; exact o) q
              have hS := Law.store (ts := []) L (by rw [stP_len, HN.out]) q (y + q)
              have hput := stP_put HOUT.out hq
              rw [hyy] at hput
              rw [← hput.1] at hS
              rw [hq] at hqn ⊢
              have HS := Lib.hid hS
              have HA := Lib.hid hput.2
              have hq1 : (0 : Int) ≤ q := by omega
              have hw1 : IntKind.i64.wrap (y + q) = y + q := IntWalk.i64_in _ (by omega)
              have hw2 : IntKind.i64.wrap ((q : Int) + 1) = (q : Int) + 1 := IntWalk.i64_in _ (by omega)
              generalize (stP fs k).getD q 0 = u at *
              clear hS L o hput hb1 hb2 hq HOUT hyy
              go_wp2_with fail
              go_roundw
              case rel => exact ⟨k + 1, by omega, by go_num, by rw [HA.out], HS.out⟩
              case measure => simp [intOf]; omega
        · have HOUT := Lib.hid (outP_A hA)
          have hygt : 0 < y := by omega
          have hyle : ¬ y ≤ 0 := by omega
          clear hA cj
          have hqn : atP fs k < n := hb2 HOUT.out
          obtain ⟨q, hq⟩ := Int.eq_ofNat_of_zero_le hb1
          have o := L.ownInts
          have d1 := Own.cell (by rw [stP_len, HN.out]; exact o) q (by rw [stP_len, HN.out]; omega)
          have d2 := Own.free (by rw [stP_len, HN.out]; exact o) q
          have hS := Law.store (ts := []) L (by rw [stP_len, HN.out]) q (y + q)
          have hput := stP_put HOUT.out hq
          rw [hyy] at hput
          rw [← hput.1] at hS
          rw [hq] at hqn ⊢
          have HS := Lib.hid hS
          have HA := Lib.hid hput.2
          have hq1 : (0 : Int) ≤ q := by omega
          have hw1 : IntKind.i64.wrap (y + q) = y + q := IntWalk.i64_in _ (by omega)
          have hw2 : IntKind.i64.wrap ((q : Int) + 1) = (q : Int) + 1 := IntWalk.i64_in _ (by omega)
          generalize (stP fs k).getD q 0 = u at *
          clear hS L o hput hb1 hb2 hq HOUT hyy
          go_wp2_with fail
          go_roundw
          case rel => exact ⟨k + 1, by omega, by go_num, by rw [HA.out], HS.out⟩
          case measure => simp [intOf]; omega
      · obtain rfl : k = n := by omega
        have HL := Lib.hid L
        clear L
        go_wp2_with fail
        go_ret2
        exact ⟨_, rfl, HL.out.ownLo, HL.out.below⟩

theorem outS_yes {fs : List Int} {o : Int} {k : Nat} (h1 : o < zeroS fs) (h2 : fs.getD k 0 = 1 - zeroS fs + o) : outS fs o k = true := by rw [outS, decide_eq_true h1, decide_eq_true h2]; rfl
theorem outS_no1 {fs : List Int} {o : Int} {k : Nat} (h1 : ¬ o < zeroS fs) : outS fs o k = false := by rw [outS, decide_eq_false h1, Bool.false_and]
theorem outS_no2 {fs : List Int} {o : Int} {k : Nat} (h2 : ¬ fs.getD k 0 = 1 - zeroS fs + o) : outS fs o k = false := by rw [outS, decide_eq_false h2, Bool.and_false]
theorem stS_skip {fs : List Int} {k : Nat} (h : outS fs (opS fs k) k = true) : stS fs (k + 1) = stS fs k ∧ opS fs (k + 1) = opS fs k + 1 := by
  rw [stS, opS, if_pos h, if_pos h]
  exact ⟨rfl, rfl⟩
theorem stS_put {fs : List Int} {k : Nat} (h : outS fs (opS fs k) k = false) : stS fs (k + 1) = stS fs k ++ [fs.getD k 0 + (stS fs k).length] ∧ opS fs (k + 1) = opS fs k := by
  rw [stS, opS, if_neg (by rw [h]; decide), if_neg (by rw [h]; decide)]
  exact ⟨rfl, rfl⟩
theorem opS_bd (fs : List Int) (k : Nat) : 0 ≤ opS fs k ∧ opS fs k ≤ k := by
  induction k with
  | zero => simp [opS]
  | succ k ih => rw [opS]; split <;> omega

set_option maxRecDepth 100000 in
set_option maxHeartbeats 3200000 in
theorem specStrict_any (xs : List Int) (w : World) (hx : xs.length ≤ 1048576) (lo : Nat) (s : Value) (hO : Own w lo s xs) :
    Calls Try.prog 44 #[s] w fun e w' => AnsL (strictR xs) w e w' := by
  obtain ⟨a, p, rfl, hr⟩ := hO.reads
  clear hO
  cases hg : lenB xs
  · rw [show strictR xs = ⟨[], false⟩ by simp [strictR, hg]]
    have HC := Lib.hid (at_boolB (feGood_any a p xs w hx hr) hg)
    clear hg
    go_enter Try.func44, Try.ntmps44
    go_wp2_with fail
    refine HC.out.mono ?_
    rintro e w2 ⟨rfl, hb⟩
    go_wp2_with fail
    go_ret2
    exact ⟨_, rfl, Own.nil _ _, hb⟩
  · rw [show strictR xs = ⟨stS (facs xs) xs.length, true⟩ by simp [strictR, hg, (strict_same hg).1]]
    obtain ⟨l1, l2, _⟩ := len_facts hg
    have HC := Lib.hid (at_boolB (feGood_any a p xs w hx hr) hg)
    have HF := Lib.hid (fun (W : World) (h : Reads W a xs.length xs) => feFactors_any a p xs W (by omega) (len_bd hg) h)
    have hbd := facs_bd hg
    have hfl := facs_len xs
    obtain ⟨n, hn⟩ : ∃ n, n = xs.length := ⟨_, rfl⟩
    rw [← hn] at l1 l2 hfl HC HF hr ⊢
    obtain ⟨fs, hfs⟩ : ∃ fs, fs = facs xs := ⟨_, rfl⟩
    rw [← hfs] at hbd hfl HF ⊢
    have HY := Lib.hid hbd
    have HN := Lib.hid hfl
    have hz0 : 0 ≤ zeroS fs ∧ zeroS fs ≤ 7 := by have := hbd 0; unfold zeroS; omega
    obtain ⟨z, hz⟩ := Int.eq_ofNat_of_zero_le hz0.1
    have hz7 : z ≤ 7 := by omega
    have hzz : max 0 (1 - fs.getD 0 0) = (z : Int) := by rw [← hz]; rfl
    have HZ := Lib.hid hz
    have hmk := run_make_row' (P := Try.prog) 22 3 (.int .i64 0) 8 Try.underlying22 Try.infoI rfl .i64 .i64 z (by omega) (by omega)
    have HST := Lib.hid (fun k => show (stS fs k).length ≤ z + k from by have := stS_len fs k; rw [hz, Int.toNat_natCast] at this; exact this)
    clear hg hfs hn hbd hfl hz hz0
    go_enter Try.func44, Try.ntmps44
    go_wp2_with fail
    refine HC.out.mono ?_
    rintro e w2 ⟨rfl, hb⟩
    go_wp2_with fail
    refine (HF.out _ (hr.kept hb)).mono ?_
    rintro e w4 ⟨v, rfl, hO, hb4⟩
    have L4 := ((Law.start w).kept hb).own hb4 hO
    rcases hO.cases with ⟨rfl, h0⟩ | ⟨gf, po, rfl, _, _, _, _⟩
    · rw [h0] at HN
      have := HN.out
      simp at this
      omega
    rw [HN.out] at L4 ⊢
    have o1 := L4.ownInts
    have c0 := Own.cell (by rw [HN.out]; exact o1) 0 (by rw [HN.out]; omega)
    have hy0 := HY.out 0
    have hn0 : (0 : Int) < n := by omega
    have hn1 : 0 < n := by omega
    obtain ⟨y0, hyy0⟩ : ∃ y0, y0 = fs.getD 0 0 := ⟨_, rfl⟩
    rw [← hyy0] at c0 hy0 hzz
    have hw0 : IntKind.i64.wrap (1 - y0) = 1 - y0 := IntWalk.i64_in _ (by omega)
    have hm := l1Most_any 0 (1 - y0)
    rw [hzz] at hm
    have HM := Lib.hid hm
    have HL4 := Lib.hid L4
    clear hyy0 o1 hm hzz L4 hb4 hO hb HC HF
    go_wp2_with fail
    refine (HM.out _).mono ?_
    rintro e w' ⟨rfl, hww⟩
    subst hww
    go_upto_region 6 with fail
    have L5 := HL4.out.own (below_new _) (own_made w' z _ w'.heap.size rfl (Nat.le_refl _) (by omega))
    rw [show List.replicate z 0 = stS fs 0 by rw [stS, HZ.out, Int.toNat_natCast]] at L5
    have HL5 := Lib.hid L5
    clear HL4 L5 hmk c0
    have hl0 : z = (stS fs 0).length := by rw [stS, HZ.out, Int.toNat_natCast, List.length_replicate]
    have HL0 := Lib.hid hl0
    clear hl0
    generalize w'.alloc (.cells (madeCells #[.int .i64 0] z) 3) = w6 at *
    go_wp2_with fail
    go_loopw [6, 7, 24] (fun o c i wr => ∃ k : Nat, k ≤ n ∧ i = .int .i64 k ∧ c = .int .i64 (opS fs k) ∧ (∃ go co, o = .slice (some ⟨go, 0, none⟩) (stS fs k).length co) ∧ Law w [tOwn o (stS fs k), tOwn (.slice (some ⟨gf, 0, none⟩) n po) fs] wr) (fun _ _ i _ => n - (intOf i).toNat)
    case atStart => exact ⟨0, Nat.zero_le _, rfl, rfl, ⟨_, _, by rw [← HL0.out]⟩, HL5.out⟩
    case round =>
      clear HL5 hy0 hw0
      obtain ⟨k, hk, rfl, rfl, ⟨go, co, rfl⟩, L⟩ := hrel
      obtain ⟨wo, rfl⟩ : ∃ wo : World, wo = wr := ⟨_, rfl⟩
      by_cases hlt : k < n
      · have o1 := L.tl.ownInts
        have ck := Own.cell (by rw [HN.out]; exact o1) k (by rw [HN.out]; omega)
        have hy := HY.out k
        have hob := opS_bd fs k
        have hst := HST.out k
        clear o1
        obtain ⟨y, hyy⟩ : ∃ y, y = fs.getD k 0 := ⟨_, rfl⟩
        rw [← hyy] at ck hy
        replace hyy := hyy.symm
        have hk0 : (0 : Int) ≤ k := by omega
        have hw1 : IntKind.i64.wrap (1 - (z : Int)) = 1 - (z : Int) := IntWalk.i64_in _ (by omega)
        have hno1 := fun h => outS_no1 (fs := fs) (o := opS fs k) (k := k) h
        have hno2 := fun h => outS_no2 (fs := fs) (o := opS fs k) (k := k) h
        have hyes := fun h1 h2 => outS_yes (fs := fs) (o := opS fs k) (k := k) h1 h2
        have hskip := fun h => stS_skip (fs := fs) (k := k) h
        have hput := fun h => stS_put (fs := fs) (k := k) h
        rw [HZ.out, hyy] at hyes hno2
        rw [HZ.out] at hno1
        rw [hyy] at hput
        generalize opS fs k = oc at *
        obtain ⟨ys, hys⟩ : ∃ ys, ys = stS fs k := ⟨_, rfl⟩
        rw [← hys] at L hskip hput hst ⊢
        clear hys
        have hw2 : IntKind.i64.wrap (1 - (z : Int) + oc) = 1 - (z : Int) + oc := IntWalk.i64_in _ (by omega)
        have hw3 : IntKind.i64.wrap (oc + 1) = oc + 1 := IntWalk.i64_in _ (by omega)
        obtain ⟨m, hm⟩ : ∃ m, m = ys.length := ⟨_, rfl⟩
        rw [← hm] at L hput hst ⊢
        have hw4 : IntKind.i64.wrap (y + m) = y + m := IntWalk.i64_in _ (by omega)
        by_cases hA : oc < z
        · by_cases hB : y = 1 - (z : Int) + oc
          · have hs := hskip (hyes hA hB)
            rw [← hs.1] at L
            have HS := Lib.hid L
            have HA := Lib.hid hs
            have hE : (y == 1 - (z : Int) + oc) = true := by rw [beq_iff_eq]; exact hB
            have HE := Lib.hid hm
            clear hno1 hno2 hyes hskip hput L hs hyy hB
            go_wp2_with fail
            go_roundw
            case rel => exact ⟨k + 1, by omega, by go_num, by rw [HA.out.2], ⟨go, co, by rw [HA.out.1, ← HE.out]⟩, HS.out⟩
            case measure => simp [intOf]; omega
          · have hs := hput (hno2 hB)
            have hE : (y == 1 - (z : Int) + oc) = false := by rw [beq_eq_false_iff_ne]; exact hB
            clear hB
            have L2 := L.kept (below_new (.cells #[.int .i64 (y + m)] 3))
            rw [hm] at L2
            have HL2 := Lib.hid L2
            have HX := Lib.hid (show (wo.alloc (.cells #[.int .i64 (y + m)] 3)).cell? ⟨wo.heap.size, 0, none⟩ = some (.int .i64 (y + m)) by rw [World.cell?_alloc_at _ _ _ _ rfl]; rfl)
            have HK := Lib.hid hm
            have HS := Lib.hid hs
            clear L L2 hm hs hno1 hno2 hyes hskip hput hyy
            go_wp2_with (at_builtin; refine wp_appendI rfl _ _ rfl (y + m) (by rw [← HK.out] at HL2; exact HL2.out) wo.heap.size rfl rfl HX.out (by rw [← HK.out]; omega) (stS fs (k + 1)) HS.out.1.symm ?_)
            intro g1 cap1 w3 L3
            have HL3 := Lib.hid L3
            clear L3 HL2 HX
            go_wp2_with fail
            go_roundw
            case rel => exact ⟨k + 1, by omega, by go_num, by rw [HS.out.2], ⟨_, _, rfl⟩, HL3.out⟩
            case measure => simp [intOf]; omega
        · have hs := hput (hno1 hA)
          have L2 := L.kept (below_new (.cells #[.int .i64 (y + m)] 3))
          rw [hm] at L2
          have HL2 := Lib.hid L2
          have HX := Lib.hid (show (wo.alloc (.cells #[.int .i64 (y + m)] 3)).cell? ⟨wo.heap.size, 0, none⟩ = some (.int .i64 (y + m)) by rw [World.cell?_alloc_at _ _ _ _ rfl]; rfl)
          have HK := Lib.hid hm
          have HS := Lib.hid hs
          clear L L2 hm hs hno1 hno2 hyes hskip hput hyy
          go_wp2_with (at_builtin; refine wp_appendI rfl _ _ rfl (y + m) (by rw [← HK.out] at HL2; exact HL2.out) wo.heap.size rfl rfl HX.out (by rw [← HK.out]; omega) (stS fs (k + 1)) HS.out.1.symm ?_)
          intro g1 cap1 w3 L3
          have HL3 := Lib.hid L3
          clear L3 HL2 HX
          go_wp2_with fail
          go_roundw
          case rel => exact ⟨k + 1, by omega, by go_num, by rw [HS.out.2], ⟨_, _, rfl⟩, HL3.out⟩
          case measure => simp [intOf]; omega
      · obtain rfl : k = n := by omega
        have HL := Lib.hid L
        clear L
        go_wp2_with fail
        go_ret2
        exact ⟨_, rfl, HL.out.ownLo, HL.out.below⟩

end Go.Proofs.Ythkghbnmdebhpaa
