/- areCycles and arePartition, in the program. No condition but the sizes. -/
import Derived.Test.YtddmommamcgelabZm
import Derived.Test.YtddmommamcgelabZt
import Derived.Test.YtddmommamcgelabM5
namespace Go.Proofs.Ytddmommamcgelab
open Go.RowKit Go.WideShapes

theorem catY_pre (zz : List (List Int)) (k : Nat) (hk : k ≤ zz.length) : catY (rowZ zz) k = preZ zz k := by
  induction k with
  | zero => simp [catY, preZ]
  | succ k ih => rw [catY, ih (by omega), preZ_succ zz k (by omega)]
theorem GF.total_pos {d : Bool} {zz : List (List Int)} (g : GF d zz) : 1 ≤ total zz := by
  have := sizes_pos g.ne
  have := g.pos
  omega
theorem GF.ord {d : Bool} {zz : List (List Int)} (g : GF d zz) : ordOk zz.flatten (total zz) = true := by
  unfold ordOk
  rw [Bool.and_eq_true, Bool.and_eq_true, decide_eq_true_eq, decide_eq_true_eq]
  refine ⟨by rw [flat_total], ?_, g.nd⟩
  rw [within, List.all_eq_true]
  intro x hx
  have := g.wi x hx
  simp only [decide_eq_true_eq]
  omega
theorem ord_facts {zz : List (List Int)} (h : ordOk zz.flatten (total zz) = true) : zz.flatten.Nodup ∧ ∀ x ∈ zz.flatten, 0 ≤ x ∧ x < (total zz : Int) := by
  unfold ordOk at h
  rw [Bool.and_eq_true, Bool.and_eq_true, decide_eq_true_eq, decide_eq_true_eq] at h
  refine ⟨h.2.2, fun x hx => ?_⟩
  have h2 := h.2.1
  rw [within, List.all_eq_true] at h2
  have := h2 x hx
  simp only [decide_eq_true_eq] at this
  omega

set_option maxRecDepth 100000 in
set_option maxHeartbeats 6400000 in
theorem areCycles_any (zz : List (List Int)) (w : World) (hl : zz.length + total zz ≤ 1048576) (lo : Nat) (s : Value) (vs : List Value) (hO : OwnM w lo s vs zz) :
    Calls Try.prog 84 #[s] w fun e w' => e = .returned (.bool (gB false zz)) ∧ Below w.heap.size w w' := by
  obtain ⟨a, cap, rfl, hr⟩ := hO.reads
  have HN := Lib.hid (countNum_any a cap zz w hl hr)
  have HT := Lib.hid (fun W => isThings_any (total zz : Nat) W)
  cases ht : inB 1 (total zz : Nat) 6
  · have HNO := Lib.hid (gB_no (d := false) (zz := zz) (fun g => by
      rw [inB_yes (by have := g.total_pos; omega) (by have := g.tot; omega)] at ht
      cases ht))
    rw [ht] at HT
    clear ht hr hO
    go_enter Try.func84, Try.ntmps84
    go_wp2_with fail
    refine HN.out.mono ?_
    rintro e w1 ⟨rfl, hb⟩
    have HB := Lib.hid hb
    clear hb
    go_wp2_with fail
    refine (HT.out _).mono ?_
    rintro e w2 ⟨rfl, hw⟩
    subst hw
    go_wp2_with fail
    go_ret
    exact ⟨ret_bool HNO.out.symm, HB.out⟩
  · obtain ⟨t1, t6⟩ := inB_iff.1 ht
    rw [ht] at HT
    have hlen := flat_total zz
    have hz1 : 1 ≤ zz.length := by
      by_cases h : zz.length = 0
      · have : zz = [] := List.length_eq_zero_iff.1 h
        subst this
        simp [total] at t1
      · omega
    obtain ⟨aa, cc, hs, hform⟩ := hO.form
    injection hs with hs1 hs2 hs3
    subst hs1
    obtain ⟨g0, hg0, hg1⟩ := hform 0 (by rw [← hO.len]; omega)
    subst hg0
    have hcf : catY (rowZ zz) zz.length = zz.flatten := by rw [catY_pre zz _ (Nat.le_refl _), preZ_full]
    have HCON := Lib.hid (fun W (h : OwnM W lo (.slice (some ⟨g0, 0, none⟩) zz.length cap) vs zz) => (by
      have hl2 := h.len
      have := concat_any g0 zz.length cap (fun k => vs.getD k (.int .i64 0)) (rowZ zz) W (by omega) (by
        rcases h.cases with ⟨e, _⟩ | ⟨g', cp, e, _, hg, _⟩
        · cases e
        · injection e with e _ _; injection e with e; injection e with e; omega) (by rw [hcf, hlen]; omega) (by rw [hcf, hlen]; omega)
        (fun k hk => by
          have := OwnM.cell (by rw [← hl2]; exact h) k (by omega)
          rw [this]
          simp [List.getD, show k < vs.length by omega])
        (fun k hk => by
          have := (h.row k (by omega)).src
          rw [rowZ_eq zz k hk]
          simpa [List.getD, show k < vs.length by omega] using this)
      rw [hcf] at this
      exact this : Calls Try.prog 127 #[.slice (some ⟨g0, 0, none⟩) zz.length cap] W fun e w' => ∃ v, e = .returned v ∧ Own w' W.heap.size v zz.flatten ∧ Below W.heap.size W w'))
    have HEA := Lib.hid (fun W v lo2 (h : Own W lo2 v zz.flatten) => hasEach_any zz.flatten (total zz) W (by rw [hlen]; omega) (by omega) lo2 v h)
    have HO := Lib.hid hO
    have HR := Lib.hid hr
    clear hg1 hr hO hform hs2 hs3 hcf ht
    cases ho : ordOk zz.flatten (total zz)
    · have HNO := Lib.hid (gB_no (d := false) (zz := zz) (fun g => by rw [g.ord] at ho; cases ho))
      rw [ho] at HEA
      clear ho
      go_enter Try.func84, Try.ntmps84
      go_wp2_with fail
      refine HN.out.mono ?_
      rintro e w1 ⟨rfl, hb⟩
      have HL := Lib.hid ((Law.start w).kept hb)
      have HO1 := Lib.hid (HO.out.kept hb)
      clear hb HO
      go_wp2_with fail
      refine (HT.out _).mono ?_
      rintro e w2 ⟨rfl, hw⟩
      subst w2
      go_wp2_with fail
      refine (HCON.out _ HO1.out).mono ?_
      rintro e w2 ⟨v, rfl, hF, hb⟩
      have HL2 := Lib.hid (HL.out.own hb hF)
      have HF := Lib.hid hF
      clear hb hF HL
      go_wp2_with fail
      refine (HEA.out _ _ _ HF.out).mono ?_
      rintro e w3 ⟨rfl, hb⟩
      have HB := Lib.hid (HL2.out.kept hb).below
      clear hb HL2
      go_wp2_with fail
      go_ret
      exact ⟨ret_bool HNO.out.symm, HB.out⟩
    · obtain ⟨hnd, hwi⟩ := ord_facts ho
      rw [ho] at HEA
      have HFA := Lib.hid (And.intro hnd hwi)
      have HT6 := Lib.hid (show total zz ≤ 6 by omega)
      have HZ1 := Lib.hid hz1
      clear ho hnd hwi t1 t6 hlen hz1
      go_enter Try.func84, Try.ntmps84
      go_wp2_with fail
      refine HN.out.mono ?_
      rintro e w1 ⟨rfl, hb⟩
      have HL := Lib.hid ((Law.start w).kept hb)
      have HO1 := Lib.hid (HO.out.kept hb)
      clear hb HO
      go_wp2_with fail
      refine (HT.out _).mono ?_
      rintro e w2 ⟨rfl, hw⟩
      subst w2
      go_wp2_with fail
      refine (HCON.out _ HO1.out).mono ?_
      rintro e w2 ⟨v, rfl, hF, hb⟩
      have HL2 := Lib.hid (HL.out.own hb hF)
      have HF := Lib.hid hF
      clear hb hF HL
      go_wp2_with fail
      refine (HEA.out _ _ _ HF.out).mono ?_
      rintro e w3 ⟨rfl, hb⟩
      have HB := Lib.hid ((HL2.out.kept hb).sub (List.nil_sublist _))
      clear hb HL2 HF HO1 HCON HEA
      go_wp2_with fail
      go_loopw [20] (fun i wr => ∃ k : Nat, k ≤ zz.length ∧ i = .int .i64 k ∧ Hid (∀ i, i < k → 1 ≤ (rowZ zz i).length ∧ ∀ j, j < (rowZ zz i).length → (rowZ zz i).getD 0 0 ≤ (rowZ zz i).getD j 0) ∧ Law w [] wr) (fun i _ => zz.length - (intOf i).toNat)
      case atStart => exact ⟨0, Nat.zero_le _, rfl, Lib.hid (fun i hi => by omega), HB.out⟩
      case round =>
        clear HB
        obtain ⟨k, hk, rfl, HU, L⟩ := hrel
        have HL := Lib.hid L
        by_cases hlt : k < zz.length
        · obtain ⟨b, off, aj, cj, ha, _, hck, hrk⟩ := (L.readsM HR.out).row k hlt
          rw [← rowZ_eq zz k hlt] at hck hrk
          injection ha with ha
          injection ha with ha1 ha2
          subst ha1
          subst ha2
          rw [Nat.zero_add] at hck
          have hlt' : (k : Int) < zz.length := by omega
          have hk0 : (0 : Int) ≤ k := by omega
          have hrl := total_row zz k hlt
          clear L
          by_cases h0 : (rowZ zz k).length = 0
          · have HNO := Lib.hid (gB_no (d := false) (zz := zz) (fun g => by have := g.ne k hlt; omega))
            rw [h0] at hck
            have hd0 : ((((0 : Nat) : Int)) == 0) = true := rfl
            clear hrk h0
            go_wp2_with fail
            go_quiet (fail)
            all_goals
              go_wp2_with fail
              go_ret
              exact ⟨ret_bool HNO.out.symm, (HL.out.kept (below_drewN (Below.refl _ _) _)).below⟩
          · obtain ⟨b2, o2, rfl, _, hc2⟩ := reads_row hrk (by omega)
            have hx := hc2 0 (by omega)
            rw [Nat.add_zero] at hx
            obtain ⟨q, hq⟩ : ∃ q, (rowZ zz k).length = q + 1 := ⟨(rowZ zz k).length - 1, by omega⟩
            have HMN := Lib.hid (fun m => min_any (some ⟨b2, o2, none⟩) cj q (rowZ zz k) (wr.drewN m) (by omega) hq (hrk.drewN m))
            have hle := minU_le (rowZ zz k) q
            have hfi := minU_first (rowZ zz k) q
            have hd0 : ((((rowZ zz k).length : Nat) : Int) == 0) = false := by rw [beq_eq_false_iff_ne]; omega
            have hpos : (0 : Int) < (rowZ zz k).length := by omega
            by_cases hmin : minU (rowZ zz k) q = (rowZ zz k).getD 0 0
            · have HNX := Lib.hid (show ∀ i, i < k + 1 → 1 ≤ (rowZ zz i).length ∧ ∀ j, j < (rowZ zz i).length → (rowZ zz i).getD 0 0 ≤ (rowZ zz i).getD j 0 from fun i hi => by
                by_cases e : i = k
                · subst e
                  exact ⟨by omega, fun j hj => by rw [← hmin]; exact hle j (by omega)⟩
                · exact HU.out i (by omega))
              have hd1 : (minU (rowZ zz k) q != (rowZ zz k).getD 0 0) = false := by simp [hmin]
              clear hle hfi hmin hc2 hrk h0 hq
              generalize minU (rowZ zz k) q = y at *
              generalize (rowZ zz k).getD 0 0 = x at *
              go_wp2_with fail
              go_quiet ((go_at_call 128; with_reducible exact Calls.quiet_of_same (HMN.out _)))
              go_wp2_with fail
              go_roundw
              case rel => exact ⟨k + 1, by omega, by go_num, HNX, HL.out.kept (below_drewN (Below.refl _ _) _)⟩
              case measure => simp [intOf]; omega
            · have HNO := Lib.hid (gB_no (d := false) (zz := zz) (fun g => hmin (hfi (fun j hj => g.hd k hlt j (by omega)))))
              have hd1 : (minU (rowZ zz k) q != (rowZ zz k).getD 0 0) = true := by rw [bne_iff_ne]; exact hmin
              clear hle hfi hmin hc2 hrk h0 hq
              generalize minU (rowZ zz k) q = y at *
              generalize (rowZ zz k).getD 0 0 = x at *
              go_wp2_with fail
              go_quiet ((go_at_call 128; with_reducible exact Calls.quiet_of_same (HMN.out _)))
              go_wp2_with fail
              go_ret
              exact ⟨ret_bool HNO.out.symm, (HL.out.kept (below_drewN (Below.refl _ _) _)).below⟩
        · obtain rfl : k = zz.length := by omega
          have hlt' : ¬ ((zz.length : Nat) : Int) < zz.length := by omega
          have HE := Lib.hid (show firstsB zz = gB false zz by
            have hne : ∀ i, i < zz.length → 1 ≤ (rowZ zz i).length := fun i hi => (HU.out i hi).1
            cases hf : firstsB zz
            · exact (gB_no (fun g => by rw [firstsB_iff.2 g.fi] at hf; cases hf)).symm
            · exact (gB_iff.2 ⟨hne, HT6.out, HZ1.out, HFA.out.1, HFA.out.2, fun i hi => (HU.out i hi).2, (fun h => by cases h), firstsB_iff.1 hf⟩).symm)
          have HF := Lib.hid (isSortedF_any (some ⟨g0, 0, none⟩) cap zz wr hl HZ1.out (fun i hi => (HU.out i hi).1) (L.readsM HR.out))
          clear L hlt
          go_wp2_with fail
          refine HF.out.mono ?_
          rintro e w4 ⟨rfl, hb⟩
          have HB := Lib.hid (HL.out.kept hb).below
          rw [HE.out]
          clear hb
          go_wp2_with fail
          go_ret
          exact ⟨rfl, HB.out⟩

theorem allSort_no {zz : List (List Int)} (i : Nat) (hi : i < zz.length) (h : sortB (rowZ zz i) = false) : gB true zz = false :=
  gB_no (fun g => by
    rw [sortB_iff.2 (fun k hk => g.so rfl i hi k (by omega))] at h
    cases h)
theorem allSort_yes {zz : List (List Int)} (h : ∀ i, i < zz.length → sortB (rowZ zz i) = true) : gB true zz = gB false zz := by
  cases hf : gB false zz
  · refine gB_no (fun g => ?_)
    rw [gB_iff.2 ⟨g.ne, g.tot, g.pos, g.nd, g.wi, g.hd, (fun h => by cases h), g.fi⟩] at hf
    cases hf
  · have g := gB_iff.1 hf
    exact gB_iff.2 ⟨g.ne, g.tot, g.pos, g.nd, g.wi, g.hd, fun _ i hi k hk => sortB_iff.1 (h i hi) k (by omega), g.fi⟩

set_option maxRecDepth 100000 in
set_option maxHeartbeats 1600000 in
theorem isSorted0_any (a : Option Addr) (p : Nat) (w : World) :
    Calls Try.prog 121 #[.slice a 0 p] w fun e w' => e = .returned (.bool true) ∧ Below w.heap.size w w' := by
  go_enter Try.func121, Try.ntmps121
  go_wp2_with fail
  go_loopw [3] (fun i wr => i = .int .i64 (-1) ∧ w = wr) (fun _ _ => 0)
  case atStart => exact ⟨rfl, rfl⟩
  case round =>
    obtain ⟨rfl, rfl⟩ := hrel
    go_wp2_with fail
    go_ret
    exact ⟨rfl, Below.refl _ _⟩
theorem isSortedR_any (a : Option Addr) (p : Nat) (xs : List Int) (w : World) (hx : xs.length ≤ 1048576) (hr : Reads w a xs.length xs) :
    Calls Try.prog 121 #[.slice a xs.length p] w fun e w' => e = .returned (.bool (sortB xs)) ∧ Below w.heap.size w w' := by
  by_cases h : 1 ≤ xs.length
  · exact isSorted_any a p xs w hx h hr
  · have e : xs = [] := List.length_eq_zero_iff.1 (by omega)
    subst e
    exact isSorted0_any a p w
set_option maxRecDepth 100000 in
set_option maxHeartbeats 3200000 in
theorem arePartition_any (zz : List (List Int)) (w : World) (hl : zz.length + total zz ≤ 1048576) (lo : Nat) (s : Value) (vs : List Value) (hO : OwnM w lo s vs zz) :
    Calls Try.prog 77 #[s] w fun e w' => e = .returned (.bool (gB true zz)) ∧ Below w.heap.size w w' := by
  obtain ⟨a, cap, rfl, hr⟩ := hO.reads
  have HR := Lib.hid hr
  have HC := Lib.hid (fun W (h : OwnM W lo (.slice a zz.length cap) vs zz) => areCycles_any zz W hl lo _ vs h)
  have HO := Lib.hid hO
  have HL0 := Lib.hid (Law.start w)
  clear hr hO
  go_enter Try.func77, Try.ntmps77
  go_wp2_with fail
  go_loopw [7] (fun i wr => ∃ k : Nat, k ≤ zz.length ∧ i = .int .i64 k ∧ Hid (∀ i, i < k → sortB (rowZ zz i) = true) ∧ Law w [] wr) (fun i _ => zz.length - (intOf i).toNat)
  case atStart => exact ⟨0, Nat.zero_le _, rfl, Lib.hid (fun i hi => by omega), HL0.out⟩
  case round =>
    clear HL0
    obtain ⟨k, hk, rfl, HU, L⟩ := hrel
    have HL := Lib.hid L
    by_cases hlt : k < zz.length
    · obtain ⟨b, off, aj, cj, rfl, _, hck, hrk⟩ := (L.readsM HR.out).row k hlt
      rw [← rowZ_eq zz k hlt] at hck hrk
      have hlt' : (k : Int) < zz.length := by omega
      have hk0 : (0 : Int) ≤ k := by omega
      have hrl := total_row zz k hlt
      have HS := Lib.hid (isSortedR_any aj cj (rowZ zz k) wr (by omega) hrk)
      clear L hrk
      cases hs : sortB (rowZ zz k)
      · have HNO := Lib.hid (allSort_no k hlt hs)
        rw [hs] at HS
        clear hs
        go_wp2_with fail
        refine HS.out.mono ?_
        rintro e w2 ⟨rfl, hb⟩
        have HB := Lib.hid (HL.out.kept hb).below
        clear hb
        go_wp2_with fail
        go_ret
        exact ⟨ret_bool HNO.out.symm, HB.out⟩
      · have HNX := Lib.hid (show ∀ i, i < k + 1 → sortB (rowZ zz i) = true from fun i hi => by
          by_cases e : i = k
          · subst e; exact hs
          · exact HU.out i (by omega))
        rw [hs] at HS
        clear hs
        go_wp2_with fail
        refine HS.out.mono ?_
        rintro e w2 ⟨rfl, hb⟩
        have HL2 := Lib.hid (HL.out.kept hb)
        clear hb HL
        go_wp2_with fail
        go_roundw
        case rel => exact ⟨k + 1, by omega, by go_num, HNX, HL2.out⟩
        case measure => simp [intOf]; omega
    · obtain rfl : k = zz.length := by omega
      have hlt' : ¬ ((zz.length : Nat) : Int) < zz.length := by omega
      have HE := Lib.hid (allSort_yes HU.out)
      have HO1 := Lib.hid (HO.out.kept L.below)
      clear L hlt
      go_wp2_with fail
      refine (HC.out _ HO1.out).mono ?_
      rintro e w2 ⟨rfl, hb⟩
      have HB := Lib.hid (HL.out.kept hb).below
      clear hb
      go_wp2_with fail
      go_ret
      exact ⟨ret_bool HE.out.symm, HB.out⟩
end Go.Proofs.Ytddmommamcgelab
