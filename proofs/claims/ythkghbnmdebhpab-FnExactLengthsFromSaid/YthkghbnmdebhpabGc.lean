/- Classes of lengths, in the specification. No condition but the sizes. -/
import Derived.Test.YthkghbnmdebhpabGb
import Derived.Test.YthkghbnmdebhpabMf
namespace Go.Proofs.Ythkghbnmdebhpab
open Go.RowKit Go.WideShapes

/-- What ClassOf answers. -/
def clsR (xs : List Int) : MR := if lenB xs then ⟨clsL xs.length (facs xs), true⟩ else ⟨[], false⟩
/-- What CountClass answers. -/
def cclR (xs : List Int) : R1 := if lenB xs then ⟨(clsL xs.length (facs xs)).length, true⟩ else ⟨0, false⟩
/-- What LengthsFrom answers. -/
def lfrR (fs : List Int) : LR := if inB 1 fs.length 6 && (decide (sortL fs = fs) && !(clsL fs.length fs).isEmpty) then ⟨(clsL fs.length fs).getD 0 [], true⟩ else ⟨[], false⟩

set_option maxRecDepth 100000 in
theorem specCls_any (xs : List Int) (w : World) (hx : xs.length ≤ 1048576) (lo : Nat) (s : Value) (hO : Own w lo s xs) :
    Calls Try.prog 24 #[s] w fun e w' => AnsM (clsR xs) w e w' := by
  obtain ⟨a, p, rfl, hr⟩ := hO.reads
  clear hO
  cases hg : lenB xs
  · rw [show clsR xs = ⟨[], false⟩ by simp [clsR, hg]]
    have HC := Lib.hid (at_boolB (feGood_any a p xs w hx hr) hg)
    clear hg
    go_enter Try.func24, Try.ntmps24
    go_wp2_with fail
    refine HC.out.mono ?_
    rintro e w2 ⟨rfl, hb⟩
    go_wp2_with fail
    go_ret2
    exact ⟨_, [], rfl, OwnM.nil _ _, hb⟩
  · rw [show clsR xs = ⟨clsL xs.length (facs xs), true⟩ by simp [clsR, hg]]
    have HC := Lib.hid (at_boolB (feGood_any a p xs w hx hr) hg)
    have hl6 := (len_facts hg).2.1
    have hfl : (facs xs).length ≤ 6 := by rw [facs_len]; exact hl6
    have HF := Lib.hid (fun (W : World) (h : Reads W a xs.length xs) => feFactors_any a p xs W (by omega) (len_bd hg) h)
    rw [show clsL xs.length (facs xs) = clsL (facs xs).length (facs xs) by rw [facs_len]]
    generalize facs xs = fs at *
    have HK := Lib.hid (fun a2 p2 W (h : Reads W a2 fs.length fs) => feClass_any a2 p2 fs W hfl h)
    clear hg hl6
    go_enter Try.func24, Try.ntmps24
    go_wp2_with fail
    refine HC.out.mono ?_
    rintro e w2 ⟨rfl, hb⟩
    have L1 := (Law.start w).kept hb
    clear hb HC
    go_wp2_with fail
    refine (HF.out _ (L1.reads hr)).mono ?_
    rintro e w3 ⟨v, rfl, hO, hb3⟩
    obtain ⟨fa, fp, rfl, _⟩ := hO.reads
    have L2 := L1.own hb3 hO
    clear L1 hO hb3 HF
    go_wp2_with fail
    refine (HK.out _ _ _ (own_rd L2.ownInts)).mono ?_
    rintro e w4 ⟨v4, vs, rfl, hM, _, hb4⟩
    have HL := Lib.hid (L2.addM hb4 hM)
    clear L2 hM hb4 HK
    go_wp2_with fail
    go_ret2
    exact ⟨_, vs, rfl, HL.out.ownMLo, HL.out.below⟩

set_option maxRecDepth 100000 in
theorem specCcl_any (xs : List Int) (w : World) (hx : xs.length ≤ 1048576) (lo : Nat) (s : Value) (hO : Own w lo s xs) :
    Calls Try.prog 29 #[s] w fun e w' => AnsIO (cclR xs) w e w' := by
  obtain ⟨a, p, rfl, hr⟩ := hO.reads
  clear hO
  cases hg : lenB xs
  · rw [show cclR xs = ⟨0, false⟩ by simp [cclR, hg]]
    have HC := Lib.hid (at_boolB (feGood_any a p xs w hx hr) hg)
    clear hg
    go_enter Try.func29, Try.ntmps29
    go_wp2_with fail
    refine HC.out.mono ?_
    rintro e w2 ⟨rfl, hb⟩
    go_wp2_with fail
    go_ret2
    exact ⟨rfl, hb⟩
  · rw [show cclR xs = ⟨(clsL xs.length (facs xs)).length, true⟩ by simp [cclR, hg]]
    have HC := Lib.hid (at_boolB (feGood_any a p xs w hx hr) hg)
    have hl6 := (len_facts hg).2.1
    have hfl : (facs xs).length ≤ 6 := by rw [facs_len]; exact hl6
    have HF := Lib.hid (fun (W : World) (h : Reads W a xs.length xs) => feFactors_any a p xs W (by omega) (len_bd hg) h)
    rw [show clsL xs.length (facs xs) = clsL (facs xs).length (facs xs) by rw [facs_len]]
    generalize facs xs = fs at *
    have HK := Lib.hid (fun a2 p2 W (h : Reads W a2 fs.length fs) => feClass_any a2 p2 fs W hfl h)
    generalize clsL fs.length fs = LL at *
    clear hg hl6
    go_enter Try.func29, Try.ntmps29
    go_wp2_with fail
    refine HC.out.mono ?_
    rintro e w2 ⟨rfl, hb⟩
    have L1 := (Law.start w).kept hb
    clear hb HC
    go_wp2_with fail
    refine (HF.out _ (L1.reads hr)).mono ?_
    rintro e w3 ⟨v, rfl, hO, hb3⟩
    obtain ⟨fa, fp, rfl, _⟩ := hO.reads
    have L2 := L1.own hb3 hO
    clear L1 hO hb3 HF
    go_wp2_with fail
    refine (HK.out _ _ _ (own_rd L2.ownInts)).mono ?_
    rintro e w4 ⟨v4, vs, rfl, hM, _, hb4⟩
    obtain ⟨va, vp, rfl⟩ := hM.formR
    have HL := Lib.hid (L2.addM hb4 hM)
    clear L2 hM hb4 HK
    go_wp2_with fail
    go_ret2
    exact ⟨rfl, HL.out.below⟩

set_option maxRecDepth 100000 in
set_option maxHeartbeats 800000 in
theorem specLfr_any (fs : List Int) (w : World) (hx : fs.length ≤ 1048576) (lo : Nat) (s : Value) (hO : Own w lo s fs) :
    Calls Try.prog 31 #[s] w fun e w' => AnsL (lfrR fs) w e w' := by
  obtain ⟨a, p, rfl, hr⟩ := hO.reads
  clear hO
  cases hg : inB 1 fs.length 6
  · rw [show lfrR fs = ⟨[], false⟩ by simp [lfrR, hg]]
    have HC := Lib.hid (at_bool (boSide_any fs.length) hg)
    clear hg
    go_enter Try.func31, Try.ntmps31
    go_wp2_with fail
    refine (HC.out _).mono ?_
    rintro e w2 ⟨rfl, hww⟩
    subst w2
    go_wp2_with fail
    go_ret2
    exact ⟨_, rfl, Own.nil _ _, Below.refl _ _⟩
  · have HC := Lib.hid (at_bool (boSide_any fs.length) hg)
    have h6 := (inB_iff.1 hg).2
    have hl6 : fs.length ≤ 6 := by omega
    have HS := Lib.hid (fun (W : World) (h : Reads W a fs.length fs) => feSorted_any a p fs W (by omega) h)
    have hsl : (sortL fs).length ≤ 1048576 := by rw [sortL_len]; exact hx
    have hlr : lfrR fs = if sortL fs = fs then (if clsL fs.length fs = [] then ⟨[], false⟩ else ⟨(clsL fs.length fs).getD 0 [], true⟩) else ⟨[], false⟩ := by
      unfold lfrR
      rw [hg, Bool.true_and]
      by_cases h1 : sortL fs = fs
      · rw [if_pos h1, decide_eq_true h1, Bool.true_and]
        by_cases h2 : clsL fs.length fs = []
        · rw [if_pos h2, h2]; rfl
        · rw [if_neg h2, if_pos (by simpa using h2)]
      · rw [if_neg h1, decide_eq_false h1, Bool.false_and]; rfl
    rw [hlr]
    have HK := Lib.hid (fun W (h : Reads W a fs.length fs) => feClass_any a p fs W hl6 h)
    generalize sortL fs = ss at *
    generalize clsL fs.length fs = LL at *
    clear hg hlr h6
    by_cases he : ss = fs
    · rw [if_pos he]
      obtain ⟨R, hR⟩ : ∃ R : LR, R = if LL = [] then ⟨[], false⟩ else ⟨LL.getD 0 [], true⟩ := ⟨_, rfl⟩
      rw [← hR]
      have HR := Lib.hid hR
      have HE := Lib.hid he
      have HSL := Lib.hid hsl
      clear hR he hsl
      go_enter Try.func31, Try.ntmps31
      go_wp2_with fail
      refine (HC.out _).mono ?_
      rintro e w2 ⟨rfl, hww⟩
      subst w2
      go_wp2_with fail
      refine (HS.out _ hr).mono ?_
      rintro e w3 ⟨v, rfl, hO, hb3⟩
      obtain ⟨sa, sp, rfl, hsr⟩ := hO.reads
      have hc := l1Same_any sa a ss.length fs.length sp p ss fs w3 HSL.out rfl rfl hsr (hr.kept hb3)
      rw [decide_eq_true HE.out] at hc
      have HC2 := Lib.hid hc
      have HL := Lib.hid ((Law.start w).kept hb3)
      clear hc hO hsr hb3 HS
      go_wp2_with fail
      refine HC2.out.mono ?_
      rintro e w4 ⟨rfl, hd⟩
      have L4 := HL.out.kept hd.below
      clear hd HC2 HL
      have hr4 := L4.reads hr
      have HL := Lib.hid L4
      clear L4
      go_wp2_with fail
      refine (HK.out _ hr4).mono ?_
      rintro e w5 ⟨v5, vs, rfl, hM, hnil, hb5⟩
      have L5 := HL.out.addM hb5 hM
      have hvl := hM.len
      clear HL hr4 hb5 HK
      rcases hM.cases with ⟨rfl, rfl⟩ | ⟨g, cp, rfl, _⟩
      · have hz : LL = [] := by simpa using hvl
        have HB := Lib.hid L5.below
        have HRR := Lib.hid (show R = ⟨[], false⟩ by rw [HR.out, if_pos hz])
        clear L5 hM hnil hvl hz
        go_wp2_with fail
        go_ret2
        rw [HRR.out]
        exact ⟨_, rfl, Own.nil _ _, HB.out⟩
      · by_cases hvz : vs = []
        · have := hnil hvz
          cases this
        · have hpos : 0 < vs.length := List.length_pos_iff.2 hvz
          have hcell := hM.cell 0 hpos
          have hrow := L5.ownMLo.row 0 hpos
          obtain ⟨qa, qp, hqv, hqr⟩ := hrow.reads
          have hlz : LL ≠ [] := fun h => by rw [h] at hvl; simp at hvl; omega
          have hidx : 0 < LL.length := by omega
          have hg0 : LL.getD 0 [] = LL[0] := by simp [List.getD, hidx]
          obtain ⟨QQ, hQQ⟩ : ∃ QQ, QQ = LL[0] := ⟨_, rfl⟩
          rw [hqv] at hcell hrow
          rw [← hQQ] at hcell hrow hg0
          have HRR := Lib.hid (show R = ⟨QQ, true⟩ by rw [HR.out, if_neg hlz, hg0])
          have HRW := Lib.hid hrow
          have HB := Lib.hid L5.below
          have hne : ¬ (vs.length : Int) = 0 := by omega
          have hp0 : (0 : Int) < vs.length := by omega
          clear hqr hQQ
          clear L5 hM hnil hvl hrow hqv hg0 hlz hidx
          go_wp2_with fail
          go_ret2
          rw [HRR.out]
          exact ⟨_, rfl, HRW.out, HB.out⟩
    · rw [if_neg he]
      have HE := Lib.hid he
      have HSL := Lib.hid hsl
      clear he hsl HK
      go_enter Try.func31, Try.ntmps31
      go_wp2_with fail
      refine (HC.out _).mono ?_
      rintro e w2 ⟨rfl, hww⟩
      subst w2
      go_wp2_with fail
      refine (HS.out _ hr).mono ?_
      rintro e w3 ⟨v, rfl, hO, hb3⟩
      obtain ⟨sa, sp, rfl, hsr⟩ := hO.reads
      have hc := l1Same_any sa a ss.length fs.length sp p ss fs w3 HSL.out rfl rfl hsr (hr.kept hb3)
      rw [decide_eq_false HE.out] at hc
      have HC2 := Lib.hid hc
      have HL := Lib.hid ((Law.start w).kept hb3)
      clear hc hO hsr hb3 HS
      go_wp2_with fail
      refine HC2.out.mono ?_
      rintro e w4 ⟨rfl, hd⟩
      have HB := Lib.hid (HL.out.kept hd.below).below
      clear hd HC2 HL
      go_wp2_with fail
      go_ret2
      exact ⟨_, rfl, Own.nil _ _, HB.out⟩

end Go.Proofs.Ythkghbnmdebhpab
