/- Free cells, in the specification. No condition but the sizes. -/
import Derived.Test.YtdgkcfpfldaopaaKr
namespace Go.Proofs.Ytdgkcfpfldaopaa
open Go.RowKit Go.WideShapes

theorem cnt_step (t c lim : Nat) (h : c < lim) : cntF t (min (c + 1) lim) = cntF t (min c lim) + if t.testBit c then 0 else 1 := by
  rw [show min (c + 1) lim = c + 1 by omega, show min c lim = c by omega, cntF]
theorem cnt_stay (t c lim : Nat) (h : lim ≤ c) : cntF t (min (c + 1) lim) = cntF t (min c lim) := by
  rw [show min (c + 1) lim = lim by omega, show min c lim = lim by omega]

set_option maxRecDepth 100000 in
set_option maxHeartbeats 6400000 in
theorem weFree_any (n : Nat) (xs P : List Int) (a a2 : Option Addr) (p p2 : Nat) (w : World) (hn : xs.length = n) (hn6 : n ≤ 6) (hPl : P.length = n) (hp2 : n ≤ p2) (hx : ∀ k, 0 ≤ xs.getD k 0 ∧ xs.getD k 0 ≤ 6) (hr : Reads w a xs.length xs) (hr2 : Reads w a2 P.length P)
    (hP : ∀ i, i < n → P.getD i 0 = -1 ∨ (0 ≤ P.getD i 0 ∧ P.getD i 0 < xs.getD i 0)) (ht : ∀ i, i ≤ n → ∀ c, c < 6 → (tkn P i).testBit c = hasI (P.take i) (c : Int)) :
    Calls Try.prog 67 #[.slice a n p, .slice a2 n p2] w fun e w' => e = .returned (.int .i64 (frN xs P n : Nat)) ∧ w = w' := by
  have hlim : ∀ i, i < n → limP xs P i ≤ 6 := fun i hi => by
    unfold limP lenN
    have := hx i
    rcases hP i hi with h | h
    · rw [if_pos h]; omega
    · rw [if_neg (by omega)]; omega
  have hfr : ∀ i, i ≤ n → frN xs P i ≤ 6 * i := fun i hi => by
    induction i with
    | zero => simp [frN]
    | succ i ih =>
      have := ih (by omega)
      have := cntF_le (tkn P i) (limP xs P i)
      have := hlim i (by omega)
      rw [frN]
      omega
  have hl1 : ∀ i, i ≤ n → ∀ (c : Nat) W (h : Reads W a2 P.length P), Calls Try.prog 105 #[.slice a2 i p2, .int .i64 c] W fun e w' => e = .returned (.bool (hasI (P.take i) c)) ∧ W = w' := fun i hi c W h =>
    l1Has_any a2 i p2 (P.take i) c W (by rw [List.length_take]; omega) (by rw [List.length_take]; omega) (Reads.take h i (by omega))
  have HFR := Lib.hid hfr
  have HX := Lib.hid hx
  have HP := Lib.hid hP
  have HT := Lib.hid ht
  have HR := Lib.hid hr
  have HR2 := Lib.hid hr2
  have HL1 := Lib.hid hl1
  have HN := Lib.hid hn
  have HPL := Lib.hid hPl
  clear hx hP ht hlim hfr hr hr2 hl1 hn hPl
  go_enter Try.func67, Try.ntmps67
  go_wp2_with fail
  go_loopw [5, 11] (fun f i wr => ∃ k : Nat, k ≤ n ∧ i = .int .i64 k ∧ f = .int .i64 (frN xs P k : Nat) ∧ w = wr) (fun _ i _ => n - (intOf i).toNat)
  case atStart => exact ⟨0, Nat.zero_le _, rfl, rfl, rfl⟩
  case round =>
    obtain ⟨k, hk, rfl, rfl, hww⟩ := hrel
    subst hww
    by_cases hlt : k < n
    · obtain ⟨b, off, ha, hb0, hcc⟩ := reads_row HR.out (by have := HN.out; omega)
      subst ha
      have hcx := hcc k (by have := HN.out; omega)
      obtain ⟨b2, off2, ha2, hb2, hcc2⟩ := reads_row HR2.out (by have := HPL.out; omega)
      subst ha2
      have hcp := hcc2 k (by have := HPL.out; omega)
      have hy := HX.out k
      have HTT := Lib.hid (HT.out k hk)
      have hp := HP.out k hlt
      have hf0 := HFR.out k hk
      have hf1 := HFR.out (k + 1) hlt
      obtain ⟨m, hm⟩ := Int.eq_ofNat_of_zero_le hy.1
      have hlen : lenN xs k = m := by unfold lenN; rw [hm]; simp
      have hlimd : limP xs P k = if P.getD k 0 = -1 then lenN xs k else (P.getD k 0).toNat := rfl
      have hfs : frN xs P (k + 1) = frN xs P k + cntF (tkn P k) (limP xs P k) := rfl
      have HLL := Lib.hid (fun (c : Nat) => HL1.out k hk c w HR2.out)
      rw [hlen] at hlimd
      rw [hm] at hcx hy hp
      have hk0 : (0 : Int) ≤ k := by omega
      have hkn : (k : Int) ≤ p2 := by omega
      have hkn2 : (k : Int) < n := by omega
      clear hcc hcc2
      generalize hx0 : P.getD k 0 = x at *
      generalize tkn P k = t at *
      rcases hp with hx1 | ⟨hx1, hx2⟩
      · subst hx1
        rw [if_pos rfl] at hlimd
        rw [hlimd, show cntF t m = cntF t (min m m) by rw [Nat.min_self]] at hfs
        have HFS := Lib.hid hfs
        clear hfs hlimd hx0 hlen
        generalize frN xs P k = f at *
        go_wp2_with fail
        go_loopw [5, 8] (fun ff cc wr => ∃ c : Nat, c ≤ m ∧ cc = .int .i64 c ∧ ff = .int .i64 ((f + cntF t (min c m) : Nat) : Int) ∧ w = wr) (fun _ cc _ => m - (intOf cc).toNat)
        case atStart => exact ⟨0, Nat.zero_le _, rfl, by simp [cntF], rfl⟩
        case round =>
          obtain ⟨c, hc, rfl, rfl, hww⟩ := hrel
          subst hww
          by_cases hlc : c < m
          · have HC := Lib.hid (HLL.out c)
            rw [← HTT.out c (by omega)] at HC
            have hst := cnt_step t c m hlc
            have hcl := cntF_le t (min c m)
            cases hb : t.testBit c
            · rw [hb] at hst HC
              have HST := Lib.hid hst
              have hw : wrap64 (((f + cntF t (min c m) : Nat) : Int) + 1) = ((f + cntF t (min (c + 1) m) : Nat) : Int) := by rw [hst, show ((f + (cntF t (min c m) + if false = true then 0 else 1) : Nat) : Int) = ((f + cntF t (min c m) : Nat) : Int) + 1 by simp; omega]; exact IntWalk.wrap64_in _ (by omega)
              have HW := Lib.hid hw
              clear hst hb hw
              generalize hF : f + cntF t (min c m) = F at *
              clear hF
              go_wp2_with fail
              refine HC.out.mono ?_
              rintro e w' ⟨rfl, hww⟩
              subst hww
              go_wp2_with fail
              go_roundw
              case rel => exact ⟨c + 1, by omega, by go_num, by rw [HW.out], trivial⟩
              case measure => simp [intOf]; omega
            · rw [hb] at hst HC
              have HST := Lib.hid (show f + cntF t (min (c + 1) m) = f + cntF t (min c m) by rw [hst, if_pos rfl, Nat.add_zero])
              clear hst hb
              generalize hF : f + cntF t (min c m) = F at *
              clear hF
              go_wp2_with fail
              refine HC.out.mono ?_
              rintro e w' ⟨rfl, hww⟩
              subst hww
              go_wp2_with fail
              go_roundw
              case rel => exact ⟨c + 1, by omega, by go_num, by rw [HST.out], trivial⟩
              case measure => simp [intOf]; omega
          · obtain rfl : c = m := by omega
            go_wp2_with fail
            go_roundw
            case rel => exact ⟨k + 1, by omega, by go_num, by rw [HFS.out], trivial⟩
            case measure => simp [intOf]; omega
      · obtain ⟨d, rfl⟩ := Int.eq_ofNat_of_zero_le hx1
        have hdm : d < m := by omega
        rw [if_neg (by omega), Int.toNat_natCast] at hlimd
        rw [hlimd, show cntF t d = cntF t (min m d) by rw [show min m d = d by omega]] at hfs
        have HFS := Lib.hid hfs
        have hne : ((d : Int) != -1) = true := by simp
        clear hfs hlimd hx0 hlen
        generalize frN xs P k = f at *
        go_wp2_with fail
        go_loopw [5, 8] (fun ff cc wr => ∃ c : Nat, c ≤ m ∧ cc = .int .i64 c ∧ ff = .int .i64 ((f + cntF t (min c d) : Nat) : Int) ∧ w = wr) (fun _ cc _ => m - (intOf cc).toNat)
        case atStart => exact ⟨0, Nat.zero_le _, rfl, by simp [cntF], rfl⟩
        case round =>
          obtain ⟨c, hc, rfl, rfl, hww⟩ := hrel
          subst hww
          by_cases hlc : c < m
          · by_cases hcd : c < d
            · have HC := Lib.hid (HLL.out c)
              rw [← HTT.out c (by omega)] at HC
              have hst := cnt_step t c d hcd
              have hcl := cntF_le t (min c d)
              have hdc : ¬ (d : Int) ≤ c := by omega
              cases hb : t.testBit c
              · rw [hb] at hst HC
                have hw : wrap64 (((f + cntF t (min c d) : Nat) : Int) + 1) = ((f + cntF t (min (c + 1) d) : Nat) : Int) := by rw [hst, show ((f + (cntF t (min c d) + if false = true then 0 else 1) : Nat) : Int) = ((f + cntF t (min c d) : Nat) : Int) + 1 by simp; omega]; exact IntWalk.wrap64_in _ (by omega)
                have HW := Lib.hid hw
                clear hst hb hw
                generalize hF : f + cntF t (min c d) = F at *
                clear hF
                go_wp2_with fail
                refine HC.out.mono ?_
                rintro e w' ⟨rfl, hww⟩
                subst hww
                go_wp2_with fail
                go_roundw
                case rel => exact ⟨c + 1, by omega, by go_num, by rw [HW.out], trivial⟩
                case measure => simp [intOf]; omega
              · rw [hb] at hst HC
                have HST := Lib.hid (show f + cntF t (min (c + 1) d) = f + cntF t (min c d) by rw [hst, if_pos rfl, Nat.add_zero])
                clear hst hb
                generalize hF : f + cntF t (min c d) = F at *
                clear hF
                go_wp2_with fail
                refine HC.out.mono ?_
                rintro e w' ⟨rfl, hww⟩
                subst hww
                go_wp2_with fail
                go_roundw
                case rel => exact ⟨c + 1, by omega, by go_num, by rw [HST.out], trivial⟩
                case measure => simp [intOf]; omega
            · have HST := Lib.hid (show f + cntF t (min (c + 1) d) = f + cntF t (min c d) by rw [cnt_stay t c d (by omega)])
              have hdc : (d : Int) ≤ c := by omega
              generalize hF : f + cntF t (min c d) = F at *
              clear hF
              go_wp2_with fail
              go_roundw
              case rel => exact ⟨c + 1, by omega, by go_num, by rw [HST.out], trivial⟩
              case measure => simp [intOf]; omega
          · obtain rfl : c = m := by omega
            go_wp2_with fail
            go_roundw
            case rel => exact ⟨k + 1, by omega, by go_num, by rw [HFS.out], trivial⟩
            case measure => simp [intOf]; omega
    · obtain rfl : k = n := by omega
      go_wp2_with fail
      go_ret
      exact ⟨rfl, rfl⟩

set_option maxRecDepth 100000 in
set_option maxHeartbeats 3200000 in
theorem specFree_any (xs P : List Int) (w : World) (hx : xs.length ≤ 1048576) (hp : P.length ≤ 1048576) (lo : Nat) (s : Value) (lo2 : Nat) (s2 : Value) (hO : Own w lo s xs) (hO2 : Own w lo2 s2 P) :
    Calls Try.prog 27 #[s, s2] w (AnsIO (freeR xs P) w) := by
  obtain ⟨a, p, rfl, hr⟩ := hO.reads
  obtain ⟨a2, p2, rfl, hr2⟩ := hO2.reads
  have hcap := own_cap hO2
  clear hO hO2
  have HG := Lib.hid (feGood_any a p xs w hx hr)
  cases hg : lenB xs
  · rw [show freeR xs P = ⟨0, false⟩ by simp [freeR, hg]]
    rw [hg] at HG
    clear hg hr hr2
    go_enter Try.func27, Try.ntmps27
    go_wp2_with fail
    refine HG.out.mono ?_
    rintro e w2 ⟨rfl, hb⟩
    have HB := Lib.hid hb
    clear hb
    go_wp2_with fail
    go_ret2
    exact ⟨rfl, HB.out⟩
  · obtain ⟨l1, l2, l3, _⟩ := len_facts hg
    rw [hg] at HG
    have HF := Lib.hid (fun (W : World) (h : Reads W a xs.length xs) => feBoard_any a p xs W h l1 l2 l3)
    have HP := Lib.hid (fun W s (hO : Own W w.heap.size s (mskL xs)) (h : Reads W a2 P.length P) => roGood_any xs.length xs.length (mskL xs) P a2 p2 W (by rw [List.length_map]; omega) hp hcap (mskL_good xs hg) w.heap.size s hO h)
    have HR := Lib.hid hr
    have HR2 := Lib.hid hr2
    obtain ⟨n, hn⟩ : ∃ n, n = xs.length := ⟨_, rfl⟩
    have hpf := fun h => place_facts xs P n hn hg h
    have hR : freeR xs P = if placeP n n (mskL xs) P then ⟨(frN xs P n : Nat), true⟩ else ⟨0, false⟩ := by rw [hn]; simp [freeR, hg]
    rw [← hn] at HF HP HG HR ⊢
    cases hpl : placeP n n (mskL xs) P
    · rw [hR, hpl]
      simp only [Bool.false_eq_true, if_false]
      rw [hpl] at HP
      clear hpl hR hpf hn hg hr hr2 l1 l2 l3 hx hp hcap
      go_enter Try.func27, Try.ntmps27
      go_wp2_with fail
      refine HG.out.mono ?_
      rintro e w2 ⟨rfl, hb⟩
      have HB := Lib.hid hb
      clear hb
      go_wp2_with fail
      refine (HF.out _ (HR.out.kept HB.out)).mono ?_
      rintro e w4 ⟨s4, rfl, hO, hb⟩
      have HB4 := Lib.hid (below_on HB.out hb)
      have HO4 := Lib.hid (hO.lower HB.out.size)
      obtain ⟨a4, c4, hv4, _⟩ := hO.reads
      rw [List.length_map] at hv4
      subst hv4
      clear hO hb
      go_wp2_with fail
      refine (HP.out _ _ HO4.out (HR2.out.kept HB4.out)).mono ?_
      rintro e w6 ⟨rfl, hb⟩
      have HB6 := Lib.hid (below_on HB4.out hb)
      clear hb
      go_wp2_with fail
      go_ret2
      exact ⟨rfl, HB6.out⟩
    · rw [hR, hpl]
      simp only [if_true]
      obtain ⟨q1, q2, q3, q4⟩ := hpf hpl
      rw [hpl] at HP
      have HWF := Lib.hid (fun W (h : Reads W a n xs) (h2 : Reads W a2 n P) => weFree_any n xs P a a2 p p2 W hn.symm (by omega) q1 (by omega) l3 (by rw [← hn]; exact h) (by rw [q1]; exact h2) q2 q4)
      have HPL := Lib.hid q1
      rw [q1] at HR2 ⊢
      simp only [q1] at HP
      clear hpl hR hpf hn hg hr hr2 l1 l2 l3 hx hp hcap q1 q2 q3 q4
      go_enter Try.func27, Try.ntmps27
      go_wp2_with fail
      refine HG.out.mono ?_
      rintro e w2 ⟨rfl, hb⟩
      have HB := Lib.hid hb
      clear hb
      go_wp2_with fail
      refine (HF.out _ (HR.out.kept HB.out)).mono ?_
      rintro e w4 ⟨s4, rfl, hO, hb⟩
      have HB4 := Lib.hid (below_on HB.out hb)
      have HO4 := Lib.hid (hO.lower HB.out.size)
      obtain ⟨a4, c4, hv4, _⟩ := hO.reads
      rw [List.length_map] at hv4
      subst hv4
      clear hO hb
      go_wp2_with fail
      refine (HP.out _ _ HO4.out (HR2.out.kept HB4.out)).mono ?_
      rintro e w6 ⟨rfl, hb⟩
      have HB6 := Lib.hid (below_on HB4.out hb)
      clear hb
      go_wp2_with fail
      refine (HWF.out _ (HR.out.kept HB6.out) (HR2.out.kept HB6.out)).mono ?_
      rintro e w7 ⟨rfl, rfl⟩
      go_wp2_with fail
      go_ret2
      exact ⟨rfl, HB6.out⟩
end Go.Proofs.Ytdgkcfpfldaopaa
