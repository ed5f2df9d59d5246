import Derived.Test.YtabfiafjcnilnaaFold16
import Derived.Test.YtabfiafjcnilnaaFold15
import Derived.Test.YtabfiafjcnilnaaFold8
import Derived.Test.YtabfiafjcnilnaaFold2

section
namespace Go.Proofs.Ytabfiafjcnilnaa
open Go.RowKit Go.WideShapes

theorem OwnM.keptR {w w' : World} {lo : Nat} {v : Value} {vs : List Value} {rss : List (List Int)} (h : OwnM w lo v vs rss) (hb : Below w.heap.size w w') : OwnM w' lo v vs rss := by
  refine h.stay (row := none) ⟨hb.os, hb.tape, hb.output, hb.size, fun k hk _ => hb.block k hk⟩ ?_ (fun u _ => ?_)
  · cases v.ownBlock <;> simp
  · cases u.ownBlock <;> simp
/-- Behind its length every row of the first k has nothing but 0. -/
def zerosOk (xs : List Int) (rss : List (List Int)) : Nat → Bool
  | 0 => true
  | k + 1 => zerosOk xs rss k && within 0 0 ((rss.getD k []).drop (xs.getD k 0).toNat)
theorem zerosOk_no (xs : List Int) (rss : List (List Int)) (k : Nat) (h : zerosOk xs rss k = false) : ∀ d, zerosOk xs rss (k + d) = false := by
  intro d
  induction d with
  | zero => exact h
  | succ d ih => rw [← Nat.add_assoc, zerosOk, ih, Bool.false_and]
def fitOk (xs : List Int) (rss : List (List Int)) (q : Int) : Bool := decide (rss.length = xs.length) && (rowsB rss q && (decide ((rss.getD 0 []).length = xs.length) && zerosOk xs rss xs.length))
def fitR (xs : List Int) (rss : List (List Int)) (q : Int) : R2 := if lenB xs && isQ q then ⟨fitOk xs rss q, true⟩ else ⟨false, false⟩
theorem Reads.dropO {w : World} {b off n : Nat} {zs : List Int} (h : Reads w (some ⟨b, off, none⟩) zs.length zs) (h0 : 0 < zs.length) (k : Nat) (hk : k ≤ zs.length) (hn : n = zs.length - k) : Reads w (some ⟨b, off + k, none⟩) n (zs.drop k) := by
  obtain ⟨b2, o2, e, hlt, hc⟩ := reads_row h h0
  injection e with e
  injection e with e1 e2
  subst e1
  subst e2
  refine ⟨by simp; omega, .inr ⟨b, off + k, rfl, hlt, fun j hj => ?_⟩⟩
  rw [Nat.add_assoc, hc (k + j) (by omega)]
  simp [List.getD_eq_getElem?_getD, List.getElem?_drop]
theorem rowsB_at (rss : List (List Int)) (q : Int) (h : rowsB rss q = true) (k : Nat) (hk : k < rss.length) : rss[k].length = (rss.getD 0 []).length := by
  unfold rowsB rowsOk at h
  simp only [Bool.and_eq_true, List.all_eq_true] at h
  have := h.2.2 rss[k] (List.getElem_mem hk)
  unfold rowOk at this
  simp only [Bool.and_eq_true, decide_eq_true_eq] at this
  exact this.1

set_option maxRecDepth 100000 in
set_option maxHeartbeats 3200000 in
theorem specFits_yes (xs : List Int) (rss : List (List Int)) (q : Int) (w : World) (hx : xs.length ≤ 1048576) (hl : rss.length ≤ 1048576) (a : Option Addr) (p : Nat) (hr : Reads w a xs.length xs) (lo1 : Nat) (s1 : Value) (vs : List Value) (hO : OwnM w lo1 s1 vs rss) (hg : lenB xs = true) (hq : isQ q = true) :
    Calls Try.prog 9 #[.slice a xs.length p, s1, .int .i64 q] w fun e w' => AnsOO ⟨fitOk xs rss q, true⟩ w e w' := by
  have HG := Lib.hid (feGood_any a p xs w hx hr)
  have HQ := Lib.hid (weBase_any q)
  rw [hg] at HG
  rw [hq] at HQ
  have hq2 : 2 ≤ q ∧ q ≤ 3 := by
    obtain ⟨n, rfl, hn⟩ := isQ_nat hq
    omega
  have HR := Lib.hid (fun W (h : OwnM W lo1 s1 vs rss) => weRows_any q hq2 rss W lo1 s1 vs h hl)
  obtain ⟨a1, cap, rfl, _⟩ := hO.form
  have hvl : vs.length = rss.length := hO.len.symm
  obtain ⟨l1, l2, l3, l4, _⟩ := len_facts hg
  have HO := Lib.hid hO
  have HXR := Lib.hid hr
  rw [hvl] at HR HO ⊢
  clear hO hr hg hq hq2
  by_cases h1 : rss.length = xs.length
  · have hne : ((rss.length : Int) != (xs.length : Int)) = false := by simp [h1]
    cases h2 : rowsB rss q
    · rw [show fitOk xs rss q = false by simp [fitOk, h2]]
      rw [h2] at HR
      clear h1 h2 l3 l4
      go_enter Try.func9, Try.ntmps9
      go_wp2_with fail
      refine HG.out.mono ?_
      rintro e w2 ⟨rfl, hb⟩
      have HB := Lib.hid hb
      clear hb
      go_wp2_with fail
      refine (HQ.out _).mono ?_
      rintro e w3 ⟨rfl, rfl⟩
      go_wp2_with fail
      refine (HR.out _ (HO.out.keptR HB.out)).mono ?_
      rintro e w3 ⟨rfl, rfl⟩
      go_wp2_with fail
      go_ret2
      exact ⟨rfl, HB.out⟩
    · have h0r : 0 < rss.length := by omega
      have h0v : 0 < vs.length := by omega
      obtain ⟨n, hn⟩ : ∃ n, n = (rss.getD 0 []).length := ⟨_, rfl⟩
      have e0 : (rss[0]'h0r).length = n := by rw [hn, List.getD_eq_getElem?_getD, List.getElem?_eq_getElem h0r]; rfl
      have HROW := Lib.hid (fun k hk => rowsB_at rss q h2 k hk)
      rw [h2] at HR
      by_cases h3 : n = xs.length
      · have hl4 := Lib.hid (fun k => And.intro (l3 k).1 (l4 k))
        have HZ := Lib.hid (zerosOk_no xs rss)
        have hzs := fun k => show zerosOk xs rss (k + 1) = (zerosOk xs rss k && within 0 0 ((rss.getD k []).drop (xs.getD k 0).toNat)) from rfl
        have hz0 : zerosOk xs rss 0 = true := rfl
        have hne3 : ((n : Int) != (xs.length : Int)) = false := by simp [h3]
        rw [show fitOk xs rss q = zerosOk xs rss xs.length by unfold fitOk; rw [h1, h2, ← hn, h3, decide_eq_true (rfl : xs.length = xs.length), Bool.true_and, Bool.true_and, Bool.true_and]]
        have HV := Lib.hid hvl
        have hlen : (0 : Int) < rss.length := by omega
        have HN1 := Lib.hid h1
        have HN3 := Lib.hid h3
        have HZS := Lib.hid hzs
        have HROWN := Lib.hid (fun k (hk : k < rss.length) => (HROW.out k hk).trans hn.symm)
        generalize zerosOk xs rss = ZO at *
        obtain ⟨Z, hZ⟩ : ∃ Z, Z = ZO xs.length := ⟨_, rfl⟩
        rw [← hZ]
        have HZZ := Lib.hid hZ
        clear hZ
        clear h1 h2 l3 l4 hn hzs HROW
        go_enter Try.func9, Try.ntmps9
        go_wp2_with fail
        refine HG.out.mono ?_
        rintro e w2 ⟨rfl, hb⟩
        have HB := Lib.hid hb
        clear hb
        have hO2 := HO.out.keptR HB.out
        rw [← HV.out] at hO2
        have HO2 := Lib.hid hO2
        obtain ⟨aa, cc, hv, hc⟩ := hO2.form
        injection hv with ha hb hcp
        subst ha
        obtain ⟨g, rfl, c0⟩ := hc 0 h0v
        obtain ⟨a0, p0, hv0, hr0⟩ := (hO2.row 0 h0v).reads
        rw [hv0, e0] at c0
        clear hr0 hc hb hcp hO2 hv0
        go_wp2_with fail
        refine (HQ.out _).mono ?_
        rintro e w3 ⟨rfl, rfl⟩
        go_wp2_with fail
        refine (HR.out _ (HO.out.keptR HB.out)).mono ?_
        rintro e w3 ⟨rfl, rfl⟩
        go_wp2_with fail
        go_loopw [40] (fun i wr => ∃ k : Nat, k ≤ xs.length ∧ i = .int .i64 k ∧ Hid (ZO k = true) ∧ w2 = wr) (fun i _ => xs.length - (intOf i).toNat)
        case atStart => exact ⟨0, Nat.zero_le _, rfl, hz0, rfl⟩
        case round =>
          obtain ⟨k, hk, rfl, HK, hww⟩ := hrel
          subst hww
          by_cases hlt : k < xs.length
          · have hkr : k < rss.length := by have := HN1.out; omega
            have hkv : k < vs.length := by have := HV.out; omega
            have ck := HO2.out.cell k hkv
            have hrow := HO2.out.row k hkv
            have hlr := HROWN.out k hkr
            have hst := HZS.out k
            rw [show rss.getD k [] = rss[k]'hkr by rw [List.getD_eq_getElem?_getD, List.getElem?_eq_getElem hkr]; rfl, HK.out, Bool.true_and] at hst
            obtain ⟨b, off, hxa, _, hxc⟩ := reads_row (HXR.out.kept HB.out) (by omega)
            subst hxa
            have hxk := hxc k hlt
            obtain ⟨m, hm⟩ := Int.eq_ofNat_of_zero_le (hl4.out k).1
            have hmn : m ≤ n := by have := (hl4.out k).2; have := HN3.out; omega
            rw [hm] at hxk hst
            rw [Int.toNat_natCast] at hst
            have hkr9 : (k : Int) < rss.length := by omega
            generalize rss[k]'hkr = x at *
            obtain ⟨ax, px, hvx, hrx⟩ := hrow.reads
            rw [hvx] at ck hrow
            rcases hrow.cases with ⟨_, h0⟩ | ⟨gr, cr, hvr, _, _, hcr, hcm⟩
            · exact absurd (by rw [h0] at hlr; exact hlr) (by have := HN3.out; simp; omega)
            · injection hvr with ha hb hcp
              subst ha
              subst hcp
              subst hlr
              have hxn := HN3.out
              have hrd := Reads.dropO (n := (x.drop m).length) hrx (by omega) m hmn (by simp)
              rw [Nat.zero_add] at hrd
              have hAll := l1All_any (some ⟨gr, m, none⟩) (px - m) (x.drop m) 0 0 w2 (by simp; omega) hrd
              rw [show (x.drop m).length = xs.length - m by simp; omega] at hAll
              have hml : (m : Int) ≤ x.length := by omega
              have hcr2 : (x.length : Int) ≤ px := by omega
              have hz : px = m → within 0 0 (x.drop m) = true := fun h => by
                rw [List.drop_of_length_le (by omega)]
                rfl
              have h0 := l1All_any (some ⟨gr, 0, none⟩) 0 [] 0 0 w2 (by simp) ⟨rfl, .inl rfl⟩
              rw [show within 0 0 [] = true from rfl] at h0
              have hA0 : px = m → Calls Try.prog 31 #[.slice (some ⟨gr, 0, none⟩) (xs.length - m) 0, .int .i64 0, .int .i64 0] w2 fun e w' => e = .returned (.bool true) ∧ w2 = w' := fun h => by
                rw [show xs.length - m = ([] : List Int).length by simp; omega]
                exact h0
              generalize within 0 0 (x.drop m) = bw at *
              have HA := Lib.hid hAll
              have HA0 := Lib.hid hA0
              have HZ0 := Lib.hid hz
              have HST := Lib.hid hst
              clear hrd hrx hvx hrow hxc hm hb hAll hst hxn h0 hA0 hz
              go_upto_region 8 with fail
              by_cases hpm : px = m
              · have e1 := HZ0.out hpm
                subst e1
                replace HA := Lib.hid (HA0.out hpm)
                go_wp2_with (go_at_call 31; with_reducible refine HA.out.mono ?_; rintro e w' ⟨rfl, rfl⟩)
                go_roundw
                case rel => exact ⟨k + 1, by omega, by go_num, HST.out, trivial⟩
                case measure => simp [intOf]; omega
              · cases bw
                · have HF := Lib.hid (show Z = false by
                    have h9 := HZ.out (k + 1) HST.out (xs.length - (k + 1))
                    rw [show k + 1 + (xs.length - (k + 1)) = xs.length by omega] at h9
                    rw [HZZ.out, h9])
                  go_wp2_with (go_at_call 31; with_reducible refine HA.out.mono ?_; rintro e w' ⟨rfl, rfl⟩)
                  go_ret2
                  rw [HF.out]
                  exact ⟨rfl, HB.out⟩
                · go_wp2_with (go_at_call 31; with_reducible refine HA.out.mono ?_; rintro e w' ⟨rfl, rfl⟩)
                  go_roundw
                  case rel => exact ⟨k + 1, by omega, by go_num, HST.out, trivial⟩
                  case measure => simp [intOf]; omega
          · obtain rfl : k = xs.length := by omega
            have HF := Lib.hid (HZZ.out.trans HK.out)
            go_wp2_with fail
            go_ret2
            rw [HF.out]
            exact ⟨rfl, HB.out⟩
      · have hne3 : ((n : Int) != (xs.length : Int)) = true := by simp; omega
        rw [show fitOk xs rss q = false by simp only [fitOk, ← hn, h3, decide_false, Bool.false_and, Bool.and_false]]
        have HV := Lib.hid hvl
        have hlen : (0 : Int) < rss.length := by omega
        clear h1 h2 l3 l4 hn
        go_enter Try.func9, Try.ntmps9
        go_wp2_with fail
        refine HG.out.mono ?_
        rintro e w2 ⟨rfl, hb⟩
        have HB := Lib.hid hb
        clear hb
        have hO2 := HO.out.keptR HB.out
        rw [← HV.out] at hO2
        obtain ⟨aa, cc, hv, hc⟩ := hO2.form
        injection hv with ha hb hcp
        subst ha
        obtain ⟨g, rfl, c0⟩ := hc 0 h0v
        obtain ⟨a0, p0, hv0, hr0⟩ := (hO2.row 0 h0v).reads
        rw [hv0, e0] at c0
        clear hr0 hc hb hcp hO2 hv0
        go_wp2_with fail
        refine (HQ.out _).mono ?_
        rintro e w3 ⟨rfl, rfl⟩
        go_wp2_with fail
        refine (HR.out _ (HO.out.keptR HB.out)).mono ?_
        rintro e w3 ⟨rfl, rfl⟩
        go_wp2_with fail
        go_ret2
        exact ⟨rfl, HB.out⟩
  · have hne : ((rss.length : Int) != (xs.length : Int)) = true := by simp; omega
    rw [show fitOk xs rss q = false by simp [fitOk, h1]]
    clear h1 l3 l4
    go_enter Try.func9, Try.ntmps9
    go_wp2_with fail
    refine HG.out.mono ?_
    rintro e w2 ⟨rfl, hb⟩
    have HB := Lib.hid hb
    clear hb
    go_wp2_with fail
    refine (HQ.out _).mono ?_
    rintro e w3 ⟨rfl, rfl⟩
    go_wp2_with fail
    go_ret2
    exact ⟨rfl, HB.out⟩
set_option maxRecDepth 100000 in
set_option maxHeartbeats 3200000 in
theorem specFits_any (xs : List Int) (rss : List (List Int)) (q : Int) (w : World) (hx : xs.length ≤ 1048576) (hl : rss.length ≤ 1048576) (lo : Nat) (s : Value) (hOx : Own w lo s xs) (lo1 : Nat) (s1 : Value) (vs : List Value) (hO : OwnM w lo1 s1 vs rss) :
    Calls Try.prog 9 #[s, s1, .int .i64 q] w fun e w' => AnsOO (fitR xs rss q) w e w' := by
  obtain ⟨a, p, rfl, hr⟩ := hOx.reads
  have HG := Lib.hid (feGood_any a p xs w hx hr)
  have HQ := Lib.hid (weBase_any q)
  cases hg : lenB xs
  · rw [show fitR xs rss q = ⟨false, false⟩ by simp [fitR, hg]]
    rw [hg] at HG
    obtain ⟨a1, cap, rfl, hf⟩ := hO.form
    clear hg hr HQ hO hOx hf
    go_enter Try.func9, Try.ntmps9
    go_wp2_with fail
    refine HG.out.mono ?_
    rintro e w2 ⟨rfl, hb⟩
    have HB := Lib.hid hb
    clear hb
    go_wp2_with fail
    go_ret2
    exact ⟨rfl, HB.out⟩
  · cases hq : isQ q
    · rw [show fitR xs rss q = ⟨false, false⟩ by simp [fitR, hq]]
      rw [hg] at HG
      rw [hq] at HQ
      obtain ⟨a1, cap, rfl, hf⟩ := hO.form
      clear hg hr hq hO hOx hf
      go_enter Try.func9, Try.ntmps9
      go_wp2_with fail
      refine HG.out.mono ?_
      rintro e w2 ⟨rfl, hb⟩
      have HB := Lib.hid hb
      clear hb
      go_wp2_with fail
      refine (HQ.out _).mono ?_
      rintro e w3 ⟨rfl, rfl⟩
      go_wp2_with fail
      go_ret2
      exact ⟨rfl, HB.out⟩
    · rw [show fitR xs rss q = ⟨fitOk xs rss q, true⟩ by simp [fitR, hg, hq]]
      exact specFits_yes xs rss q w hx hl a p hr lo1 s1 vs hO hg hq
end Go.Proofs.Ytabfiafjcnilnaa
end

section
namespace Go.Proofs.Ytabfiafjcnilnaa
open Go.RowKit


theorem nodup_step (xs : List Int) (k : Nat) (hk : k < xs.length) (h : (xs.take k).Nodup) (hn : ¬ xs.getD k 0 ∈ xs.take k) : (xs.take (k + 1)).Nodup := by
  rw [List.take_succ_eq_append_getElem hk, List.nodup_append]
  refine ⟨h, by simp, ?_⟩
  intro a ha b hb
  simp only [List.mem_singleton] at hb
  subst hb
  intro e
  subst e
  apply hn
  simpa [List.getD, hk] using ha
theorem nodup_no (xs : List Int) (k : Nat) (hk : k < xs.length) (hn : xs.getD k 0 ∈ xs.take k) : decide xs.Nodup = false := by
  rw [decide_eq_false_iff_not]
  intro h
  have h2 : (xs.take (k + 1)).Nodup := h.sublist (List.take_sublist _ _)
  rw [List.take_succ_eq_append_getElem hk, List.nodup_append] at h2
  have e : xs.getD k 0 = xs[k] := by simp [List.getD, hk]
  rw [e] at hn
  exact h2.2.2 _ hn _ (by simp) rfl
theorem Reads.takeO {w : World} {a : Option Addr} {len : Nat} {zs : List Int} (h : Reads w a len zs) (k : Nat) (hk : k ≤ len) : Reads w a (zs.take k).length (zs.take k) := by
  obtain ⟨h1, h2⟩ := h
  refine ⟨rfl, ?_⟩
  have hl : (zs.take k).length = k := by simp; omega
  rw [hl]
  by_cases h0 : k = 0
  · exact .inl h0
  · right
    rcases h2 with h2 | ⟨b, off, ha, hlt, hc⟩
    · omega
    · refine ⟨b, off, ha, hlt, fun j hj => ?_⟩
      rw [hc j (by omega)]
      simp [List.getD, hj]

theorem at_boolV {P : Program} {f : FuncId} {args : Array Value} {b c : Bool} {w : World} (h : Calls P f args w fun e w' => e = .returned (.bool b) ∧ w = w') (e : b = c) : Calls P f args w fun e w' => e = .returned (.bool c) ∧ w = w' := by
  subst e
  exact h


end Go.Proofs.Ytabfiafjcnilnaa
end
