/- Placements told apart and measured, in the specification of largest placements. No condition but the sizes. -/
import Derived.Test.YtdimbnkgomfojabPb
import Derived.Test.YtdimbnkgomfojabC
import Derived.Test.YtdimbnkgomfojabMu
import Derived.Test.YtdimbnkgomfojabPi
import Derived.Test.YtdimbnkgomfojabI
import Derived.Test.YtdimbnkgomfojabT3
import Derived.Test.YtdimbnkgomfojabP
import Derived.BigRegion
import Derived.Deep.RegionHeld3
namespace Go.Proofs.Ytdimbnkgomfojab
open Go.RowKit Go.WideShapes

theorem within_at (lo hi : Int) (P : List Int) (h : within lo hi P = true) (k : Nat) (hk : k < P.length) : lo ≤ P.getD k 0 ∧ P.getD k 0 ≤ hi := by
  rw [within, List.all_eq_true] at h
  have := h P[k] (List.getElem_mem hk)
  simpa [List.getD, hk] using this
theorem within_place (n m : Nat) (xs P : List Int) (hn : P.length = n) (h : within (-1) ((m : Int) - 1) P = false) : placeP n m xs P = false := by
  rw [within, List.all_eq_false] at h
  obtain ⟨x, hx, h⟩ := h
  obtain ⟨k, hk, rfl⟩ := List.mem_iff_getElem.1 hx
  have hg : P.getD k 0 = P[k] := by simp [List.getD, hk]
  have h2 : ¬ (-1 ≤ P[k] ∧ P[k] ≤ (m : Int) - 1) := by simpa using h
  rw [placeP, goodUp_no xs m P k n ?_ (by omega), Bool.and_false]
  rw [goodAt, hg, inB_no (by omega), beq_eq_false_iff_ne.2 (by omega)]
  rfl

set_option maxRecDepth 100000 in
set_option maxHeartbeats 3200000 in
theorem lcGood_any (n m : Nat) (xs P : List Int) (a2 : Option Addr) (p2 : Nat) (w : World) (hx : xs.length ≤ 1048576) (hp : P.length ≤ 1048576) (hp2 : P.length ≤ p2) (hg : goodB n m xs = true) (lo : Nat) (s : Value) (hO : Own w lo s xs) (hr : Reads w a2 P.length P) :
    Calls Try.prog 87 #[.agg #[.int .i64 n, .int .i64 m, s], .slice a2 P.length p2] w fun e w' => e = .returned (.bool (placeP n m xs P)) ∧ Below w.heap.size w w' := by
  have hgc := good_cell hg
  obtain ⟨g1, g2, g3, _⟩ := good_facts hg
  have L0 := (Law.start w).box (.int .i64 n) (.int .i64 m) s 28
  have HO := Lib.hid hO
  have HR := Lib.hid hr
  have HGC := Lib.hid hgc
  have HLN := Lib.hid g3
  obtain ⟨a, cap, rfl, _⟩ := hO.reads
  have ⟨_, k0, k1, k2, _⟩ := L0.ownBox
  have HL := Lib.hid L0
  have hmw : IntKind.i64.wrap ((m : Int) - 1) = (m : Int) - 1 := IntWalk.i64_in _ (by omega)
  clear hO hr hgc hg g3
  by_cases hn : P.length = n
  · have hne : ((P.length : Int) != n) = false := by simp [hn]
    have HA := Lib.hid (fun W (h : Reads W a2 P.length P) => l1All_any a2 p2 P (-1) ((m : Int) - 1) W hp h)
    have hr0 := L0.reads HR.out
    cases hw : within (-1) ((m : Int) - 1) P
    · have HD := Lib.hid (within_place n m xs P hn hw)
      rw [hw] at HA
      have HR0 := Lib.hid hr0
      clear hn hw L0 hr0
      go_enter Try.func87, Try.ntmps87
      go_wp2_with fail
      refine (HA.out _ HR0.out).mono ?_
      rintro e w' ⟨rfl, rfl⟩
      go_wp2_with fail
      go_ret
      exact ⟨ret_bool HD.out.symm, HL.out.below⟩
    · have HD : Hid (placeP n m xs P = goodUp xs m P P.length) := Lib.hid (by simp [placeP, hn])
      have HN := Lib.hid hn
      have HW := Lib.hid (within_at _ _ P hw)
      rw [hw] at HA
      have HR0 := Lib.hid hr0
      clear hn hw L0 hr0
      go_enter Try.func87, Try.ntmps87
      go_wp2_with fail
      refine (HA.out _ HR0.out).mono ?_
      rintro e w' ⟨rfl, rfl⟩
      go_wp2_with fail
      go_loopw [22] (fun i wr => ∃ k : Nat, k ≤ P.length ∧ i = .int .i64 k ∧ Hid (goodUp xs m P k = true) ∧ Law w [tBox w.heap.size (.int .i64 n) (.int .i64 m) (.slice a xs.length cap)] wr) (fun i _ => P.length - (intOf i).toNat)
      case atStart => exact ⟨0, Nat.zero_le _, rfl, Lib.hid rfl, HL.out⟩
      case round =>
        clear HL k0 k1 k2 HA HR0
        obtain ⟨k, hk, rfl, HU, L⟩ := hrel
        have ⟨_, k0, k1, k2, _⟩ := L.ownBox
        have HL := Lib.hid L
        by_cases hlt : k < P.length
        · have hr2 := L.reads HR.out
          have hrt := Reads.take hr2 k hk
          obtain ⟨b, off, rfl, hb, hc⟩ := reads_row hr2 (by omega)
          have hck := hc k hlt
          have hO1 := HO.out.kept L.below
          have hkn : k < n := by have := HN.out; omega
          have hkx : k < xs.length := by have := HLN.out; omega
          have hup : goodUp xs m P (k + 1) = goodAt xs m P k := by rw [goodUp, HU.out, Bool.true_and]
          have hno := goodUp_no xs m P k P.length
          have hat : goodAt xs m P k = ((P.getD k 0 == -1) || (inB 0 (P.getD k 0) ((m : Int) - 1) && ((xs.getD k 0).toNat.testBit (P.getD k 0).toNat && !hasI (P.take k) (P.getD k 0)))) := rfl
          have hwk := HW.out k hlt
          clear hc hb L hr2
          generalize P.getD k 0 = x at *
          by_cases h1 : x = -1
          · subst h1
            have HNX : Hid (goodUp xs m P (k + 1) = true) := Lib.hid (by rw [hup, hat]; rfl)
            clear hup hno hat hrt hO1
            go_wp2_with fail
            go_roundw
            case rel => exact ⟨k + 1, by omega, by go_num, HNX, HL.out⟩
            case measure => simp [intOf]; omega
          · have h1' : (x == -1) = false := by rw [beq_eq_false_iff_ne]; exact h1
            rw [h1', Bool.false_or] at hat
            have h2 : 0 ≤ x ∧ x ≤ (m : Int) - 1 := by omega
            obtain ⟨c, rfl⟩ := Int.eq_ofNat_of_zero_le h2.1
            rw [inB_yes h2.1 h2.2, Bool.true_and, show ((c : Int)).toNat = c by simp] at hat
            have HH := Lib.hid (boHas_any n m xs k c wr hkx hx (by omega) (HGC.out k) lo _ hO1)
            have HRT := Lib.hid hrt
            have hkp : (P.take k).length = k := by simp; omega
            have HKP := Lib.hid hkp
            have hk0 : (0 : Int) ≤ k := by omega
            have hkc : (k : Int) ≤ p2 := by omega
            have hc0 : (0 : Int) ≤ c := by omega
            clear hrt hO1 h1 h2 hkp h1' hwk
            cases hb1 : (xs.getD k 0).toNat.testBit c
            · have HNX : Hid (goodUp xs m P P.length = false) := Lib.hid (hno (by rw [hat, hb1, Bool.false_and]) hlt)
              rw [hb1] at HH
              clear hup hno hat hb1
              go_wp2_with fail
              refine HH.out.mono ?_
              rintro e w2 ⟨rfl, hb2⟩
              have HB := Lib.hid (HL.out.kept hb2).below
              clear hb2
              go_wp2_with fail
              go_ret
              exact ⟨ret_bool (by rw [HD.out, HNX.out]), HB.out⟩
            · rw [hb1, Bool.true_and] at hat
              rw [hb1] at HH
              clear hb1
              cases hb3 : hasI (P.take k) c
              all_goals
                rw [hb3] at hat
                have HHS : Hid (∀ W, Reads W (some ⟨b, off, none⟩) k (P.take k) → Calls Try.prog 70 #[.slice (some ⟨b, off, none⟩) k p2, .int .i64 c] W fun e w' => e = .returned (.bool (hasI (P.take k) c)) ∧ W = w') := Lib.hid (fun W h => l1Has_any (some ⟨b, off, none⟩) k p2 (P.take k) c W (by rw [HKP.out]; omega) HKP.out h)
                rw [hb3] at HHS
                have HAT := Lib.hid (And.intro hup (And.intro hno hat))
                clear hup hno hat hb3
                go_wp2_with fail
                refine HH.out.mono ?_
                rintro e w2 ⟨rfl, hb2⟩
                have HL2 := Lib.hid (HL.out.kept hb2)
                have HRT2 := Lib.hid (HRT.out.kept hb2)
                clear hb2 HL
                go_wp2_with fail
                refine (HHS.out _ HRT2.out).mono ?_
                rintro e w' ⟨rfl, rfl⟩
                go_wp2_with fail
                first
                | (go_ret
                   exact ⟨ret_bool (by rw [HD.out, HAT.out.2.1 (by rw [HAT.out.2.2]; rfl) hlt]), HL2.out.below⟩)
                | (go_roundw
                   case rel => exact ⟨k + 1, by omega, by go_num, Lib.hid (by rw [HAT.out.1, HAT.out.2.2]; rfl), HL2.out⟩
                   case measure => simp [intOf]; omega)
        · obtain rfl : k = P.length := by omega
          go_wp2_with fail
          go_ret
          exact ⟨ret_bool (by rw [HD.out, HU.out]), HL.out.below⟩
  · have hne : ((P.length : Int) != n) = true := by simp; omega
    have HD : Hid (placeP n m xs P = false) := Lib.hid (by simp [placeP, hn])
    clear hn
    go_enter Try.func87, Try.ntmps87
    go_wp2_with fail
    go_ret
    exact ⟨ret_bool HD.out.symm, HL.out.below⟩

set_option maxHeartbeats 800000 in
theorem lcSize_any (a : Option Addr) (p : Nat) (xs : List Int) (w : World) (hx : xs.length ≤ 1048576) (hr : Reads w a xs.length xs) :
    Calls Try.prog 94 #[.slice a xs.length p] w fun e w' => e = .returned (.int .i64 (rcnt xs)) ∧ w = w' := by
  go_enter Try.func94, Try.ntmps94
  go_wp2_with fail
  go_loop [3, 8] (fun t i => ∃ k : Nat, k ≤ xs.length ∧ i = .int .i64 k ∧ t = .int .i64 (rcnt (xs.take k) : Nat)) (fun _ i => xs.length - (intOf i).toNat)
  case atStart => exact ⟨0, Nat.zero_le _, rfl, by simp [rcnt]⟩
  case round =>
    obtain ⟨k, hk, rfl, rfl⟩ := hrel
    by_cases hlt : k < xs.length
    · obtain ⟨b, off, rfl, hb, hc⟩ := reads_row hr (by omega)
      have hck := hc k hlt
      have hs := rcnt_succ xs k hlt
      have hl := rcnt_le (xs.take k)
      have hl2 : (xs.take k).length ≤ k := by simp; omega
      generalize xs.getD k 0 = x at *
      generalize rcnt (xs.take k) = y at *
      have hy : y ≤ 1048576 := by omega
      have HS := Lib.hid hs
      by_cases h0 : 0 ≤ x
      · clear hs hl hl2 hc
        go_wp2_with fail
        go_round
        case rel => exact ⟨k + 1, by omega, by go_num, by rw [HS.out, if_pos h0]; go_num⟩
        case measure => simp [intOf]; omega
      · have h1 : x < 0 := by omega
        clear hs hl hl2 hc
        go_wp2_with fail
        go_round
        case rel => exact ⟨k + 1, by omega, by go_num, by rw [HS.out, if_neg h0]; rfl⟩
        case measure => simp [intOf]; omega
    · obtain rfl : k = xs.length := by omega
      go_wp2_with fail
      go_ret
      exact ⟨ret_int (by first | rfl | rw [List.take_length]), rfl⟩

/-- A placement behind the first steps of a way, and whether these steps are in its rows. -/
def wOut (W P : List Int) : Nat → List Int
  | 0 => P
  | t + 1 => (wOut W P t).set (W.getD (2 * t) 0).toNat (W.getD (2 * t + 1) 0)
def wOk (n : Nat) (W : List Int) : Nat → Bool
  | 0 => true
  | t + 1 => wOk n W t && inB 0 (W.getD (2 * t) 0) ((n : Int) - 1)
theorem wOut_len (W P : List Int) (t : Nat) : (wOut W P t).length = P.length := by
  induction t with
  | zero => rfl
  | succ t ih => rw [wOut, List.length_set, ih]
theorem wOk_no (n : Nat) (W : List Int) (t T : Nat) (h : inB 0 (W.getD (2 * t) 0) ((n : Int) - 1) = false) (ht : t < T) : wOk n W T = false := by
  induction T with
  | zero => omega
  | succ T ih =>
    rw [wOk]
    by_cases e : t = T
    · subst e; rw [h, Bool.and_false]
    · rw [ih (by omega), Bool.false_and]
def lenW (W : List Int) : Bool := decide (W.length % 2 = 0) && inB 2 W.length 12
def wayR (r c : Int) (xs P W : List Int) : LR :=
  if goodB r c xs && (placeP r.toNat c.toNat xs P && (lenW W && (wOk r.toNat W (W.length / 2) && (placeP r.toNat c.toNat xs (wOut W P (W.length / 2)) && decide (rcnt P < rcnt (wOut W P (W.length / 2))))))) then ⟨wOut W P (W.length / 2), true⟩ else ⟨[], false⟩
theorem wayR_len (r c : Int) (xs P W : List Int) : (wayR r c xs P W).ys.length ≤ 1048576 := by
  unfold wayR
  split
  · rename_i h
    simp only [Bool.and_eq_true] at h
    have := good_facts h.1
    have h2 := h.2.1
    rw [placeP, Bool.and_eq_true, decide_eq_true_eq] at h2
    show (wOut W P (W.length / 2)).length ≤ _
    rw [wOut_len]
    omega
  · simp

set_option maxRecDepth 100000 in
set_option maxHeartbeats 6400000 in
theorem specFol_any (r c : Int) (xs P Q : List Int) (w : World) (hx : xs.length ≤ 1048576) (hp : P.length ≤ 1048576) (hq : Q.length ≤ 1048576) (lo : Nat) (s : Value) (lo2 : Nat) (s2 : Value) (lo3 : Nat) (s3 : Value) (hO : Own w lo s xs) (hO2 : Own w lo2 s2 P) (hO3 : Own w lo3 s3 Q) :
    Calls Try.prog 52 #[.agg #[.int .i64 r, .int .i64 c, s], s2, s3] w fun e w' => AnsL (wayR r c xs P Q) w e w' := by
  have L0 := (Law.start w).box (.int .i64 r) (.int .i64 c) s 28
  have hO0 := hO.kept L0.below
  have HO2 := Lib.hid hO2
  have HOX := Lib.hid hO
  obtain ⟨a, cap, rfl, hr⟩ := hO.reads
  obtain ⟨a2, p2, rfl, hr2⟩ := hO2.reads
  obtain ⟨a3, p3, rfl, hr3⟩ := hO3.reads
  have hp2 := own_cap hO2
  have hr0 := L0.reads hr
  clear hO hO2 hO3
  cases hg : goodB r c xs
  · rw [show wayR r c xs P Q = ⟨[], false⟩ by simp [wayR, hg]]
    go_enter Try.func52, Try.ntmps52
    go_wp2_with fail
    refine (at_boolB (boGood_any r c a cap xs _ hx hr0) hg).mono ?_
    rintro e w1 ⟨rfl, hb⟩
    have HB := Lib.hid (L0.kept hb).below
    clear L0 hb hg hr0 hO0
    go_wp2_with fail
    go_ret2
    exact ⟨_, rfl, Own.nil _ _, HB.out⟩
  · obtain ⟨g1, g2, g3, _⟩ := good_facts hg
    obtain ⟨n, rfl⟩ := Int.eq_ofNat_of_zero_le (show 0 ≤ r by omega)
    obtain ⟨m, rfl⟩ := Int.eq_ofNat_of_zero_le (show 0 ≤ c by omega)
    have HC := Lib.hid (at_boolB (boGood_any n m a cap xs _ hx hr0) hg)
    have HP := Lib.hid (fun (W : World) (R : List Int) (a2 : Option Addr) (p2 : Nat) (h1 : R.length ≤ 1048576) (h2 : R.length ≤ p2) (hO : Own W lo (.slice a xs.length cap) xs) (h : Reads W a2 R.length R) => lcGood_any n m xs R a2 p2 W hx h1 h2 hg lo _ hO h)
    cases hz : placeP n m xs P
    · rw [show wayR n m xs P Q = ⟨[], false⟩ by simp [wayR, hz]]
      have HPP := Lib.hid (fun W hO h => HP.out W P a2 p2 hp hp2 hO h)
      rw [hz] at HPP
      clear hg hr0 hz
      go_enter Try.func52, Try.ntmps52
      go_wp2_with fail
      refine HC.out.mono ?_
      rintro e w1 ⟨rfl, hb⟩
      have L1 := L0.kept hb
      have hO1 := hO0.kept hb
      have HR := Lib.hid (L1.reads hr2)
      have ⟨_, k0, k1, k2, _⟩ := L1.ownBox
      have HL := Lib.hid L1
      clear L0 L1 hb HC hO0
      go_wp2_with fail
      refine (HPP.out _ hO1 HR.out).mono ?_
      rintro e w2 ⟨rfl, hb⟩
      have HB := Lib.hid (HL.out.kept hb).below
      clear HL hO1 hb k0 k1 k2 HR
      go_wp2_with fail
      go_ret2
      exact ⟨_, rfl, Own.nil _ _, HB.out⟩
    · have HPP := Lib.hid (fun W hO h => HP.out W P a2 p2 hp hp2 hO h)
      rw [hz] at HPP
      by_cases hodd : Q.length % 2 = 1
      · rw [show wayR n m xs P Q = ⟨[], false⟩ by simp [wayR, lenW, show ¬ Q.length % 2 = 0 by omega]]
        have hmod : ((Q.length : Int) % 2 == 1) = true := by rw [beq_iff_eq]; omega
        have hmod2 : ((Q.length : Int).tmod 2 == 1) = true := by rw [beq_iff_eq, Int.tmod_eq_emod_of_nonneg (by omega)]; omega
        have hl0 : (0 : Int) ≤ Q.length := by omega
        clear hg hr0 hz hodd
        go_enter Try.func52, Try.ntmps52
        go_wp2_with fail
        refine HC.out.mono ?_
        rintro e w1 ⟨rfl, hb⟩
        have L1 := L0.kept hb
        have hO1 := hO0.kept hb
        have HR := Lib.hid (L1.reads hr2)
        have ⟨_, k0, k1, k2, _⟩ := L1.ownBox
        have HL := Lib.hid L1
        clear L0 L1 hb HC hO0
        go_wp2_with fail
        refine (HPP.out _ hO1 HR.out).mono ?_
        rintro e w2 ⟨rfl, hb⟩
        have HB := Lib.hid (HL.out.kept hb).below
        clear HL hO1 hb k0 k1 k2 HR
        go_wp2_with fail
        go_ret2
        exact ⟨_, rfl, Own.nil _ _, HB.out⟩
      · have hmod : ((Q.length : Int) % 2 == 1) = false := by rw [beq_eq_false_iff_ne]; omega
        have hmod2 : ((Q.length : Int).tmod 2 == 1) = false := by rw [beq_eq_false_iff_ne, Int.tmod_eq_emod_of_nonneg (by omega)]; omega
        have hl0 : (0 : Int) ≤ Q.length := by omega
        cases hin : inB 2 (Q.length : Int) 12
        · rw [show wayR n m xs P Q = ⟨[], false⟩ by simp [wayR, lenW, hin]]
          have HIN := Lib.hid (at_bool (l1In_any (Q.length : Int) 2 12) hin)
          clear hg hr0 hz hodd hin
          go_enter Try.func52, Try.ntmps52
          go_wp2_with fail
          refine HC.out.mono ?_
          rintro e w1 ⟨rfl, hb⟩
          have L1 := L0.kept hb
          have hO1 := hO0.kept hb
          have HR := Lib.hid (L1.reads hr2)
          have ⟨_, k0, k1, k2, _⟩ := L1.ownBox
          have HL := Lib.hid L1
          clear L0 L1 hb HC hO0
          go_wp2_with fail
          refine (HPP.out _ hO1 HR.out).mono ?_
          rintro e w2 ⟨rfl, hb⟩
          have HB := Lib.hid (HL.out.kept hb).below
          clear HL hO1 hb k0 k1 k2 HR
          go_wp2_with fail
          refine (HIN.out _).mono ?_
          rintro e w3 ⟨rfl, hw⟩
          subst w3
          go_wp2_with fail
          go_ret2
          exact ⟨_, rfl, Own.nil _ _, HB.out⟩
        · have HIN := Lib.hid (at_bool (l1In_any (Q.length : Int) 2 12) hin)
          have hq2 := inB_iff.1 hin
          obtain ⟨T, hT⟩ : ∃ T, Q.length = 2 * T := ⟨Q.length / 2, by omega⟩
          have hT2 : Q.length / 2 = T := by omega
          have hwr : wayR n m xs P Q = if wOk n Q T && (placeP n m xs (wOut Q P T) && decide (rcnt P < rcnt (wOut Q P T))) then ⟨wOut Q P T, true⟩ else ⟨[], false⟩ := by
            unfold wayR
            rw [hT2]
            simp [hg, hz, lenW, hin, show Q.length % 2 = 0 by omega]
          obtain ⟨R, hR⟩ : ∃ R, R = wayR n m xs P Q := ⟨_, rfl⟩
          rw [← hR]
          rw [hwr] at hR
          have HN1 : Hid (∀ t, inB 0 (Q.getD (2 * t) 0) ((n : Int) - 1) = false → t < T → R = ⟨[], false⟩) := Lib.hid (fun t h ht => by rw [hR, wOk_no n Q t T h ht]; rfl)
          have HN2 : Hid (wOk n Q T = true → placeP n m xs (wOut Q P T) = false → R = ⟨[], false⟩) := Lib.hid (fun h1 h2 => by rw [hR, h1, h2]; rfl)
          have HN3 : Hid (wOk n Q T = true → placeP n m xs (wOut Q P T) = true → ¬ rcnt P < rcnt (wOut Q P T) → R = ⟨[], false⟩) := Lib.hid (fun h1 h2 h3 => by rw [hR, h1, h2, decide_eq_false h3]; rfl)
          have HY : Hid (wOk n Q T = true → placeP n m xs (wOut Q P T) = true → rcnt P < rcnt (wOut Q P T) → R = ⟨wOut Q P T, true⟩) := Lib.hid (fun h1 h2 h3 => by rw [hR, h1, h2, decide_eq_true h3]; rfl)
          have hpn : P.length = n := by
            rw [placeP, Bool.and_eq_true, decide_eq_true_eq] at hz
            exact hz.1
          have HPN := Lib.hid hpn
          have HT := Lib.hid hT
          have hn1 : 1 ≤ n := by omega
          have hn6 : n ≤ 6 := by omega
          have hl12 : Q.length ≤ 12 := by omega
          have hnw : IntKind.i64.wrap ((n : Int) - 1) = (n : Int) - 1 := IntWalk.i64_in _ (by omega)
          have HSZ := Lib.hid (fun (a : Option Addr) (p : Nat) (R : List Int) (W : World) h1 h2 => lcSize_any a p R W h1 h2)
          have HOW := Lib.hid (fun (W : World) src h => l1Own_any P W hp src h)
          clear hg hr0 hz hodd hin hq2 hT hT2 hwr hR hpn g1 g2 g3
          go_enter Try.func52, Try.ntmps52
          go_wp2_with fail
          refine HC.out.mono ?_
          rintro e w1 ⟨rfl, hb⟩
          have L1 := L0.kept hb
          have hO1 := hO0.kept hb
          have HR := Lib.hid (L1.reads hr2)
          have HO1 := Lib.hid hO1
          have ⟨_, k0, k1, k2, _⟩ := L1.ownBox
          have HL := Lib.hid L1
          clear L0 L1 hb HC hO0 hO1
          go_wp2_with fail
          refine (HPP.out _ HO1.out HR.out).mono ?_
          rintro e w2 ⟨rfl, hb⟩
          have HO2b := Lib.hid (HO1.out.kept hb)
          have HL2 := Lib.hid (HL.out.kept hb)
          clear HL HO1 hb k0 k1 k2 HR HPP
          go_wp2_with fail
          refine (HIN.out _).mono ?_
          rintro e w3 ⟨rfl, hw⟩
          subst w3
          go_wp2_with fail
          refine (HOW.out _ _ (HO2.out.kept HL2.out.below).src).mono ?_
          rintro e w3 ⟨v, rfl, hv, hb⟩
          have HL3 := HL2.out.own hb hv
          rcases hv.cases with ⟨_, h0⟩ | ⟨g, cp, hve, hlo, hglt, hcap, _⟩
          · exact absurd (congrArg List.length h0) (by rw [HPN.out]; simp; omega)
          subst hve
          have HCAP := Lib.hid hcap
          have HLS := Lib.hid (show Law w [tOwn (.slice (some ⟨g, 0, none⟩) P.length cp) (wOut Q P 0), tBox w.heap.size (.int .i64 n) (.int .i64 m) (.slice a xs.length cap)] w3 from HL3)
          clear hv hlo hglt hcap hb HL2 HL3 HOW HO2b
          go_wp2_with fail
          go_loopw [9] (fun i wr => ∃ (d t : Nat), Hid (d = 2 * t) ∧ t ≤ T ∧ i = .int .i64 d ∧ Hid (wOk n Q t = true) ∧ Law w [tOwn (.slice (some ⟨g, 0, none⟩) P.length cp) (wOut Q P t), tBox w.heap.size (.int .i64 n) (.int .i64 m) (.slice a xs.length cap)] wr) (fun i _ => Q.length - (intOf i).toNat)
          case atStart => exact ⟨0, 0, Lib.hid rfl, Nat.zero_le _, rfl, Lib.hid rfl, HLS.out⟩
          case round =>
            clear HLS
            obtain ⟨d, t, HD, ht, rfl, HOK, L⟩ := hrel
            have ⟨_, k0, k1, k2, _⟩ := L.tl.ownBox
            by_cases hlt : t < T
            · have hdl : d < Q.length := by have := HD.out; have := HT.out; omega
              have hdl1 : d + 1 < Q.length := by have := HD.out; have := HT.out; omega
              have hdI : (d : Int) < Q.length := by omega
              have hdI1 : (d : Int) + 1 < Q.length := by omega
              have hd0 : (0 : Int) ≤ d := by omega
              have hd12 : (d : Int) < 12 := by omega
              have hr4 := L.reads hr3
              obtain ⟨b, off, rfl, hb, hc⟩ := reads_row hr4 (by omega)
              have hc0 := hc d hdl
              have hc1 := hc (d + 1) hdl1
              have hst : wOut Q P (t + 1) = (wOut Q P t).set (Q.getD d 0).toNat (Q.getD (d + 1) 0) := by rw [wOut, HD.out]
              have hok : wOk n Q (t + 1) = inB 0 (Q.getD d 0) ((n : Int) - 1) := by rw [wOk, HOK.out, Bool.true_and, HD.out]
              have hno := HN1.out t
              rw [← HD.out] at hno
              clear hc hb hr4
              generalize Q.getD d 0 = y at *
              generalize Q.getD (d + 1) 0 = z at *
              obtain ⟨O2, ho2⟩ : ∃ O2, O2 = wOut Q P (t + 1) := ⟨_, rfl⟩
              rw [← ho2] at hst
              have HO2E := Lib.hid ho2
              clear ho2
              have hOl := wOut_len Q P t
              generalize wOut Q P t = O1 at *
              have HI := Lib.hid (fun W => l1In_any y 0 ((n : Int) - 1) W)
              have HLr := Lib.hid L
              cases hy : inB 0 y ((n : Int) - 1)
              · have HRN := Lib.hid (hno hy hlt)
                rw [hy] at HI
                clear hst hok hno hy L hOl
                go_wp2_with fail
                go_region_held3 (fun w' => w'.cell? ⟨b, off + d, none⟩ = some (.int .i64 y) ∧ w'.cell? ⟨w.heap.size, 0, none⟩ = some (.int .i64 n)) (first | (repeat' apply And.intro) <;> first | with_reducible assumption | assumption) ((first | (go_at_call 93; ((with_reducible refine (HI.out _).mono ?_); rintro e w' ⟨rfl, rfl⟩)) | fail))
                go_wp2_with fail
                go_ret2
                rw [HRN.out]
                exact ⟨_, rfl, Own.nil _ _, HLr.out.drew.below⟩
              · have hyy := inB_iff.1 hy
                obtain ⟨q, rfl⟩ := Int.eq_ofNat_of_zero_le hyy.1
                rw [hy] at HI
                rw [hy] at hok
                rw [Int.toNat_natCast] at hst
                have hqP : q < P.length := by have := HPN.out; omega
                have hqI : (q : Int) < P.length := by omega
                have hq0 : (0 : Int) ≤ q := by omega
                have oK := L.ownInts
                have y1 := Own.cell (by rw [hOl]; exact oK) q (by rw [hOl]; exact hqP)
                have y2 := Own.free (by rw [hOl]; exact oK) q
                have hS := Law.store (ts := []) L hOl q z
                rw [← hst] at hS
                have HS := Lib.hid hS.drew.drew
                have HOK2 := Lib.hid hok
                generalize O1.getD q 0 = x0 at *
                have c0 : wr.drew.cell? ⟨b, off + d, none⟩ = some (.int .i64 (q : Int)) := hc0
                have c1 : wr.drew.cell? ⟨b, off + (d + 1), none⟩ = some (.int .i64 z) := hc1
                have c2 : wr.drew.cell? ⟨g, q, none⟩ = some (.int .i64 x0) := y1
                have c3 : wr.drew.frozen? ⟨g, q, none⟩ = false := y2
                clear hno hy L hyy hok hst oK y1 y2 hS hc1 HLr hOl
                go_wp2_with fail
                go_region_held3 (fun w' => w'.cell? ⟨b, off + d, none⟩ = some (.int .i64 (q : Int)) ∧ w'.cell? ⟨w.heap.size, 0, none⟩ = some (.int .i64 n)) (first | (repeat' apply And.intro) <;> first | with_reducible assumption | assumption) ((first | (go_at_call 93; ((with_reducible refine (HI.out _).mono ?_); rintro e w' ⟨rfl, rfl⟩)) | fail))
                clear hc0 k0 k1 k2
                go_wp2_with fail
                go_region
                go_wp2_with fail
                go_roundw
                case rel => exact ⟨d + 2, t + 1, Lib.hid (by have := HD.out; omega), hlt, by go_num, HOK2, by rw [← HO2E.out]; exact HS.out⟩
                case measure => simp only [intOf]; omega
            · obtain rfl : t = T := by omega
              have hdd : d = Q.length := by have := HD.out; have := HT.out; omega
              have hdI : ¬ (d : Int) < Q.length := by omega
              have hOl := wOut_len Q P t
              have hO3 := HOX.out.kept L.below
              have hrd := L.ownInts
              have HN2' := Lib.hid (HN2.out HOK.out)
              have HN3' := Lib.hid (HN3.out HOK.out)
              have HY' := Lib.hid (HY.out HOK.out)
              generalize wOut Q P t = O1 at *
              obtain ⟨ga, gp, hge, hrd⟩ := hrd.reads
              rw [hOl] at hge
              injection hge with h1 h2 h3
              subst h1 h3
              have HPR := Lib.hid (HP.out wr O1 (some ⟨g, 0, none⟩) cp (by rw [hOl]; exact hp) (by rw [hOl]; exact HCAP.out) hO3 hrd)
              have HS1 := Lib.hid (fun W (h : Reads W (some ⟨g, 0, none⟩) O1.length O1) => HSZ.out (some ⟨g, 0, none⟩) cp O1 W (by rw [hOl]; exact hp) h)
              have HS2 := Lib.hid (fun W (h : Reads W a2 P.length P) => HSZ.out a2 p2 P W hp h)
              rw [hOl] at HPR HS1 hrd
              have HLr := Lib.hid L
              have HRD := Lib.hid hrd
              have HR2 := Lib.hid (L.reads hr2)
              clear hdd hO3 L hrd
              cases hpl : placeP n m xs O1
              · rw [hpl] at HPR
                have HRN := Lib.hid (HN2'.out hpl)
                clear hpl
                go_wp2_with fail
                refine HPR.out.mono ?_
                rintro e w4 ⟨rfl, hb⟩
                have HB := Lib.hid (HLr.out.kept hb).below
                clear hb k0 k1 k2
                go_wp2_with fail
                go_ret2
                rw [HRN.out]
                exact ⟨_, rfl, Own.nil _ _, HB.out⟩
              · rw [hpl] at HPR
                have HN3'' := Lib.hid (HN3'.out hpl)
                have HY'' := Lib.hid (HY'.out hpl)
                have hc1 := rcnt_le O1
                have hc2 := rcnt_le P
                clear hpl
                generalize rcnt O1 = z1 at *
                generalize rcnt P = z2 at *
                by_cases hzz : z2 < z1
                · have HRN := Lib.hid (HY''.out hzz)
                  have hzI : ¬ ((z1 : Int) ≤ z2) := by omega
                  clear hzz hc1 hc2
                  go_wp2_with fail
                  refine HPR.out.mono ?_
                  rintro e w4 ⟨rfl, hb⟩
                  have HL4 := Lib.hid (HLr.out.kept hb)
                  have hrd := HRD.out.kept hb
                  have hr2 := HR2.out.kept hb
                  have HRa := Lib.hid hrd
                  have HRb := Lib.hid hr2
                  clear hb k0 k1 k2 hrd hr2
                  go_wp2_with fail
                  refine (HS1.out _ HRa.out).mono ?_
                  rintro e w5 ⟨rfl, hw⟩
                  subst w5
                  go_wp2_with fail
                  refine (HS2.out _ HRb.out).mono ?_
                  rintro e w5 ⟨rfl, hw⟩
                  subst w5
                  go_wp2_with fail
                  go_ret2
                  rw [HRN.out]
                  exact ⟨_, rfl, HL4.out.ownLo, HL4.out.below⟩
                · have HRN := Lib.hid (HN3''.out hzz)
                  have hzI : (z1 : Int) ≤ z2 := by omega
                  clear hzz hc1 hc2
                  go_wp2_with fail
                  refine HPR.out.mono ?_
                  rintro e w4 ⟨rfl, hb⟩
                  have HL4 := Lib.hid (HLr.out.kept hb)
                  have hrd := HRD.out.kept hb
                  have hr2 := HR2.out.kept hb
                  have HRa := Lib.hid hrd
                  have HRb := Lib.hid hr2
                  clear hb k0 k1 k2 hrd hr2
                  go_wp2_with fail
                  refine (HS1.out _ HRa.out).mono ?_
                  rintro e w5 ⟨rfl, hw⟩
                  subst w5
                  go_wp2_with fail
                  refine (HS2.out _ HRb.out).mono ?_
                  rintro e w5 ⟨rfl, hw⟩
                  subst w5
                  go_wp2_with fail
                  go_ret2
                  rw [HRN.out]
                  exact ⟨_, rfl, Own.nil _ _, HL4.out.below⟩

end Go.Proofs.Ytdimbnkgomfojab
