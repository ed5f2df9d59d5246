/- Queens on boards and on tori, in both texts. No condition but the sizes. -/
import Derived.Test.YtmhlpaenfknofaaUd
import Derived.Deep.RegionWith
import Derived.Deep.RegionHeld3
namespace Go.Proofs.Ytmhlpaenfknofaa
open Go.RowKit Go.WideShapes

theorem own_form {w : World} {lo : Nat} {v : Value} {xs : List Int} (hO : Own w lo v xs) : ∃ a cap, v = .slice a xs.length cap ∧ Reads w a xs.length xs ∧ xs.length ≤ cap := by
  obtain ⟨a, cap, hv, hr⟩ := hO.reads
  refine ⟨a, cap, hv, hr, ?_⟩
  rcases hO.cases with ⟨e, e2⟩ | ⟨g, cp, e, _, _, h1, h2⟩
  · rw [hv] at e
    injection e with _ _ e
    subst e e2
    simp
  · rw [hv] at e
    injection e with _ _ e
    subst e
    exact h1
theorem ownM_shapeQ {W : World} {lo : Nat} {v : Value} {vs : List Value} {cs : List (List Int)} (h : OwnM W lo v vs cs) : ∃ a cap, v = .slice a cs.length cap := by
  have hl := h.len
  rcases h.cases with ⟨rfl, rfl⟩ | ⟨g, cp, rfl, _⟩
  · exact ⟨none, 0, by rw [hl]; rfl⟩
  · exact ⟨_, cp, by rw [hl]⟩
theorem gd_F {xs : List Int} (h : gdB xs = true) : ∀ k, k < 8 → 0 ≤ cF xs k ∧ cF xs k < 8 := by
  intro k _
  by_cases hk : k < xs.length
  · have h1 := gd_at h k hk
    have h2 := (gd_facts h).2.1
    unfold cF
    omega
  · have : cF xs k = 0 := by unfold cF; rw [List.getD_eq_getElem?_getD, List.getElem?_eq_none (by omega)]; rfl
    omega
theorem ret_bb {a b : Bool} {v : Value} (h : a = b) : Ending.returned (.tuple #[.bool a, v]) = Ending.returned (.tuple #[.bool b, v]) := by rw [h]
theorem isEmpty_len {α : Type} (l : List α) : ((l.length : Int) == 0) = decide (l = []) := by
  cases l with
  | nil => rfl
  | cons x t =>
    rw [List.length_cons]
    have h1 : (((t.length + 1 : Nat) : Int) == 0) = false := by rw [beq_eq_false_iff_ne]; omega
    rw [h1]
    simp

set_option maxHeartbeats 3200000 in
theorem quGood_any (a : Option Addr) (cap : Nat) (xs : List Int) (w : World) (hx : xs.length ≤ 1048576) (hcap : xs.length ≤ cap) (hr : Reads w a xs.length xs) :
    Calls Try.prog 46 #[.slice a xs.length cap] w fun e w' => e = .returned (.bool (gdB xs)) ∧ w = w' := by
  have HI := Lib.hid (l1In_any xs.length 1 8 w)
  by_cases hq : 1 ≤ (xs.length : Int) ∧ (xs.length : Int) ≤ 8
  · rw [inB_yes hq.1 hq.2] at HI
    cases h2 : within 0 ((xs.length : Int) - 1) xs
    · have HA := Lib.hid (at_boolV (l1All_any a cap xs 0 ((xs.length : Int) - 1) w hx hr) h2)
      have HD := Lib.hid (show gdB xs = false by simp [gdB, inN, h2])
      clear h2 hr
      generalize xs.length = m at *
      go_enter Try.func46, Try.ntmps46
      go_wp2_with (first | (go_at_call 69; ((with_reducible refine HI.out.mono ?_); rintro e w' ⟨rfl, rfl⟩)) | (go_at_call 58; ((with_reducible refine HA.out.mono ?_); rintro e w' ⟨rfl, rfl⟩)))
      go_ret
      exact ⟨ret_bool HD.out.symm, rfl⟩
    · have HA := Lib.hid (at_boolV (l1All_any a cap xs 0 ((xs.length : Int) - 1) w hx hr) h2)
      have HW := Lib.hid h2
      clear h2
      go_enter Try.func46, Try.ntmps46
      go_wp2_with (first | (go_at_call 69; ((with_reducible refine HI.out.mono ?_); rintro e w' ⟨rfl, rfl⟩)) | (go_at_call 58; ((with_reducible refine HA.out.mono ?_); rintro e w' ⟨rfl, rfl⟩)))
      go_loop [19] (fun i => ∃ k : Nat, k ≤ xs.length ∧ i = .int .i64 k ∧ Hid ((xs.take k).Nodup)) (fun i => xs.length - (intOf i).toNat)
      case atStart => exact ⟨0, Nat.zero_le _, rfl, Lib.hid (by simp)⟩
      case round =>
        obtain ⟨k, hk, rfl, HE⟩ := hrel
        by_cases hlt : k < xs.length
        · have hrt := hr.takeO k hk
          have hkl : (xs.take k).length = k := by simp; omega
          rw [hkl] at hrt
          obtain ⟨b, off, rfl, hb, hc⟩ := reads_row hr (by omega)
          have hck := hc k hlt
          have hkc : k ≤ cap := by omega
          clear hc
          by_cases hm : xs.getD k 0 ∈ xs.take k
          · have HC := Lib.hid (at_boolV (l1HasO_any (some ⟨b, off, none⟩) cap (xs.take k) (xs.getD k 0) w (by omega) (by rw [hkl]; exact hrt)) (show hasL (xs.take k) (xs.getD k 0) = true by unfold hasL; rw [decide_eq_true_eq]; exact hm))
            have HD := Lib.hid (show gdB xs = false by simp [gdB, inN, nodup_no xs k hlt hm])
            rw [hkl] at HC
            clear hkl hrt hm
            generalize xs.getD k 0 = x at *
            go_wp2_with (go_at_call 59; ((with_reducible refine HC.out.mono ?_); rintro e w' ⟨rfl, rfl⟩))
            go_ret
            exact ⟨ret_bool HD.out.symm, rfl⟩
          · have HC := Lib.hid (at_boolV (l1HasO_any (some ⟨b, off, none⟩) cap (xs.take k) (xs.getD k 0) w (by omega) (by rw [hkl]; exact hrt)) (show hasL (xs.take k) (xs.getD k 0) = false by unfold hasL; rw [decide_eq_false_iff_not]; exact hm))
            have HN := Lib.hid (nodup_step xs k hlt HE.out hm)
            rw [hkl] at HC
            clear hkl hrt hm
            generalize xs.getD k 0 = x at *
            go_wp2_with (go_at_call 59; ((with_reducible refine HC.out.mono ?_); rintro e w' ⟨rfl, rfl⟩))
            go_round
            case rel => exact ⟨k + 1, by omega, by go_num, HN⟩
            case measure => simp [intOf]; omega
        · obtain rfl : k = xs.length := by omega
          have HD := Lib.hid (show gdB xs = true by
            have := HE.out
            rw [List.take_length] at this
            simp [gdB, inN, HW.out, this, hq])
          go_wp2_with fail
          go_ret
          exact ⟨ret_bool HD.out.symm, rfl⟩
  · rw [inB_no hq] at HI
    have HD := Lib.hid (show gdB xs = false by simp [gdB, hq])
    clear hq hr
    generalize xs.length = m at *
    go_enter Try.func46, Try.ntmps46
    go_wp2_with (go_at_call 69; ((with_reducible refine HI.out.mono ?_); rintro e w' ⟨rfl, rfl⟩))
    go_ret
    exact ⟨ret_bool HD.out.symm, rfl⟩
theorem quSide_any (n : Int) (w : World) : Calls Try.prog 53 #[.int .i64 n] w fun e w' => e = .returned (.bool (inB 1 n 8)) ∧ w = w' := by
  have HI := Lib.hid (l1In_any n 1 8 w)
  generalize inB 1 n 8 = b at *
  go_enter Try.func53, Try.ntmps53
  go_wp2_with (go_at_call 69; ((with_reducible refine HI.out.mono ?_); rintro e w' ⟨rfl, rfl⟩))
  go_ret
  exact ⟨rfl, rfl⟩
theorem torus_sum (n : Int) (xs : List Int) (r s : Nat) : attP (tQ n) xs r s = (((s : Int) - r + xs.getD s 0 - xs.getD r 0).tmod n == 0 || ((s : Int) - r - xs.getD s 0 + xs.getD r 0).tmod n == 0) := by
  unfold attP tQ
  rw [show (s : Int) - r + (xs.getD s 0 - xs.getD r 0) = (s : Int) - r + xs.getD s 0 - xs.getD r 0 by omega, show (s : Int) - r - (xs.getD s 0 - xs.getD r 0) = (s : Int) - r - xs.getD s 0 + xs.getD r 0 by omega]
theorem meets_some (P : Nat → Nat → Bool) (c r s : Nat) (h1 : r < s) (h2 : s < c) (h : P r s = true) : decide (meets P c c = []) = false := by
  rw [decide_eq_false_iff_not]
  intro e
  have := (meets_nil P c).1 e r s h1 h2
  rw [h] at this
  cases this
set_option maxRecDepth 100000 in
set_option maxHeartbeats 6400000 in
theorem quTorus_any (a : Option Addr) (cap : Nat) (xs : List Int) (w : World) (hg : gdB xs = true) (hr : Reads w a xs.length xs) :
    Calls Try.prog 51 #[.slice a xs.length cap] w fun e w' => e = .returned (.bool (decide (meets (attP (tQ xs.length) xs) xs.length xs.length = []))) ∧ w = w' := by
  obtain ⟨c1, c8, _, _⟩ := gd_facts hg
  have HF := Lib.hid (gd_at hg)
  have HR := Lib.hid hr
  have HP := Lib.hid (fun r s => torus_sum xs.length xs r s)
  clear hg hr
  generalize attP (tQ xs.length) xs = P at *
  have HS := Lib.hid (fun r s h1 h2 h => meets_some P xs.length r s h1 h2 h)
  have HU := Lib.hid (meets_succ P xs.length)
  have HV := Lib.hid (fun r s h => rowP_succ P r s h)
  have HFI := Lib.hid (fun r => rowP_first P r (r + 1) (Nat.le_refl _))
  obtain ⟨c, hcl⟩ : ∃ c, c = xs.length := ⟨_, rfl⟩
  rw [← hcl] at c1 c8 HR HF HP HS HU ⊢
  clear hcl
  go_enter Try.func51, Try.ntmps51
  go_wp2_with fail
  go_loop [6, 11] (fun _ i => ∃ r : Nat, r ≤ c ∧ i = .int .i64 r ∧ Hid (meets P c r = [])) (fun _ i => c - (intOf i).toNat)
  case atStart => exact ⟨0, Nat.zero_le _, rfl, Lib.hid rfl⟩
  case round =>
    obtain ⟨r, hrc, rfl, HE⟩ := hrel
    by_cases hlt : r < c
    · obtain ⟨b, off, rfl, hb, hcx⟩ := reads_row HR.out (by omega)
      have hck := hcx r hlt
      have hfr := HF.out r hlt
      have HPR := Lib.hid (HP.out r)
      have HCX := Lib.hid hcx
      clear hcx hb
      generalize xs.getD r 0 = x at *
      go_wp2_with fail
      clear hck
      go_loop [6] (fun i => ∃ s : Nat, r + 1 ≤ s ∧ s ≤ c ∧ i = .int .i64 s ∧ Hid (rowP P r s = [])) (fun i => c - (intOf i).toNat)
      case atStart => exact ⟨r + 1, Nat.le_refl _, by omega, by go_num, Lib.hid (HFI.out r)⟩
      case round =>
        obtain ⟨s, hs1, hs2, rfl, HE2⟩ := hrel
        by_cases hsc : s < c
        · have hcs := HCX.out s hsc
          have hfs := HF.out s hsc
          have HPS := Lib.hid (HPR.out s)
          generalize xs.getD s 0 = y at *
          have w1 : wrap64 ((s : Int) - r) = (s : Int) - r := IntWalk.wrap64_in _ (by omega)
          have w2 : wrap64 ((s : Int) - r + y) = (s : Int) - r + y := IntWalk.wrap64_in _ (by omega)
          have w3 : wrap64 ((s : Int) - r + y - x) = (s : Int) - r + y - x := IntWalk.wrap64_in _ (by omega)
          have w4 : wrap64 ((s : Int) - r - y) = (s : Int) - r - y := IntWalk.wrap64_in _ (by omega)
          have w5 : wrap64 ((s : Int) - r - y + x) = (s : Int) - r - y + x := IntWalk.wrap64_in _ (by omega)
          have hc0 : ((c : Int) == 0) = false := by rw [beq_eq_false_iff_ne]; omega
          cases k1 : (((s : Int) - r + y - x).tmod c == 0)
          · cases k2 : (((s : Int) - r - y + x).tmod c == 0)
            · have HN := Lib.hid (show rowP P r (s + 1) = [] by rw [HV.out r s (by omega), HE2.out, HPS.out, k1, k2]; rfl)
              go_wp2_with fail
              clear hcs
              go_round
              case rel => exact ⟨s + 1, by omega, by omega, by go_num, HN⟩
              case measure => simp [intOf]; omega
            · have HD := Lib.hid (HS.out r s (by omega) hsc (by rw [HPS.out, k1, k2]; rfl))
              go_wp2_with fail
              go_ret
              exact ⟨ret_bool HD.out.symm, rfl⟩
          · have HD := Lib.hid (HS.out r s (by omega) hsc (by rw [HPS.out, k1]; rfl))
            go_wp2_with fail
            go_ret
            exact ⟨ret_bool HD.out.symm, rfl⟩
        · obtain rfl : s = c := by omega
          have HN := Lib.hid (show meets P s (r + 1) = [] by rw [HU.out, HE.out, HE2.out]; rfl)
          go_wp2_with fail
          go_round
          case rel => exact ⟨r + 1, by omega, by go_num, HN⟩
          case measure => simp [intOf]; omega
    · obtain rfl : r = c := by omega
      have HD := Lib.hid (show decide (meets P r r = []) = true by rw [decide_eq_true_eq]; exact HE.out)
      go_wp2_with fail
      go_ret
      exact ⟨ret_bool HD.out.symm, rfl⟩
/-- The answers. -/
def areQuR (xs : List Int) : R2 := if gdB xs then ⟨decide (meets (attP bQ xs) xs.length xs.length = []), true⟩ else ⟨false, false⟩
def attacksR (xs : List Int) : MR := if gdB xs then ⟨meets (attP bQ xs) xs.length xs.length, true⟩ else ⟨[], false⟩
def onTorR (xs : List Int) : R2 := if gdB xs then ⟨decide (meets (attP (tQ xs.length) xs) xs.length xs.length = []), true⟩ else ⟨false, false⟩
theorem attacksR_len (xs : List Int) : (attacksR xs).zz.length ≤ 1048576 := by
  unfold attacksR
  cases h : gdB xs
  · simp
  · have := meets_eight (attP bQ xs) xs.length xs.length (gd_facts h).2.1 (gd_facts h).2.1
    simp
    omega
theorem meets_spec (xs : List Int) : meets (absP xs) xs.length xs.length = meets (attP bQ xs) xs.length xs.length :=
  meets_congr _ _ _ _ (fun r s h _ => absP_att xs r s h)
set_option maxRecDepth 100000 in
set_option maxHeartbeats 3200000 in
theorem specAreQ_any (xs : List Int) (w : World) (hx : xs.length ≤ 1048576) (lo : Nat) (s : Value) (hO : Own w lo s xs) :
    Calls Try.prog 15 #[s] w fun e w' => AnsOO (areQuR xs) w e w' := by
  obtain ⟨a, cap, rfl, hr, hcap⟩ := own_form hO
  have HG := Lib.hid (quGood_any a cap xs w hx hcap hr)
  clear hO hcap
  cases hg : gdB xs
  · rw [show areQuR xs = ⟨false, false⟩ by simp [areQuR, hg]]
    rw [hg] at HG
    clear hg hr
    generalize xs.length = m at *
    go_enter Try.func15, Try.ntmps15
    go_wp2_with (go_at_call 46; ((with_reducible refine HG.out.mono ?_); rintro e w' ⟨rfl, rfl⟩))
    go_ret2
    exact ⟨rfl, Below.refl _ _⟩
  · rw [show areQuR xs = ⟨decide (meets (attP bQ xs) xs.length xs.length = []), true⟩ by simp [areQuR, hg]]
    have HT := Lib.hid (quAttacks_any a cap xs w (gd_facts hg).2.1 (fun x hx => by have h1 := (gd_facts hg).2.2.1 x hx; have h2 := (gd_facts hg).2.1; omega) hr)
    rw [meets_spec] at HT
    rw [hg] at HG
    clear hg hr
    generalize meets (attP bQ xs) xs.length xs.length = L at *
    generalize xs.length = m at *
    go_enter Try.func15, Try.ntmps15
    go_wp2_with (first | (go_at_call 46; ((with_reducible refine HG.out.mono ?_); rintro e w' ⟨rfl, rfl⟩)) | fail)
    refine HT.out.mono ?_
    rintro e w2 ⟨v, vs, rfl, hM, hb⟩
    obtain ⟨av, pv, rfl⟩ := ownM_shapeQ hM
    have HM := Lib.hid hM
    have HB := Lib.hid hb
    clear hM hb HT
    go_wp2_with fail
    go_ret2
    exact ⟨ret_bb (isEmpty_len L), HB.out⟩
set_option maxRecDepth 100000 in
set_option maxHeartbeats 3200000 in
theorem implAreQ_any (xs : List Int) (w : World) (hx : xs.length ≤ 1048576) (lo : Nat) (s : Value) (hO : Own w lo s xs) :
    Calls Try.prog 17 #[s] w fun e w' => AnsOO (areQuR xs) w e w' := by
  obtain ⟨a, cap, rfl, hr, hcap⟩ := own_form hO
  have HC := Lib.hid (fullOf_any a cap xs w hx hcap hr)
  clear hO hcap hr
  cases hg : gdB xs
  · rw [show areQuR xs = ⟨false, false⟩ by simp [areQuR, hg]]
    rw [linV_no (by rw [lin_full]; exact hg)] at HC
    clear hg
    generalize xs.length = m at *
    go_enter Try.func17, Try.ntmps17
    go_wp2_with fail
    refine HC.out.mono ?_
    rintro e w2 ⟨rfl, hb⟩
    have HL := Lib.hid (((Law.start w).kept hb).kept (below_new (.cells #[.int .i64 0, .int .i64 0, .int .i64 0, .int .i64 0, .int .i64 0, .int .i64 0, .int .i64 0, .int .i64 0, .int .i64 0] 46)))
    clear hb HC
    go_upto_region 2 with fail
    generalize w2.alloc _ = w3 at *
    go_wp2_with fail
    go_ret2
    exact ⟨rfl, HL.out.below⟩
  · rw [show areQuR xs = ⟨decide (meets (attP bQ xs) xs.length xs.length = []), true⟩ by simp [areQuR, hg]]
    rw [linV_yes (by rw [lin_full]; exact hg)] at HC
    have HMT := Lib.hid (fun W => meetings_any xs.length (cF xs) (gd_facts hg).2.1 (gd_F hg) 50 #[] _ bQ bishop_moveV W trivial)
    rw [show (fun (r s : Nat) => bQ ((s : Int) - r) (cF xs s - cF xs r)) = attP bQ xs from rfl] at HMT
    generalize meets (attP bQ xs) xs.length xs.length = L at *
    clear hg
    generalize cF xs = F at *
    generalize xs.length = m at *
    go_enter Try.func17, Try.ntmps17
    go_wp2_with fail
    refine HC.out.mono ?_
    rintro e w2 ⟨rfl, hb⟩
    have HL := Lib.hid (((Law.start w).kept hb).has (ql m F) 46)
    rw [show w2.alloc (.cells (ql m F).toArray 46) = w2.alloc (.cells #[.int .i64 m, .int .i64 (F 0), .int .i64 (F 1), .int .i64 (F 2), .int .i64 (F 3), .int .i64 (F 4), .int .i64 (F 5), .int .i64 (F 6), .int .i64 (F 7)] 46) from rfl] at HL
    clear hb HC
    go_upto_region 2 with fail
    generalize w2.alloc _ = w3 at *
    obtain ⟨f0, f1, f2, f3, f4, f5, f6, f7, f8, _⟩ := ql_held HL.out.ownHas
    go_wp2_with fail
    refine (HMT.out _).mono ?_
    rintro e w5 ⟨v, vs, rfl, hM, hb⟩
    obtain ⟨av, pv, rfl⟩ := ownM_shapeQ hM
    have HL5 := Lib.hid (HL.out.tl.addM (below_on (Below.refl _ _) hb) hM)
    clear hM hb f0 f1 f2 f3 f4 f5 f6 f7 f8 HL HMT
    go_wp2_with fail
    go_ret2
    exact ⟨ret_bb (isEmpty_len L), HL5.out.below⟩
set_option maxRecDepth 100000 in
set_option maxHeartbeats 3200000 in
theorem specAtt_any (xs : List Int) (w : World) (hx : xs.length ≤ 1048576) (lo : Nat) (s : Value) (hO : Own w lo s xs) :
    Calls Try.prog 19 #[s] w fun e w' => AnsM (attacksR xs) w e w' := by
  obtain ⟨a, cap, rfl, hr, hcap⟩ := own_form hO
  have HG := Lib.hid (quGood_any a cap xs w hx hcap hr)
  clear hO hcap
  cases hg : gdB xs
  · rw [show attacksR xs = ⟨[], false⟩ by simp [attacksR, hg]]
    rw [hg] at HG
    clear hg hr
    generalize xs.length = m at *
    go_enter Try.func19, Try.ntmps19
    go_wp2_with (go_at_call 46; ((with_reducible refine HG.out.mono ?_); rintro e w' ⟨rfl, rfl⟩))
    go_ret2
    exact ⟨_, _, rfl, OwnM.nil _ _, Below.refl _ _⟩
  · rw [show attacksR xs = ⟨meets (attP bQ xs) xs.length xs.length, true⟩ by simp [attacksR, hg]]
    have HT := Lib.hid (quAttacks_any a cap xs w (gd_facts hg).2.1 (fun x hx => by have h1 := (gd_facts hg).2.2.1 x hx; have h2 := (gd_facts hg).2.1; omega) hr)
    rw [meets_spec] at HT
    rw [hg] at HG
    clear hg hr
    generalize meets (attP bQ xs) xs.length xs.length = L at *
    generalize xs.length = m at *
    go_enter Try.func19, Try.ntmps19
    go_wp2_with (first | (go_at_call 46; ((with_reducible refine HG.out.mono ?_); rintro e w' ⟨rfl, rfl⟩)) | fail)
    refine HT.out.mono ?_
    rintro e w2 ⟨v, vs, rfl, hM, hb⟩
    obtain ⟨av, pv, rfl⟩ := ownM_shapeQ hM
    have HM := Lib.hid hM
    have HB := Lib.hid hb
    clear hM hb HT
    go_wp2_with fail
    go_ret2
    exact ⟨_, vs, rfl, HM.out, HB.out⟩
set_option maxRecDepth 100000 in
set_option maxHeartbeats 3200000 in
theorem implAtt_any (xs : List Int) (w : World) (hx : xs.length ≤ 1048576) (lo : Nat) (s : Value) (hO : Own w lo s xs) :
    Calls Try.prog 20 #[s] w fun e w' => AnsM (attacksR xs) w e w' := by
  obtain ⟨a, cap, rfl, hr, hcap⟩ := own_form hO
  have HC := Lib.hid (fullOf_any a cap xs w hx hcap hr)
  clear hO hcap hr
  cases hg : gdB xs
  · rw [show attacksR xs = ⟨[], false⟩ by simp [attacksR, hg]]
    rw [linV_no (by rw [lin_full]; exact hg)] at HC
    clear hg
    generalize xs.length = m at *
    go_enter Try.func20, Try.ntmps20
    go_wp2_with fail
    refine HC.out.mono ?_
    rintro e w2 ⟨rfl, hb⟩
    have HL := Lib.hid (((Law.start w).kept hb).kept (below_new (.cells #[.int .i64 0, .int .i64 0, .int .i64 0, .int .i64 0, .int .i64 0, .int .i64 0, .int .i64 0, .int .i64 0, .int .i64 0] 46)))
    clear hb HC
    go_upto_region 2 with fail
    generalize w2.alloc _ = w3 at *
    go_wp2_with fail
    go_ret2
    exact ⟨_, _, rfl, OwnM.nil _ _, HL.out.below⟩
  · rw [show attacksR xs = ⟨meets (attP bQ xs) xs.length xs.length, true⟩ by simp [attacksR, hg]]
    rw [linV_yes (by rw [lin_full]; exact hg)] at HC
    have HMT := Lib.hid (fun W => meetings_any xs.length (cF xs) (gd_facts hg).2.1 (gd_F hg) 50 #[] _ bQ bishop_moveV W trivial)
    rw [show (fun (r s : Nat) => bQ ((s : Int) - r) (cF xs s - cF xs r)) = attP bQ xs from rfl] at HMT
    generalize meets (attP bQ xs) xs.length xs.length = L at *
    clear hg
    generalize cF xs = F at *
    generalize xs.length = m at *
    go_enter Try.func20, Try.ntmps20
    go_wp2_with fail
    refine HC.out.mono ?_
    rintro e w2 ⟨rfl, hb⟩
    have HL := Lib.hid (((Law.start w).kept hb).has (ql m F) 46)
    rw [show w2.alloc (.cells (ql m F).toArray 46) = w2.alloc (.cells #[.int .i64 m, .int .i64 (F 0), .int .i64 (F 1), .int .i64 (F 2), .int .i64 (F 3), .int .i64 (F 4), .int .i64 (F 5), .int .i64 (F 6), .int .i64 (F 7)] 46) from rfl] at HL
    clear hb HC
    go_upto_region 2 with fail
    generalize w2.alloc _ = w3 at *
    obtain ⟨f0, f1, f2, f3, f4, f5, f6, f7, f8, _⟩ := ql_held HL.out.ownHas
    go_wp2_with fail
    refine (HMT.out _).mono ?_
    rintro e w5 ⟨v, vs, rfl, hM, hb⟩
    obtain ⟨av, pv, rfl⟩ := ownM_shapeQ hM
    have HL5 := Lib.hid (HL.out.tl.addM (below_on (Below.refl _ _) hb) hM)
    clear hM hb f0 f1 f2 f3 f4 f5 f6 f7 f8 HL HMT
    go_wp2_with fail
    go_ret2
    exact ⟨_, vs, rfl, HL5.out.ownMLo, HL5.out.below⟩
set_option maxRecDepth 100000 in
set_option maxHeartbeats 3200000 in
theorem specTor_any (xs : List Int) (w : World) (hx : xs.length ≤ 1048576) (lo : Nat) (s : Value) (hO : Own w lo s xs) :
    Calls Try.prog 25 #[s] w fun e w' => AnsOO (onTorR xs) w e w' := by
  obtain ⟨a, cap, rfl, hr, hcap⟩ := own_form hO
  have HG := Lib.hid (quGood_any a cap xs w hx hcap hr)
  clear hO hcap
  cases hg : gdB xs
  · rw [show onTorR xs = ⟨false, false⟩ by simp [onTorR, hg]]
    rw [hg] at HG
    clear hg hr
    generalize xs.length = m at *
    go_enter Try.func25, Try.ntmps25
    go_wp2_with (go_at_call 46; ((with_reducible refine HG.out.mono ?_); rintro e w' ⟨rfl, rfl⟩))
    go_ret2
    exact ⟨rfl, Below.refl _ _⟩
  · rw [show onTorR xs = ⟨decide (meets (attP (tQ xs.length) xs) xs.length xs.length = []), true⟩ by simp [onTorR, hg]]
    have HT := Lib.hid (quTorus_any a cap xs w hg hr)
    rw [hg] at HG
    clear hg hr
    generalize decide (meets (attP (tQ xs.length) xs) xs.length xs.length = []) = y at *
    generalize xs.length = m at *
    go_enter Try.func25, Try.ntmps25
    go_wp2_with (first | (go_at_call 46; ((with_reducible refine HG.out.mono ?_); rintro e w' ⟨rfl, rfl⟩)) | (go_at_call 51; ((with_reducible refine HT.out.mono ?_); rintro e w' ⟨rfl, rfl⟩)))
    go_ret2
    exact ⟨rfl, Below.refl _ _⟩
set_option maxRecDepth 100000 in
set_option maxHeartbeats 3200000 in
theorem implTor_any (xs : List Int) (w : World) (hx : xs.length ≤ 1048576) (lo : Nat) (s : Value) (hO : Own w lo s xs) :
    Calls Try.prog 26 #[s] w fun e w' => AnsOO (onTorR xs) w e w' := by
  obtain ⟨a, cap, rfl, hr, hcap⟩ := own_form hO
  have HC := Lib.hid (fullOf_any a cap xs w hx hcap hr)
  clear hO hcap hr
  cases hg : gdB xs
  · rw [show onTorR xs = ⟨false, false⟩ by simp [onTorR, hg]]
    rw [linV_no (by rw [lin_full]; exact hg)] at HC
    clear hg
    generalize xs.length = m at *
    go_enter Try.func26, Try.ntmps26
    go_wp2_with fail
    refine HC.out.mono ?_
    rintro e w2 ⟨rfl, hb⟩
    have HL := Lib.hid (((Law.start w).kept hb).kept (below_new (.cells #[.int .i64 0, .int .i64 0, .int .i64 0, .int .i64 0, .int .i64 0, .int .i64 0, .int .i64 0, .int .i64 0, .int .i64 0] 46)))
    clear hb HC
    go_upto_region 2 with fail
    generalize w2.alloc _ = w3 at *
    go_quiet (fail)
    have HB2 := Lib.hid (below_drewN HL.out.below nq)
    go_wp2_with fail
    go_ret2
    exact ⟨rfl, HB2.out⟩
  · rw [show onTorR xs = ⟨decide (meets (attP (tQ xs.length) xs) xs.length xs.length = []), true⟩ by simp [onTorR, hg]]
    rw [linV_yes (by rw [lin_full]; exact hg)] at HC
    have HMT := Lib.hid (fun (g : Nat) (W : World) (h : W.cell? ⟨g, 0, none⟩ = some (.int .i64 xs.length)) => meetings_any xs.length (cF xs) (gd_facts hg).2.1 (gd_F hg) 72 #[.pointer (some ⟨g, 0, none⟩)] _ (tQ xs.length) (torus_moveV xs.length ⟨(gd_facts hg).1, (gd_facts hg).2.1⟩ g) W h)
    rw [show (fun (r s : Nat) => tQ xs.length ((s : Int) - r) (cF xs s - cF xs r)) = attP (tQ xs.length) xs from rfl] at HMT
    generalize meets (attP (tQ xs.length) xs) xs.length xs.length = L at *
    clear hg
    generalize cF xs = F at *
    generalize xs.length = m at *
    go_enter Try.func26, Try.ntmps26
    go_wp2_with fail
    refine HC.out.mono ?_
    rintro e w2 ⟨rfl, hb⟩
    have HL := Lib.hid (((Law.start w).kept hb).has (ql m F) 46)
    rw [show w2.alloc (.cells (ql m F).toArray 46) = w2.alloc (.cells #[.int .i64 m, .int .i64 (F 0), .int .i64 (F 1), .int .i64 (F 2), .int .i64 (F 3), .int .i64 (F 4), .int .i64 (F 5), .int .i64 (F 6), .int .i64 (F 7)] 46) from rfl] at HL
    clear hb HC
    go_upto_region 2 with fail
    generalize w2.alloc _ = w3 at *
    obtain ⟨f0, f1, f2, f3, f4, f5, f6, f7, f8, _⟩ := ql_held HL.out.ownHas
    go_region_with (first
      | (go_at_call 52; ((with_reducible refine (torusMove_any _ _).mono ?_); rintro e wA ⟨rfl, hcA, hbA⟩; have HLA := Lib.hid (HL.out.drew.kept hbA); have HCA := Lib.hid (show wA.cell? ⟨w3.heap.size, 0, none⟩ = some (.int .i64 m) from hcA); replace f0 := cell_later hbA f0; replace f1 := cell_later hbA f1; replace f2 := cell_later hbA f2; replace f3 := cell_later hbA f3; replace f4 := cell_later hbA f4; replace f5 := cell_later hbA f5; replace f6 := cell_later hbA f6; replace f7 := cell_later hbA f7; replace f8 := cell_later hbA f8; clear hbA hcA))
      | (go_at_call 49; ((with_reducible refine (HMT.out _ _ HCA.out).mono ?_); rintro e w5 ⟨v, vs, rfl, hM, hbM⟩; obtain ⟨av, pv, rfl⟩ := ownM_shapeQ hM; have HL5 := Lib.hid (HLA.out.tl.addM (below_on (Below.refl _ _) hbM) hM); clear hM hbM f0 f1 f2 f3 f4 f5 f6 f7 f8))
      | fail)
    all_goals
      go_wp2_with fail
      go_ret2
      exact ⟨ret_bb (isEmpty_len L), HL5.out.below⟩

end Go.Proofs.Ytmhlpaenfknofaa
