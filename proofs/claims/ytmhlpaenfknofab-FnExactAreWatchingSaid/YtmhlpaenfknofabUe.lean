/- Queens on boards and on tori, in both texts. No condition but the sizes. -/
import Derived.Test.YtmhlpaenfknofabUd
import Derived.Deep.RegionWith
import Derived.Deep.RegionHeld3
namespace Go.Proofs.Ytmhlpaenfknofab
open Go.RowKit Go.WideShapes

theorem own_form {w : World} {lo : Nat} {v : Value} {xs : List Int} (hO : Own w lo v xs) : ∃ a cap, v = .slice a xs.length cap ∧ Reads w a xs.length xs ∧ xs.length ≤ cap := by
  obtain ⟨a, cap, hv, hr⟩ := hO.reads
  refine ⟨a, cap, hv, hr, ?_⟩
  rcases hO.cases with ⟨e, e2⟩ | ⟨g, cp, e, _, _, h1, h2⟩
  · rw [hv] at e
    injection e with _ _ e
    subst e e2
    simp
  · rw [hv] at e
    injection e with _ _ e
    subst e
    exact h1
theorem ownM_shapeQ {W : World} {lo : Nat} {v : Value} {vs : List Value} {cs : List (List Int)} (h : OwnM W lo v vs cs) : ∃ a cap, v = .slice a cs.length cap := by
  have hl := h.len
  rcases h.cases with ⟨rfl, rfl⟩ | ⟨g, cp, rfl, _⟩
  · exact ⟨none, 0, by rw [hl]; rfl⟩
  · exact ⟨_, cp, by rw [hl]⟩
theorem gd_F {xs : List Int} (h : gdB xs = true) : ∀ k, k < 8 → 0 ≤ cF xs k ∧ cF xs k < 8 := by
  intro k _
  by_cases hk : k < xs.length
  · have h1 := gd_at h k hk
    have h2 := (gd_facts h).2.1
    unfold cF
    omega
  · have : cF xs k = 0 := by unfold cF; rw [List.getD_eq_getElem?_getD, List.getElem?_eq_none (by omega)]; rfl
    omega
theorem ret_bb {a b : Bool} {v : Value} (h : a = b) : Ending.returned (.tuple #[.bool a, v]) = Ending.returned (.tuple #[.bool b, v]) := by rw [h]
theorem isEmpty_len {α : Type} (l : List α) : ((l.length : Int) == 0) = decide (l = []) := by
  cases l with
  | nil => rfl
  | cons x t =>
    rw [List.length_cons]
    have h1 : (((t.length + 1 : Nat) : Int) == 0) = false := by rw [beq_eq_false_iff_ne]; omega
    rw [h1]
    simp

set_option maxHeartbeats 3200000 in
theorem quGood_any (a : Option Addr) (cap : Nat) (xs : List Int) (w : World) (hx : xs.length ≤ 1048576) (hcap : xs.length ≤ cap) (hr : Reads w a xs.length xs) :
    Calls Try.prog 37 #[.slice a xs.length cap] w fun e w' => e = .returned (.bool (gdB xs)) ∧ w = w' := by
  have HI := Lib.hid (l1In_any xs.length 1 8 w)
  by_cases hq : 1 ≤ (xs.length : Int) ∧ (xs.length : Int) ≤ 8
  · rw [inB_yes hq.1 hq.2] at HI
    cases h2 : within 0 ((xs.length : Int) - 1) xs
    · have HA := Lib.hid (at_boolV (l1All_any a cap xs 0 ((xs.length : Int) - 1) w hx hr) h2)
      have HD := Lib.hid (show gdB xs = false by simp [gdB, inN, h2])
      clear h2 hr
      generalize xs.length = m at *
      go_enter Try.func37, Try.ntmps37
      go_wp2_with (first | (go_at_call 38; ((with_reducible refine HI.out.mono ?_); rintro e w' ⟨rfl, rfl⟩)) | (go_at_call 46; ((with_reducible refine HA.out.mono ?_); rintro e w' ⟨rfl, rfl⟩)))
      go_ret
      exact ⟨ret_bool HD.out.symm, rfl⟩
    · have HA := Lib.hid (at_boolV (l1All_any a cap xs 0 ((xs.length : Int) - 1) w hx hr) h2)
      have HW := Lib.hid h2
      clear h2
      go_enter Try.func37, Try.ntmps37
      go_wp2_with (first | (go_at_call 38; ((with_reducible refine HI.out.mono ?_); rintro e w' ⟨rfl, rfl⟩)) | (go_at_call 46; ((with_reducible refine HA.out.mono ?_); rintro e w' ⟨rfl, rfl⟩)))
      go_loop [19] (fun i => ∃ k : Nat, k ≤ xs.length ∧ i = .int .i64 k ∧ Hid ((xs.take k).Nodup)) (fun i => xs.length - (intOf i).toNat)
      case atStart => exact ⟨0, Nat.zero_le _, rfl, Lib.hid (by simp)⟩
      case round =>
        obtain ⟨k, hk, rfl, HE⟩ := hrel
        by_cases hlt : k < xs.length
        · have hrt := hr.takeO k hk
          have hkl : (xs.take k).length = k := by simp; omega
          rw [hkl] at hrt
          obtain ⟨b, off, rfl, hb, hc⟩ := reads_row hr (by omega)
          have hck := hc k hlt
          have hkc : k ≤ cap := by omega
          clear hc
          by_cases hm : xs.getD k 0 ∈ xs.take k
          · have HC := Lib.hid (at_boolV (l1HasO_any (some ⟨b, off, none⟩) cap (xs.take k) (xs.getD k 0) w (by omega) (by rw [hkl]; exact hrt)) (show hasL (xs.take k) (xs.getD k 0) = true by unfold hasL; rw [decide_eq_true_eq]; exact hm))
            have HD := Lib.hid (show gdB xs = false by simp [gdB, inN, nodup_no xs k hlt hm])
            rw [hkl] at HC
            clear hkl hrt hm
            generalize xs.getD k 0 = x at *
            go_wp2_with (go_at_call 76; ((with_reducible refine HC.out.mono ?_); rintro e w' ⟨rfl, rfl⟩))
            go_ret
            exact ⟨ret_bool HD.out.symm, rfl⟩
          · have HC := Lib.hid (at_boolV (l1HasO_any (some ⟨b, off, none⟩) cap (xs.take k) (xs.getD k 0) w (by omega) (by rw [hkl]; exact hrt)) (show hasL (xs.take k) (xs.getD k 0) = false by unfold hasL; rw [decide_eq_false_iff_not]; exact hm))
            have HN := Lib.hid (nodup_step xs k hlt HE.out hm)
            rw [hkl] at HC
            clear hkl hrt hm
            generalize xs.getD k 0 = x at *
            go_wp2_with (go_at_call 76; ((with_reducible refine HC.out.mono ?_); rintro e w' ⟨rfl, rfl⟩))
            go_round
            case rel => exact ⟨k + 1, by omega, by go_num, HN⟩
            case measure => simp [intOf]; omega
        · obtain rfl : k = xs.length := by omega
          have HD := Lib.hid (show gdB xs = true by
            have := HE.out
            rw [List.take_length] at this
            simp [gdB, inN, HW.out, this, hq])
          go_wp2_with fail
          go_ret
          exact ⟨ret_bool HD.out.symm, rfl⟩
  · rw [inB_no hq] at HI
    have HD := Lib.hid (show gdB xs = false by simp [gdB, hq])
    clear hq hr
    generalize xs.length = m at *
    go_enter Try.func37, Try.ntmps37
    go_wp2_with (go_at_call 38; ((with_reducible refine HI.out.mono ?_); rintro e w' ⟨rfl, rfl⟩))
    go_ret
    exact ⟨ret_bool HD.out.symm, rfl⟩
theorem quSide_any (n : Int) (w : World) : Calls Try.prog 42 #[.int .i64 n] w fun e w' => e = .returned (.bool (inB 1 n 8)) ∧ w = w' := by
  have HI := Lib.hid (l1In_any n 1 8 w)
  generalize inB 1 n 8 = b at *
  go_enter Try.func42, Try.ntmps42
  go_wp2_with (go_at_call 38; ((with_reducible refine HI.out.mono ?_); rintro e w' ⟨rfl, rfl⟩))
  go_ret
  exact ⟨rfl, rfl⟩
/-- The answers. -/
def areQuR (xs : List Int) : R2 := if gdB xs then ⟨decide (meets (attP bQ xs) xs.length xs.length = []), true⟩ else ⟨false, false⟩
def attacksR (xs : List Int) : MR := if gdB xs then ⟨meets (attP bQ xs) xs.length xs.length, true⟩ else ⟨[], false⟩
def onTorR (xs : List Int) : R2 := if gdB xs then ⟨decide (meets (attP (tQ xs.length) xs) xs.length xs.length = []), true⟩ else ⟨false, false⟩
theorem attacksR_len (xs : List Int) : (attacksR xs).zz.length ≤ 1048576 := by
  unfold attacksR
  cases h : gdB xs
  · simp
  · have := meets_eight (attP bQ xs) xs.length xs.length (gd_facts h).2.1 (gd_facts h).2.1
    simp
    omega
theorem meets_spec (xs : List Int) : meets (absP xs) xs.length xs.length = meets (attP bQ xs) xs.length xs.length :=
  meets_congr _ _ _ _ (fun r s h _ => absP_att xs r s h)

end Go.Proofs.Ytmhlpaenfknofab
