/- Hit numbers off rook numbers and the way back: both texts. No condition but the sizes. -/
import Derived.Test.YtjmefcebldifaaaHu
import Derived.Test.YtjmefcebldifaaaHv
namespace Go.Proofs.Ytjmefcebldifaaa
open Go.RowKit Go.WideShapes

theorem at_boolU {P : Program} {f : FuncId} {args : Array Value} {b c : Bool} {w : World} (h : Calls P f args w fun e w' => e = .returned (.bool b) ∧ w = w') (e : b = c) : Calls P f args w fun e w' => e = .returned (.bool c) ∧ w = w' := by
  subst e
  exact h
/-- May numbers be hit or rook numbers? -/
def sumsB (ys : List Int) : Bool := inB 2 ys.length 7 && within 0 1000000 ys
def hfrR (ys : List Int) : LR := if sumsB ys then ⟨hfrL ys.length ys, true⟩ else ⟨[], false⟩
def rfhT (ys : List Int) : LR := if sumsB ys then rfhR ys.length ys else ⟨[], false⟩
theorem sums_facts {ys : List Int} (h : sumsB ys = true) : 2 ≤ ys.length ∧ ys.length ≤ 7 ∧ ∀ k, 0 ≤ ys.getD k 0 ∧ ys.getD k 0 ≤ 1000000 := by
  unfold sumsB at h
  rw [Bool.and_eq_true] at h
  have h1 := inB_iff.1 h.1
  refine ⟨by omega, by omega, fun k => ?_⟩
  by_cases hk : k < ys.length
  · have := List.all_eq_true.1 h.2 ys[k] (List.getElem_mem hk)
    rw [decide_eq_true_eq] at this
    simpa [List.getD, hk] using this
  · simp [List.getD, Nat.not_lt.1 hk]
theorem sums_abs {ys : List Int} (h : ∀ k, 0 ≤ ys.getD k 0 ∧ ys.getD k 0 ≤ 1000000) (j d : Nat) (hd : d ≤ 6) : Abs 1000000000000 (ys.getD j 0 * fct d) := by
  have h1 := h j
  have h2 := fct_bd d hd
  exact (Abs.mul (a := 1000000) (b := 720) (by unfold Abs; omega) (by unfold Abs; omega)).mono (by decide)
theorem hfrR_len (ys : List Int) : (hfrR ys).ys.length ≤ 1048576 := by
  unfold hfrR
  split
  · rename_i h
    have := sums_facts h
    show (lstH _ _).length ≤ _
    rw [lstH_len]; omega
  · simp
theorem rfhT_len (ys : List Int) : (rfhT ys).ys.length ≤ 1048576 := by
  unfold rfhT
  split
  · rename_i h
    have := sums_facts h
    unfold rfhR
    split
    · show (lstH _ _).length ≤ _
      rw [lstH_len]; omega
    · simp
  · simp

set_option maxHeartbeats 1600000 in
theorem areSums_any (a : Option Addr) (p : Nat) (ys : List Int) (w : World) (hx : ys.length ≤ 1048576) (hr : Reads w a ys.length ys) :
    Calls Try.prog 87 #[.slice a ys.length p] w fun e w' => e = .returned (.bool (sumsB ys)) ∧ w = w' := by
  by_cases h2 : ys.length < 2
  · have HS := Lib.hid (show sumsB ys = false by unfold sumsB; rw [inB_no (by omega)]; rfl)
    have h2' : (ys.length : Int) < 2 := by omega
    go_enter Try.func87, Try.ntmps87
    go_wp2_with fail
    go_ret
    exact ⟨ret_bool HS.out.symm, rfl⟩
  · have h2' : ¬ (ys.length : Int) < 2 := by omega
    by_cases h7 : 7 < ys.length
    · have HS := Lib.hid (show sumsB ys = false by unfold sumsB; rw [inB_no (by omega)]; rfl)
      have h7' : (7 : Int) < ys.length := by omega
      go_enter Try.func87, Try.ntmps87
      go_wp2_with fail
      go_ret
      exact ⟨ret_bool HS.out.symm, rfl⟩
    · have h7' : ¬ (7 : Int) < ys.length := by omega
      have HI := Lib.hid (show inB 2 ys.length 7 = true from inB_yes (by omega) (by omega))
      go_enter Try.func87, Try.ntmps87
      go_wp2_with fail
      go_loop [15] (fun i => ∃ k : Nat, k ≤ ys.length ∧ i = .int .i64 k ∧ Hid (within 0 1000000 (ys.take k) = true)) (fun i => ys.length - (intOf i).toNat)
      case atStart => exact ⟨0, Nat.zero_le _, rfl, (rfl : within 0 1000000 (ys.take 0) = true)⟩
      case round =>
        obtain ⟨k, hk, rfl, HW⟩ := hrel
        by_cases hlt : k < ys.length
        · obtain ⟨b, off, rfl, hb, hc⟩ := reads_row hr (by omega)
          have hck := hc k hlt
          have HNX := Lib.hid (fun h => within_upto 0 1000000 ys k hlt HW.out h)
          have HNO := Lib.hid (fun h => within_no 0 1000000 ys k hlt h)
          clear hc
          generalize ys.getD k 0 = y at *
          by_cases y0 : y < 0
          · have HS := Lib.hid (show sumsB ys = false by unfold sumsB; rw [HNO.out (by omega), Bool.and_false])
            go_wp2_with fail
            go_ret
            exact ⟨ret_bool HS.out.symm, rfl⟩
          · by_cases y1 : 1000000 < y
            · have HS := Lib.hid (show sumsB ys = false by unfold sumsB; rw [HNO.out (by omega), Bool.and_false])
              go_wp2_with fail
              go_ret
              exact ⟨ret_bool HS.out.symm, rfl⟩
            · have HK := Lib.hid (HNX.out (by omega))
              go_wp2_with fail
              go_round
              case rel => exact ⟨k + 1, by omega, by go_num, HK⟩
              case measure => simp [intOf]; omega
        · obtain rfl : k = ys.length := by omega
          have HS := Lib.hid (show sumsB ys = true by unfold sumsB; rw [HI.out, ← List.take_length (l := ys)]; simpa using HW.out)
          go_wp2_with fail
          go_ret
          exact ⟨ret_bool HS.out.symm, rfl⟩

set_option maxHeartbeats 1600000 in
theorem hiList_any (a : Option Addr) (p : Nat) (ys : List Int) (w : World) (hx : ys.length ≤ 1048576) (hr : Reads w a ys.length ys) :
    Calls Try.prog 84 #[.slice a ys.length p] w fun e w' => e = .returned (.bool (sumsB ys)) ∧ w = w' := by
  cases h : inB 2 ys.length 7
  · have HS := Lib.hid (show sumsB ys = false by unfold sumsB; rw [h]; rfl)
    have H1 := Lib.hid (at_bool (l1In_any ys.length 2 7) h)
    clear h
    go_enter Try.func84, Try.ntmps84
    go_wp2_with fail
    refine (H1.out _).mono ?_
    rintro e w1 ⟨rfl, rfl⟩
    go_wp2_with fail
    go_ret
    exact ⟨ret_bool HS.out.symm, rfl⟩
  · have HS := Lib.hid (show sumsB ys = within 0 1000000 ys by unfold sumsB; rw [h]; rfl)
    have H1 := Lib.hid (at_bool (l1In_any ys.length 2 7) h)
    have H2 := Lib.hid (l1All_any a p ys 0 1000000 w hx hr)
    clear h
    go_enter Try.func84, Try.ntmps84
    go_wp2_with fail
    refine (H1.out _).mono ?_
    rintro e w1 ⟨rfl, hw⟩
    subst hw
    go_wp2_with fail
    refine H2.out.mono ?_
    rintro e w1 ⟨rfl, rfl⟩
    go_wp2_with fail
    go_ret
    exact ⟨ret_bool HS.out.symm, rfl⟩

set_option maxHeartbeats 1600000 in
theorem implHfr_any (ys : List Int) (w : World) (hx : ys.length ≤ 1048576) (lo : Nat) (s : Value) (hO : Own w lo s ys) :
    Calls Try.prog 44 #[s] w fun e w' => AnsL (hfrR ys) w e w' := by
  obtain ⟨a, cap, rfl, hr⟩ := hO.reads
  cases hs : sumsB ys
  · rw [show hfrR ys = ⟨[], false⟩ by simp [hfrR, hs]]
    have HC := Lib.hid (at_boolU (areSums_any a cap ys w hx hr) hs)
    clear hO hs
    go_enter Try.func44, Try.ntmps44
    go_wp2_with fail
    refine HC.out.mono ?_
    rintro e w1 ⟨rfl, rfl⟩
    go_wp2_with fail
    go_ret2
    exact ⟨_, rfl, Own.nil _ _, Below.refl _ _⟩
  · rw [show hfrR ys = ⟨hfrL ys.length ys, true⟩ by simp [hfrR, hs]]
    have HC := Lib.hid (at_boolU (areSums_any a cap ys w hx hr) hs)
    obtain ⟨f1, f2, f3⟩ := sums_facts hs
    have HF := Lib.hid (hitsFromRooks_any ys.length ys a cap w (by omega) (by omega) (fun j hj => sums_abs f3 j _ (by omega)) hr)
    clear hO hs f3
    go_enter Try.func44, Try.ntmps44
    go_wp2_with fail
    refine HC.out.mono ?_
    rintro e w1 ⟨rfl, rfl⟩
    go_wp2_with fail
    refine HF.out.mono ?_
    rintro e w1 ⟨g, p, rfl, hO, hb⟩
    have HO := Lib.hid (And.intro hO hb)
    clear hO hb
    go_wp2_with fail
    go_ret2
    exact ⟨_, rfl, HO.out.1, HO.out.2⟩
set_option maxHeartbeats 1600000 in
theorem implRfh_any (ys : List Int) (w : World) (hx : ys.length ≤ 1048576) (lo : Nat) (s : Value) (hO : Own w lo s ys) :
    Calls Try.prog 46 #[s] w fun e w' => AnsL (rfhT ys) w e w' := by
  obtain ⟨a, cap, rfl, hr⟩ := hO.reads
  cases hs : sumsB ys
  · rw [show rfhT ys = ⟨[], false⟩ by simp [rfhT, hs]]
    have HC := Lib.hid (at_boolU (areSums_any a cap ys w hx hr) hs)
    clear hO hs
    go_enter Try.func46, Try.ntmps46
    go_wp2_with fail
    refine HC.out.mono ?_
    rintro e w1 ⟨rfl, rfl⟩
    go_wp2_with fail
    go_ret2
    exact ⟨_, rfl, Own.nil _ _, Below.refl _ _⟩
  · rw [show rfhT ys = rfhR ys.length ys by simp [rfhT, hs]]
    have HC := Lib.hid (at_boolU (areSums_any a cap ys w hx hr) hs)
    obtain ⟨f1, f2, f3⟩ := sums_facts hs
    have HF := Lib.hid (rooksFromHits_any ys.length ys a cap w (by omega) (by omega) (fun j hj => by have := f3 j; unfold Abs; omega) hr)
    clear hO hs f3
    generalize rfhR ys.length ys = R at *
    go_enter Try.func46, Try.ntmps46
    go_wp2_with fail
    refine HC.out.mono ?_
    rintro e w1 ⟨rfl, rfl⟩
    go_wp2_with fail
    refine HF.out.mono ?_
    rintro e w1 ⟨s, rfl, hO, hb⟩
    have HO := Lib.hid (And.intro hO hb)
    clear hO hb
    go_wp2_with fail
    go_ret2
    exact ⟨_, rfl, HO.out.1, HO.out.2⟩
end Go.Proofs.Ytjmefcebldifaaa
