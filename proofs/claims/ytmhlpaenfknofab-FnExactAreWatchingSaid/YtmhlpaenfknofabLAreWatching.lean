/- 'FnExactAreWatching' answers true for every input, and leaves it as it was. No condition. -/
import Derived.Test.YtmhlpaenfknofabT2
import Derived.Test.YtmhlpaenfknofabOpen
import Derived.Test.YtmhlpaenfknofabUo
import Derived.Deep.RegionWith
import Derived.Deep.RegionHeld3
import Derived.Deep.DeepCutAuto
namespace Go.Proofs.Ytmhlpaenfknofab.lAreWatching
open Go.ChangeShapes Go.WideShapes Go.ChangeAt Go.RowKit Go.Joins

set_option maxRecDepth 100000 in
set_option maxHeartbeats 4000000 in
theorem walk (aN : Int) (aPlaces_a : Option Addr) (aPlaces_p : Nat) (aPlaces : List (List Int)) (b0 : Bool) (b1 : Bool) (w : World) (hfit : aPlaces.length + total aPlaces ≤ 1048576) (aPlaces_h : ReadsM w aPlaces_a aPlaces.length aPlaces) (aPlaces_r : ∀ r ∈ aPlaces, r.length ≤ 9223372036854775807) 
    (hS : ∀ (w : World) (loaPlaces : Nat) (aPlaces_s : Value) (aPlaces_v : List Value), OwnM w loaPlaces aPlaces_s aPlaces_v aPlaces → Calls Try.prog 19 #[.int .i64 aN, aPlaces_s] w fun e w' => e = .returned (.tuple #[.bool b0, .bool b1]) ∧ Below w.heap.size w w')
    (hI : ∀ (w : World) (loaPlaces : Nat) (aPlaces_s : Value) (aPlaces_v : List Value), OwnM w loaPlaces aPlaces_s aPlaces_v aPlaces → Calls Try.prog 21 #[.int .i64 aN, aPlaces_s] w fun e w' => e = .returned (.tuple #[.bool b0, .bool b1]) ∧ Below w.heap.size w w') :
    Calls Try.prog 5 #[.int .i64 aN, .slice aPlaces_a aPlaces.length aPlaces_p] w fun e w' => e = .returned (.bool true) ∧ Below w.heap.size w w' := by
  have HS := Lib.hid hS; clear hS
  have HI := Lib.hid hI; clear hI
  have L0 := Law.start w
  have aPlaces_z := Lib.hid (show szM (1048576) aPlaces = 1048576 - aPlaces.length - total aPlaces by unfold szM; rw [if_neg (by omega)])
  have aPlaces_l : aPlaces.length ≤ 1048576 := by omega
  have aPlaces_tot : total aPlaces ≤ 1048576 := by omega
  have aPlaces_row : ∀ r ∈ aPlaces, r.length ≤ 1048576 := fun r hr => Nat.le_trans (total_le _ r hr) aPlaces_tot
  go_enter Try.func5, Try.ntmps5
  go_wp2_with fail
  refine (szIntSS_any aPlaces_a aPlaces_p aPlaces (1048576) _ (by omega) aPlaces_r (by omega) (by omega) (L0.readsM aPlaces_h)).mono ?_
  rintro e w1 ⟨rfl, hb2⟩
  rw [aPlaces_z.out]
  have L3 := L0.kept hb2
  clear L0 hb2
  go_wp2_with fail
  refine (toIntSS_any aPlaces_a aPlaces_p aPlaces _ aPlaces_l aPlaces_row (L3.readsM aPlaces_h)).mono ?_
  rintro e w4 ⟨s5, v10, rfl, O7, hb6⟩
  obtain ⟨a8, p9, rfl, _⟩ := O7.form
  have L12 := L3.addM hb6 O7
  clear L3 hb6 O7
  go_wp2_with fail
  refine (HS.out _ _ _ _ L12.ownM).mono ?_
  rintro e w13 ⟨rfl, hb14⟩
  have L16 := L12.kept hb14
  clear L12 hb14
  go_wp2_with fail
  refine (toIntSS_any aPlaces_a aPlaces_p aPlaces _ aPlaces_l aPlaces_row (L16.readsM aPlaces_h)).mono ?_
  rintro e w17 ⟨s18, v23, rfl, O20, hb19⟩
  obtain ⟨a21, p22, rfl, _⟩ := O20.form
  have L25 := L16.addM hb19 O20
  clear L16 hb19 O20
  go_wp2_with fail
  refine (HI.out _ _ _ _ L25.ownM).mono ?_
  rintro e w26 ⟨rfl, hb27⟩
  have L29 := L25.kept hb27
  clear L25 hb27
  go_wp2_with fail
  refine (toIntSS_any aPlaces_a aPlaces_p aPlaces _ aPlaces_l aPlaces_row (L29.readsM aPlaces_h)).mono ?_
  rintro e w30 ⟨s31, v36, rfl, O33, hb32⟩
  obtain ⟨a34, p35, rfl, _⟩ := O33.form
  have L38 := L29.addM hb32 O33
  clear L29 hb32 O33
  go_wp2_with fail
  refine (eqIntSS_same aPlaces _ _ _ _ _ _ _ aPlaces_l aPlaces_row L38.tl.ownM L38.ownM).mono ?_
  rintro e w39 ⟨rfl, hb40⟩
  have L41 := L38.kept hb40
  clear L38 hb40
  go_wp2_with fail
  go_ret
  exact ⟨rfl, L41.below⟩

set_option maxRecDepth 100000 in
set_option maxHeartbeats 800000 in
theorem walk_big0 (aN : Int) (aPlaces_a : Option Addr) (aPlaces_p : Nat) (aPlaces : List (List Int)) (w : World) (aPlaces_m : aPlaces.length ≤ 9223372036854775807) (aPlaces_h : ReadsM w aPlaces_a aPlaces.length aPlaces) (aPlaces_r : ∀ r ∈ aPlaces, r.length ≤ 9223372036854775807) (hbig : ¬ aPlaces.length + total aPlaces ≤ 1048576)  :
    Calls Try.prog 5 #[.int .i64 aN, .slice aPlaces_a aPlaces.length aPlaces_p] w fun e w' => e = .returned (.bool true) ∧ Below w.heap.size w w' := by
  have L0 := Law.start w
  have aPlaces_z := Lib.hid (show szM (1048576) aPlaces = -1 by unfold szM; rw [if_pos (by omega)])
  go_enter Try.func5, Try.ntmps5
  go_wp2_with fail
  refine (szIntSS_any aPlaces_a aPlaces_p aPlaces (1048576) _ (by omega) aPlaces_r (by omega) (by omega) (L0.readsM aPlaces_h)).mono ?_
  rintro e v1 ⟨rfl, hb⟩
  rw [aPlaces_z.out]
  have L1 := L0.kept hb
  clear L0 hb
  go_wp2_with fail
  go_ret
  exact ⟨rfl, L1.below⟩

theorem walk_all (aN : Int) (aPlaces_a : Option Addr) (aPlaces_p : Nat) (aPlaces : List (List Int)) (w : World) (aPlaces_m : aPlaces.length ≤ 9223372036854775807) (aPlaces_h : ReadsM w aPlaces_a aPlaces.length aPlaces) (aPlaces_r : ∀ r ∈ aPlaces, r.length ≤ 9223372036854775807) :
    Calls Try.prog 5 #[.int .i64 aN, .slice aPlaces_a aPlaces.length aPlaces_p] w fun e w' => e = .returned (.bool true) ∧ Below w.heap.size w w' := by
  by_cases c0 : aPlaces.length + total aPlaces ≤ 1048576
  case neg => exact walk_big0 aN aPlaces_a aPlaces_p aPlaces w aPlaces_m aPlaces_h aPlaces_r  c0
  have hS : ∀ (w : World) (loaPlaces : Nat) (aPlaces_s : Value) (aPlaces_v : List Value), OwnM w loaPlaces aPlaces_s aPlaces_v aPlaces → Calls Try.prog 19 #[.int .i64 aN, aPlaces_s] w (AnsOO (watR aN aPlaces) w) := fun w loaPlaces aPlaces_s aPlaces_v OaPlaces => specWat_any aN aPlaces w (by omega) loaPlaces aPlaces_s aPlaces_v OaPlaces
  have hI : ∀ (w : World) (loaPlaces : Nat) (aPlaces_s : Value) (aPlaces_v : List Value), OwnM w loaPlaces aPlaces_s aPlaces_v aPlaces → Calls Try.prog 21 #[.int .i64 aN, aPlaces_s] w (AnsOO (watR aN aPlaces) w) := fun w loaPlaces aPlaces_s aPlaces_v OaPlaces => implWat_any aN aPlaces w (by omega) loaPlaces aPlaces_s aPlaces_v OaPlaces
  generalize watR aN aPlaces = R at *
  obtain ⟨b0, b1⟩ := R
  exact walk aN aPlaces_a aPlaces_p aPlaces b0 b1 w  c0 aPlaces_h aPlaces_r  hS hI

set_option maxRecDepth 100000 in
theorem contract (H : Type) (enc : TypeId × Value → H) (W : World) (base : Nat) (args : Array Value) (ds gs : List (DataW H)) (before : List MemPlace)
    (hval : ∀ (j : Nat) t v, Try.f5.params[j]? = some t → args[j]? = some v → Value.okWide Try.prog W .any base t v)
    (hW : DataW.Whole enc Try.prog Try.f5.params.toList Rows.fnExactAreWatchingSpec.vars false W args.toList ds gs before) :
    Calls Try.prog 5 args W fun e W' => ∃ v, e = .returned v ∧ Rows.fnExactAreWatchingSpec.post enc Try.prog Try.f5 false true false false W args v W' := by
  have hW' := hW
  obtain ⟨p, q, hA0, hV, rfl, hfz, hnd⟩ := hW
  have hA : DataW.TrodAll enc Try.prog W 0 (fun _ => true) true Try.f5.params.toList args.toList ds p := hA0
  rw [Try.params5] at hA hval
  obtain ⟨v0, v1, d0, d1, p0, p1, rfl, rfl, rfl, h0, h1⟩ := trodAll_two hA
  obtain ⟨rfl, rfl⟩ := trodVars_none hV
  clear hA0
  simp only [List.append_nil] at hW'
  have hlt : ∀ x ∈ p0 ++ p1, x.block < W.heap.size := fun x hx => by have := hW'.lt x (by simpa using hx); simpa using this
  have t0 := h0
  obtain ⟨aN, rfl, e0, f0, _⟩ := open_int Try.underlying3 (hval 0 3 v0 rfl rfl) h0
  have t1 := h1
  obtain ⟨aPlaces_a, aPlaces_n, aPlaces_p, rfl⟩ := okWide_slice Try.underlying31 (hval 1 31 v1 rfl rfl)
  obtain ⟨fu1, hf1⟩ := h1
  obtain ⟨aPlaces_m, aPlaces, aPlaces_h, aPlaces_r⟩ := readsM_of (by simpa [Value.cells] using hf1)
  obtain rfl := aPlaces_h.1
  refine (walk_all aN aPlaces_a aPlaces_p aPlaces W aPlaces_m aPlaces_h aPlaces_r).mono ?_
  rintro e W' ⟨rfl, hb⟩
  exact ⟨_, rfl, _, _, _, [], _, [], hW', trodAll_mk1 (shut_bool Try.underlying4 _), trodAll_mk2 (Below.trod Try.laidOut (by kernel_rfl) (of_decide_eq_true (by kernel_rfl)) t0 hb (fun x hx => hlt x (by simp [hx]))) (Below.trod Try.laidOut (by kernel_rfl) (of_decide_eq_true (by kernel_rfl)) t1 hb (fun x hx => hlt x (by simp [hx]))), rfl, hb.frame _, fun h => by cases h⟩

set_option maxRecDepth 100000 in
theorem lifted (os : Os) (started : os.Started) (H : Type) (enc : TypeId × Value → H) :
    ReturnsInHanded {} Try.checked os 5 .any (Rows.fnExactAreWatchingSpec.pre6 enc Try.prog Try.f5 Rows.fnExactAreWatchingRow.domain false) (Rows.fnExactAreWatchingSpec.post enc Try.prog Try.f5 false true false false) := by
  refine returnsInHanded_of_change (C := Try.checked) Try.own started (by kernel_rfl) Try.func5
    (ChangeSpec.witness6 (enc := enc) (C := Try.checked) false ⟨#[], #[.int .i64 0, .slice none 0 0], []⟩ 8 (by kernel_rfl) (by kernel_rfl) (by kernel_rfl) (by kernel_rfl)) ?_
  intro W base args ds gs before hval hW _ _
  exact contract H enc W base args ds gs before hval hW

theorem holds : Rows.FnExactAreWatchingSaid :=
  OpenClaim.holds_of_wide 5 Try.f5 rfl rfl rfl rfl rfl rfl rfl ⟨rfl, rfl, rfl, rfl, rfl⟩ rfl rfl rfl rfl rfl (by kernel_rfl) Try.func5 (by kernel_rfl)
    (of_decide_eq_true (by kernel_rfl)) (by unfold Func.isWrapper; first | (rw [if_pos (by decide +kernel)]; kernel_rfl) | (rw [if_neg (by decide +kernel)]; exact ⟨rfl, rfl⟩))
    (fun os started H enc _ => lifted os started H enc)

#print axioms holds
end Go.Proofs.Ytmhlpaenfknofab.lAreWatching
