/- 'FnExactAllQueens' answers true for every input, and leaves it as it was. No condition. -/
import Derived.Test.YtmhlpaenfknofaaT2
import Derived.Test.YtmhlpaenfknofaaOpen
import Derived.Test.YtmhlpaenfknofaaUj
import Derived.Deep.RegionWith
import Derived.Deep.RegionHeld3
import Derived.Deep.DeepCutAuto
namespace Go.Proofs.Ytmhlpaenfknofaa.lAllQueens
open Go.ChangeShapes Go.WideShapes Go.ChangeAt Go.RowKit Go.Joins

set_option maxRecDepth 100000 in
set_option maxHeartbeats 4000000 in
theorem walk (aN : Int) (zz0 : List (List Int)) (b1 : Bool) (w : World)  (zz0_len : zz0.length ≤ 1048576) (zz0_tot : total zz0 ≤ 1048576) (zz0_row : ∀ r ∈ zz0, r.length ≤ 1048576)
    (hS : ∀ (w : World), Calls Try.prog 29 #[.int .i64 aN] w fun e w' => ∃ s0, ∃ v0, e = .returned (.tuple #[s0, .bool b1]) ∧ OwnM w' w.heap.size s0 v0 zz0 ∧ Below w.heap.size w w')
    (hI : ∀ (w : World), Calls Try.prog 30 #[.int .i64 aN] w fun e w' => ∃ s0, ∃ v0, e = .returned (.tuple #[s0, .bool b1]) ∧ OwnM w' w.heap.size s0 v0 zz0 ∧ Below w.heap.size w w') :
    Calls Try.prog 7 #[.int .i64 aN] w fun e w' => e = .returned (.bool true) ∧ Below w.heap.size w w' := by
  have HS := Lib.hid hS; clear hS
  have HI := Lib.hid hI; clear hI
  have L0 := Law.start w
  go_enter Try.func7, Try.ntmps7
  go_wp2_with fail
  refine (HS.out _  ).mono ?_
  rintro e w1 ⟨s3, v6, rfl, O4, hb2⟩
  obtain ⟨a7, p8, rfl, _⟩ := O4.form
  have L10 := L0.addM hb2 O4
  clear L0 hb2 O4
  go_wp2_with fail
  refine (HI.out _  ).mono ?_
  rintro e w11 ⟨s13, v16, rfl, O14, hb12⟩
  obtain ⟨a17, p18, rfl, _⟩ := O14.form
  have L20 := L10.addM hb12 O14
  clear L10 hb12 O14
  go_wp2_with fail
  refine (eqIntSS_same zz0 _ _ _ _ _ _ _ zz0_len zz0_row L20.ownM L20.tl.ownM).mono ?_
  rintro e w21 ⟨rfl, hb22⟩
  have L23 := L20.kept hb22
  clear L20 hb22
  go_wp2_with fail
  refine (markIntSS_any zz0 _ _ _ (1) _ zz0_len zz0_tot (by omega) (by omega) L23.ownM).mono ?_
  rintro e w24 ⟨rfl, O25, hg26⟩
  have L27 := Law.markM (ts := []) L23 hg26 O25
  simp only [List.nil_append] at L27
  clear L23 hg26 O25 
  go_wp2_with fail
  refine (heldIntSS_any zz0 _ _ _ (1) _ zz0_len zz0_tot (by omega) (by omega) L27.ownM).mono ?_
  rintro e w28 ⟨rfl, hb29⟩
  have L30 := L27.kept hb29
  clear L27 hb29
  go_wp2_with fail
  refine (HI.out _  ).mono ?_
  rintro e w31 ⟨s33, v36, rfl, O34, hb32⟩
  obtain ⟨a37, p38, rfl, _⟩ := O34.form
  have L40 := L30.addM hb32 O34
  clear L30 hb32 O34
  go_wp2_with fail
  refine (eqIntSS_same zz0 _ _ _ _ _ _ _ zz0_len zz0_row L40.ownM L40.tl.tl.ownM).mono ?_
  rintro e w41 ⟨rfl, hb42⟩
  have L43 := L40.kept hb42
  clear L40 hb42
  go_wp2_with fail
  refine (heldIntSS_any zz0 _ _ _ (1) _ zz0_len zz0_tot (by omega) (by omega) L43.tl.ownM).mono ?_
  rintro e w44 ⟨rfl, hb45⟩
  have L46 := L43.kept hb45
  clear L43 hb45
  go_wp2_with fail
  go_ret
  exact ⟨rfl, L46.below⟩

theorem walk_all (aN : Int) (w : World)   :
    Calls Try.prog 7 #[.int .i64 aN] w fun e w' => e = .returned (.bool true) ∧ Below w.heap.size w w' := by
  have hS : ∀ (w : World), Calls Try.prog 29 #[.int .i64 aN] w (AnsM (allQR aN) w) := fun w   => specAllQ_any aN w   
  have hI : ∀ (w : World), Calls Try.prog 30 #[.int .i64 aN] w (AnsM (allQR aN) w) := fun w   => implAllQ_any aN w   
  have hy := allQR_len aN
  generalize allQR aN = R at *
  obtain ⟨zz0, b1⟩ := R
  exact walk aN zz0 b1 w   hy.1 hy.2 (fun r hr => Nat.le_trans (total_le _ r hr) hy.2) hS hI

set_option maxRecDepth 100000 in
theorem contract (H : Type) (enc : TypeId × Value → H) (W : World) (base : Nat) (args : Array Value) (ds gs : List (DataW H)) (before : List MemPlace)
    (hval : ∀ (j : Nat) t v, Try.f7.params[j]? = some t → args[j]? = some v → Value.okWide Try.prog W .any base t v)
    (hW : DataW.Whole enc Try.prog Try.f7.params.toList Rows.fnExactAllQueensSpec.vars false W args.toList ds gs before) :
    Calls Try.prog 7 args W fun e W' => ∃ v, e = .returned v ∧ Rows.fnExactAllQueensSpec.post enc Try.prog Try.f7 false true false false W args v W' := by
  have hW' := hW
  obtain ⟨p, q, hA0, hV, rfl, hfz, hnd⟩ := hW
  have hA : DataW.TrodAll enc Try.prog W 0 (fun _ => true) true Try.f7.params.toList args.toList ds p := hA0
  rw [Try.params7] at hA hval
  obtain ⟨v0, d0, rfl, rfl, h0⟩ := trodAll_one hA
  obtain ⟨rfl, rfl⟩ := trodVars_none hV
  clear hA0
  simp only [List.append_nil] at hW'
  have hlt : ∀ x ∈ p, x.block < W.heap.size := fun x hx => by have := hW'.lt x (by simpa using hx); simpa using this
  have t0 := h0
  obtain ⟨aN, rfl, e0, f0, _⟩ := open_int Try.underlying3 (hval 0 3 v0 rfl rfl) h0
  refine (walk_all aN W  ).mono ?_
  rintro e W' ⟨rfl, hb⟩
  exact ⟨_, rfl, _, _, _, [], _, [], hW', trodAll_mk1 (shut_bool Try.underlying4 _), trodAll_mk1 (Below.trod Try.laidOut (by kernel_rfl) (of_decide_eq_true (by kernel_rfl)) t0 hb hlt), rfl, hb.frame _, fun h => by cases h⟩

set_option maxRecDepth 100000 in
theorem lifted (os : Os) (started : os.Started) (H : Type) (enc : TypeId × Value → H) :
    ReturnsInHanded {} Try.checked os 7 .any (Rows.fnExactAllQueensSpec.pre6 enc Try.prog Try.f7 Rows.fnExactAllQueensRow.domain false) (Rows.fnExactAllQueensSpec.post enc Try.prog Try.f7 false true false false) := by
  refine returnsInHanded_of_change (C := Try.checked) Try.own started (by kernel_rfl) Try.func7
    (ChangeSpec.witness6 (enc := enc) (C := Try.checked) false ⟨#[], #[.int .i64 0], []⟩ 8 (by kernel_rfl) (by kernel_rfl) (by kernel_rfl) (by kernel_rfl)) ?_
  intro W base args ds gs before hval hW _ _
  exact contract H enc W base args ds gs before hval hW

theorem holds : Rows.FnExactAllQueensSaid :=
  OpenClaim.holds_of_wide 7 Try.f7 rfl rfl rfl rfl rfl rfl rfl ⟨rfl, rfl, rfl, rfl, rfl⟩ rfl rfl rfl rfl rfl (by kernel_rfl) Try.func7 (by kernel_rfl)
    (of_decide_eq_true (by kernel_rfl)) (by unfold Func.isWrapper; first | (rw [if_pos (by decide +kernel)]; kernel_rfl) | (rw [if_neg (by decide +kernel)]; exact ⟨rfl, rfl⟩))
    (fun os started H enc _ => lifted os started H enc)

#print axioms holds
end Go.Proofs.Ytmhlpaenfknofaa.lAllQueens
