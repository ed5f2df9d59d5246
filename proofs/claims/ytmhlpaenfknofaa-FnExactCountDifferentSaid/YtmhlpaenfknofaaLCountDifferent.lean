/- 'FnExactCountDifferent' answers true for every input, and leaves it as it was. No condition. -/
import Derived.Test.YtmhlpaenfknofaaT2
import Derived.Test.YtmhlpaenfknofaaOpen
import Derived.Test.YtmhlpaenfknofaaUr
import Derived.Deep.RegionWith
import Derived.Deep.RegionHeld3
import Derived.Deep.DeepCutAuto
namespace Go.Proofs.Ytmhlpaenfknofaa.lCountDifferent
open Go.ChangeShapes Go.WideShapes Go.ChangeAt Go.RowKit Go.Joins

set_option maxRecDepth 100000 in
set_option maxHeartbeats 4000000 in
theorem walk (aN : Int) (y0 : Int) (b1 : Bool) (w : World)  
    (hS : ∀ (w : World), Calls Try.prog 36 #[.int .i64 aN] w fun e w' => e = .returned (.tuple #[.int .i64 y0, .bool b1]) ∧ Below w.heap.size w w')
    (hI : ∀ (w : World), Calls Try.prog 37 #[.int .i64 aN] w fun e w' => e = .returned (.tuple #[.int .i64 y0, .bool b1]) ∧ Below w.heap.size w w') :
    Calls Try.prog 10 #[.int .i64 aN] w fun e w' => e = .returned (.bool true) ∧ Below w.heap.size w w' := by
  have HS := Lib.hid hS; clear hS
  have HI := Lib.hid hI; clear hI
  have L0 := Law.start w
  go_enter Try.func10, Try.ntmps10
  go_wp2_with fail
  refine (HS.out _  ).mono ?_
  rintro e w1 ⟨rfl, hb2⟩
  have L4 := L0.kept hb2
  clear L0 hb2
  go_wp2_with fail
  refine (HI.out _  ).mono ?_
  rintro e w5 ⟨rfl, hb6⟩
  have L8 := L4.kept hb6
  clear L4 hb6
  go_wp2_with fail
  go_ret
  exact ⟨rfl, L8.below⟩

theorem walk_all (aN : Int) (w : World)   :
    Calls Try.prog 10 #[.int .i64 aN] w fun e w' => e = .returned (.bool true) ∧ Below w.heap.size w w' := by
  have hS : ∀ (w : World), Calls Try.prog 36 #[.int .i64 aN] w (AnsIO (difR aN) w) := fun w   => specDif_any aN w   
  have hI : ∀ (w : World), Calls Try.prog 37 #[.int .i64 aN] w (AnsIO (difR aN) w) := fun w   => implDif_any aN w   
  generalize difR aN = R at *
  obtain ⟨y0, b1⟩ := R
  exact walk aN y0 b1 w    hS hI

set_option maxRecDepth 100000 in
theorem contract (H : Type) (enc : TypeId × Value → H) (W : World) (base : Nat) (args : Array Value) (ds gs : List (DataW H)) (before : List MemPlace)
    (hval : ∀ (j : Nat) t v, Try.f10.params[j]? = some t → args[j]? = some v → Value.okWide Try.prog W .any base t v)
    (hW : DataW.Whole enc Try.prog Try.f10.params.toList Rows.fnExactCountDifferentSpec.vars false W args.toList ds gs before) :
    Calls Try.prog 10 args W fun e W' => ∃ v, e = .returned v ∧ Rows.fnExactCountDifferentSpec.post enc Try.prog Try.f10 false true false false W args v W' := by
  have hW' := hW
  obtain ⟨p, q, hA0, hV, rfl, hfz, hnd⟩ := hW
  have hA : DataW.TrodAll enc Try.prog W 0 (fun _ => true) true Try.f10.params.toList args.toList ds p := hA0
  rw [Try.params10] at hA hval
  obtain ⟨v0, d0, rfl, rfl, h0⟩ := trodAll_one hA
  obtain ⟨rfl, rfl⟩ := trodVars_none hV
  clear hA0
  simp only [List.append_nil] at hW'
  have hlt : ∀ x ∈ p, x.block < W.heap.size := fun x hx => by have := hW'.lt x (by simpa using hx); simpa using this
  have t0 := h0
  obtain ⟨aN, rfl, e0, f0, _⟩ := open_int Try.underlying3 (hval 0 3 v0 rfl rfl) h0
  refine (walk_all aN W  ).mono ?_
  rintro e W' ⟨rfl, hb⟩
  exact ⟨_, rfl, _, _, _, [], _, [], hW', trodAll_mk1 (shut_bool Try.underlying4 _), trodAll_mk1 (Below.trod Try.laidOut (by kernel_rfl) (of_decide_eq_true (by kernel_rfl)) t0 hb hlt), rfl, hb.frame _, fun h => by cases h⟩

set_option maxRecDepth 100000 in
theorem lifted (os : Os) (started : os.Started) (H : Type) (enc : TypeId × Value → H) :
    ReturnsInHanded {} Try.checked os 10 .any (Rows.fnExactCountDifferentSpec.pre6 enc Try.prog Try.f10 Rows.fnExactCountDifferentRow.domain false) (Rows.fnExactCountDifferentSpec.post enc Try.prog Try.f10 false true false false) := by
  refine returnsInHanded_of_change (C := Try.checked) Try.own started (by kernel_rfl) Try.func10
    (ChangeSpec.witness6 (enc := enc) (C := Try.checked) false ⟨#[], #[.int .i64 0], []⟩ 8 (by kernel_rfl) (by kernel_rfl) (by kernel_rfl) (by kernel_rfl)) ?_
  intro W base args ds gs before hval hW _ _
  exact contract H enc W base args ds gs before hval hW

theorem holds : Rows.FnExactCountDifferentSaid :=
  OpenClaim.holds_of_wide 10 Try.f10 rfl rfl rfl rfl rfl rfl rfl ⟨rfl, rfl, rfl, rfl, rfl⟩ rfl rfl rfl rfl rfl (by kernel_rfl) Try.func10 (by kernel_rfl)
    (of_decide_eq_true (by kernel_rfl)) (by unfold Func.isWrapper; first | (rw [if_pos (by decide +kernel)]; kernel_rfl) | (rw [if_neg (by decide +kernel)]; exact ⟨rfl, rfl⟩))
    (fun os started H enc _ => lifted os started H enc)

#print axioms holds
end Go.Proofs.Ytmhlpaenfknofaa.lCountDifferent
