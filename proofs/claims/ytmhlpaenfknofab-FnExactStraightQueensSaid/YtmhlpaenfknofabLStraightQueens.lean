/- 'FnExactStraightQueens' answers true for every input, and leaves it as it was. No condition. -/
import Derived.Test.YtmhlpaenfknofabT2
import Derived.Test.YtmhlpaenfknofabOpen
import Derived.Test.YtmhlpaenfknofabUk
import Derived.Deep.RegionWith
import Derived.Deep.RegionHeld3
import Derived.Deep.DeepCutAuto
namespace Go.Proofs.Ytmhlpaenfknofab.lStraightQueens
open Go.ChangeShapes Go.WideShapes Go.ChangeAt Go.RowKit Go.Joins

set_option maxRecDepth 100000 in
set_option maxHeartbeats 4000000 in
theorem walk (aN : Int) (aStep : Int) (ys0 : List Int) (b1 : Bool) (w : World)  (ys0_len : ys0.length ≤ 1048576)
    (hS : ∀ (w : World), Calls Try.prog 16 #[.int .i64 aN, .int .i64 aStep] w fun e w' => ∃ s0, e = .returned (.tuple #[s0, .bool b1]) ∧ Own w' w.heap.size s0 ys0 ∧ Below w.heap.size w w')
    (hI : ∀ (w : World), Calls Try.prog 17 #[.int .i64 aN, .int .i64 aStep] w fun e w' => ∃ s0, e = .returned (.tuple #[s0, .bool b1]) ∧ Own w' w.heap.size s0 ys0 ∧ Below w.heap.size w w') :
    Calls Try.prog 4 #[.int .i64 aN, .int .i64 aStep] w fun e w' => e = .returned (.bool true) ∧ Below w.heap.size w w' := by
  have HS := Lib.hid hS; clear hS
  have HI := Lib.hid hI; clear hI
  have L0 := Law.start w
  go_enter Try.func4, Try.ntmps4
  go_wp2_with fail
  refine (HS.out _  ).mono ?_
  rintro e w1 ⟨s3, rfl, O4, hb2⟩
  obtain ⟨a6, p7, rfl, _⟩ := O4.reads
  have L9 := L0.own hb2 O4
  clear L0 hb2 O4
  go_wp2_with fail
  refine (HI.out _  ).mono ?_
  rintro e w10 ⟨s12, rfl, O13, hb11⟩
  obtain ⟨a15, p16, rfl, _⟩ := O13.reads
  have L18 := L9.own hb11 O13
  clear L9 hb11 O13
  go_wp2_with fail
  refine (eqIntS_same ys0 _ _ _ _ _ ys0_len L18.ownInts L18.tl.ownInts).mono ?_
  rintro e w19 ⟨rfl, hb20⟩
  have L21 := L18.kept hb20
  clear L18 hb20
  go_wp2_with fail
  refine (markIntS_any _ _ ys0 (1) _ ys0_len (by omega) (by omega) L21.ownInts).mono ?_
  rintro e w22 ⟨rfl, O23, hg24⟩
  have L25 := Law.mark (ts := []) L21 hg24 O23
  simp only [List.nil_append] at L25
  clear L21 hg24 O23 
  go_wp2_with fail
  refine (heldIntS_below _ _ ys0.length (1) _ ys0_len (by omega) (by omega) L25.ownInts).mono ?_
  rintro e w26 ⟨rfl, hb27⟩
  have L28 := L25.kept hb27
  clear L25 hb27
  go_wp2_with fail
  refine (HI.out _  ).mono ?_
  rintro e w29 ⟨s31, rfl, O32, hb30⟩
  obtain ⟨a34, p35, rfl, _⟩ := O32.reads
  have L37 := L28.own hb30 O32
  clear L28 hb30 O32
  go_wp2_with fail
  refine (eqIntS_same ys0 _ _ _ _ _ ys0_len L37.ownInts L37.tl.tl.ownInts).mono ?_
  rintro e w38 ⟨rfl, hb39⟩
  have L40 := L37.kept hb39
  clear L37 hb39
  go_wp2_with fail
  refine (heldIntS_below _ _ ys0.length (1) _ ys0_len (by omega) (by omega) L40.tl.ownInts).mono ?_
  rintro e w41 ⟨rfl, hb42⟩
  have L43 := L40.kept hb42
  clear L40 hb42
  go_wp2_with fail
  go_ret
  exact ⟨rfl, L43.below⟩

theorem walk_all (aN : Int) (aStep : Int) (w : World)   :
    Calls Try.prog 4 #[.int .i64 aN, .int .i64 aStep] w fun e w' => e = .returned (.bool true) ∧ Below w.heap.size w w' := by
  have hS : ∀ (w : World), Calls Try.prog 16 #[.int .i64 aN, .int .i64 aStep] w (AnsL (strR aN aStep) w) := fun w   => specStr_any aN aStep w   
  have hI : ∀ (w : World), Calls Try.prog 17 #[.int .i64 aN, .int .i64 aStep] w (AnsL (strR aN aStep) w) := fun w   => implStr_any aN aStep w   
  have hy := strR_len aN aStep
  generalize strR aN aStep = R at *
  obtain ⟨ys0, b1⟩ := R
  exact walk aN aStep ys0 b1 w   hy hS hI

set_option maxRecDepth 100000 in
theorem contract (H : Type) (enc : TypeId × Value → H) (W : World) (base : Nat) (args : Array Value) (ds gs : List (DataW H)) (before : List MemPlace)
    (hval : ∀ (j : Nat) t v, Try.f4.params[j]? = some t → args[j]? = some v → Value.okWide Try.prog W .any base t v)
    (hW : DataW.Whole enc Try.prog Try.f4.params.toList Rows.fnExactStraightQueensSpec.vars false W args.toList ds gs before) :
    Calls Try.prog 4 args W fun e W' => ∃ v, e = .returned v ∧ Rows.fnExactStraightQueensSpec.post enc Try.prog Try.f4 false true false false W args v W' := by
  have hW' := hW
  obtain ⟨p, q, hA0, hV, rfl, hfz, hnd⟩ := hW
  have hA : DataW.TrodAll enc Try.prog W 0 (fun _ => true) true Try.f4.params.toList args.toList ds p := hA0
  rw [Try.params4] at hA hval
  obtain ⟨v0, v1, d0, d1, p0, p1, rfl, rfl, rfl, h0, h1⟩ := trodAll_two hA
  obtain ⟨rfl, rfl⟩ := trodVars_none hV
  clear hA0
  simp only [List.append_nil] at hW'
  have hlt : ∀ x ∈ p0 ++ p1, x.block < W.heap.size := fun x hx => by have := hW'.lt x (by simpa using hx); simpa using this
  have t0 := h0
  obtain ⟨aN, rfl, e0, f0, _⟩ := open_int Try.underlying3 (hval 0 3 v0 rfl rfl) h0
  have t1 := h1
  obtain ⟨aStep, rfl, e1, f1, _⟩ := open_int Try.underlying3 (hval 1 3 v1 rfl rfl) h1
  refine (walk_all aN aStep W  ).mono ?_
  rintro e W' ⟨rfl, hb⟩
  exact ⟨_, rfl, _, _, _, [], _, [], hW', trodAll_mk1 (shut_bool Try.underlying4 _), trodAll_mk2 (Below.trod Try.laidOut (by kernel_rfl) (of_decide_eq_true (by kernel_rfl)) t0 hb (fun x hx => hlt x (by simp [hx]))) (Below.trod Try.laidOut (by kernel_rfl) (of_decide_eq_true (by kernel_rfl)) t1 hb (fun x hx => hlt x (by simp [hx]))), rfl, hb.frame _, fun h => by cases h⟩

set_option maxRecDepth 100000 in
theorem lifted (os : Os) (started : os.Started) (H : Type) (enc : TypeId × Value → H) :
    ReturnsInHanded {} Try.checked os 4 .any (Rows.fnExactStraightQueensSpec.pre6 enc Try.prog Try.f4 Rows.fnExactStraightQueensRow.domain false) (Rows.fnExactStraightQueensSpec.post enc Try.prog Try.f4 false true false false) := by
  refine returnsInHanded_of_change (C := Try.checked) Try.own started (by kernel_rfl) Try.func4
    (ChangeSpec.witness6 (enc := enc) (C := Try.checked) false ⟨#[], #[.int .i64 0, .int .i64 0], []⟩ 8 (by kernel_rfl) (by kernel_rfl) (by kernel_rfl) (by kernel_rfl)) ?_
  intro W base args ds gs before hval hW _ _
  exact contract H enc W base args ds gs before hval hW

theorem holds : Rows.FnExactStraightQueensSaid :=
  OpenClaim.holds_of_wide 4 Try.f4 rfl rfl rfl rfl rfl rfl rfl ⟨rfl, rfl, rfl, rfl, rfl⟩ rfl rfl rfl rfl rfl (by kernel_rfl) Try.func4 (by kernel_rfl)
    (of_decide_eq_true (by kernel_rfl)) (by unfold Func.isWrapper; first | (rw [if_pos (by decide +kernel)]; kernel_rfl) | (rw [if_neg (by decide +kernel)]; exact ⟨rfl, rfl⟩))
    (fun os started H enc _ => lifted os started H enc)

#print axioms holds
end Go.Proofs.Ytmhlpaenfknofab.lStraightQueens
