import Derived.Test.YtakdiiccdkjjcabFold4
import Derived.Test.YtakdiiccdkjjcabFold5
import Derived.Test.YtakdiiccdkjjcabFold27
import Derived.Test.YtakdiiccdkjjcabFold29
import Derived.Deep.RegionWith
import Derived.Deep.RegionHeld3
import Derived.Deep.DeepCutAuto
namespace Go.Proofs.Ytakdiiccdkjjcab.lWeightedSumAt
open Go.ChangeShapes Go.WideShapes Go.ChangeAt Go.RowKit Go.Joins

set_option maxRecDepth 100000 in
set_option maxHeartbeats 4000000 in
theorem walk (aLengths_a : Option Addr) (aLengths_p : Nat) (aLengths : List Int) (aQ : Int) (aX : Int) (y0 : Int) (b1 : Bool) (w : World) (aLengths_f : aLengths.length ≤ 1048576) (aLengths_h : Reads w aLengths_a aLengths.length aLengths) 
    (hS : ∀ (w : World) (loaLengths : Nat) (aLengths_s : Value), Own w loaLengths aLengths_s aLengths → Calls Try.prog 49 #[aLengths_s, .int .i64 aQ, .int .i64 aX] w fun e w' => e = .returned (.tuple #[.int .i64 y0, .bool b1]) ∧ Below w.heap.size w w')
    (hI : ∀ (w : World) (loaLengths : Nat) (aLengths_s : Value), Own w loaLengths aLengths_s aLengths → Calls Try.prog 50 #[aLengths_s, .int .i64 aQ, .int .i64 aX] w fun e w' => e = .returned (.tuple #[.int .i64 y0, .bool b1]) ∧ Below w.heap.size w w') :
    Calls Try.prog 13 #[.slice aLengths_a aLengths.length aLengths_p, .int .i64 aQ, .int .i64 aX] w fun e w' => e = .returned (.bool true) ∧ Below w.heap.size w w' := by
  have HS := Lib.hid hS; clear hS
  have HI := Lib.hid hI; clear hI
  have L0 := Law.start w
  have aLengths_l : aLengths.length ≤ 1048576 := aLengths_f
  go_enter Try.func13, Try.ntmps13
  go_wp2_with fail
  refine (toIntS_any aLengths_a aLengths.length aLengths_p aLengths _ aLengths_l (L0.reads aLengths_h)).mono ?_
  rintro e w1 ⟨s2, rfl, O4, hb3⟩
  obtain ⟨a5, p6, rfl, _⟩ := O4.reads
  have L8 := L0.own hb3 O4
  clear L0 hb3 O4
  go_wp2_with fail
  refine (HS.out _ _ _ L8.ownInts).mono ?_
  rintro e w9 ⟨rfl, hb10⟩
  have L12 := L8.kept hb10
  clear L8 hb10
  go_wp2_with fail
  refine (toIntS_any aLengths_a aLengths.length aLengths_p aLengths _ aLengths_l (L12.reads aLengths_h)).mono ?_
  rintro e w13 ⟨s14, rfl, O16, hb15⟩
  obtain ⟨a17, p18, rfl, _⟩ := O16.reads
  have L20 := L12.own hb15 O16
  clear L12 hb15 O16
  go_wp2_with fail
  refine (HI.out _ _ _ L20.ownInts).mono ?_
  rintro e w21 ⟨rfl, hb22⟩
  have L24 := L20.kept hb22
  clear L20 hb22
  go_wp2_with fail
  refine (toIntS_any aLengths_a aLengths.length aLengths_p aLengths _ aLengths_l (L24.reads aLengths_h)).mono ?_
  rintro e w25 ⟨s26, rfl, O28, hb27⟩
  obtain ⟨a29, p30, rfl, _⟩ := O28.reads
  have L32 := L24.own hb27 O28
  clear L24 hb27 O28
  go_wp2_with fail
  refine (eqIntS_same aLengths _ _ _ _ _ aLengths_l L32.tl.ownInts L32.ownInts).mono ?_
  rintro e w33 ⟨rfl, hb34⟩
  have L35 := L32.kept hb34
  clear L32 hb34
  go_wp2_with fail
  go_ret
  exact ⟨rfl, L35.below⟩

set_option maxRecDepth 100000 in
set_option maxHeartbeats 800000 in
theorem walk_big0 (aLengths_a : Option Addr) (aLengths_p : Nat) (aLengths : List Int) (aQ : Int) (aX : Int) (w : World) (aLengths_m : aLengths.length ≤ 9223372036854775807) (hbig : ¬ aLengths.length ≤ 1048576)  :
    Calls Try.prog 13 #[.slice aLengths_a aLengths.length aLengths_p, .int .i64 aQ, .int .i64 aX] w fun e w' => e = .returned (.bool true) ∧ Below w.heap.size w w' := by
  have L0 := Law.start w
  have hb2 : 1048576 < aLengths.length := by omega
  clear hbig
  go_enter Try.func13, Try.ntmps13
  go_wp2_with fail
  go_ret
  exact ⟨rfl, L0.below⟩

theorem walk_all (aLengths_a : Option Addr) (aLengths_p : Nat) (aLengths : List Int) (aQ : Int) (aX : Int) (w : World) (aLengths_m : aLengths.length ≤ 9223372036854775807) (aLengths_h : Reads w aLengths_a aLengths.length aLengths) :
    Calls Try.prog 13 #[.slice aLengths_a aLengths.length aLengths_p, .int .i64 aQ, .int .i64 aX] w fun e w' => e = .returned (.bool true) ∧ Below w.heap.size w w' := by
  by_cases c0 : aLengths.length ≤ 1048576
  case neg => exact walk_big0 aLengths_a aLengths_p aLengths aQ aX w aLengths_m  c0
  have hS : ∀ (w : World) (loaLengths : Nat) (aLengths_s : Value), Own w loaLengths aLengths_s aLengths → Calls Try.prog 49 #[aLengths_s, .int .i64 aQ, .int .i64 aX] w (AnsIO (sumQ aLengths aQ aX) w) := fun w loaLengths aLengths_s OaLengths => specSum_any aLengths aQ aX w (by omega) loaLengths aLengths_s OaLengths
  have hI : ∀ (w : World) (loaLengths : Nat) (aLengths_s : Value), Own w loaLengths aLengths_s aLengths → Calls Try.prog 50 #[aLengths_s, .int .i64 aQ, .int .i64 aX] w (AnsIO (sumQ aLengths aQ aX) w) := fun w loaLengths aLengths_s OaLengths => implSum_any aLengths aQ aX w (by omega) loaLengths aLengths_s OaLengths
  generalize sumQ aLengths aQ aX = R at *
  obtain ⟨y0, b1⟩ := R
  exact walk aLengths_a aLengths_p aLengths aQ aX y0 b1 w c0 aLengths_h  hS hI

set_option maxRecDepth 100000 in
theorem contract (H : Type) (enc : TypeId × Value → H) (W : World) (base : Nat) (args : Array Value) (ds gs : List (DataW H)) (before : List MemPlace)
    (hval : ∀ (j : Nat) t v, Try.f13.params[j]? = some t → args[j]? = some v → Value.okWide Try.prog W .any base t v)
    (hW : DataW.Whole enc Try.prog Try.f13.params.toList Rows.fnExactWeightedSumAtSpec.vars false W args.toList ds gs before) :
    Calls Try.prog 13 args W fun e W' => ∃ v, e = .returned v ∧ Rows.fnExactWeightedSumAtSpec.post enc Try.prog Try.f13 false true false false W args v W' := by
  have hW' := hW
  obtain ⟨p, q, hA0, hV, rfl, hfz, hnd⟩ := hW
  have hA : DataW.TrodAll enc Try.prog W 0 (fun _ => true) true Try.f13.params.toList args.toList ds p := hA0
  rw [Try.params13] at hA hval
  obtain ⟨v0, v1, v2, d0, d1, d2, p0, p1, p2, rfl, rfl, rfl, h0, h1, h2⟩ := trodAll_three hA
  obtain ⟨rfl, rfl⟩ := trodVars_none hV
  clear hA0
  simp only [List.append_nil] at hW'
  have hlt : ∀ x ∈ p0 ++ (p1 ++ p2), x.block < W.heap.size := fun x hx => by have := hW'.lt x (by simpa using hx); simpa using this
  have t0 := h0
  obtain ⟨aLengths_a, aLengths_n, aLengths_p, rfl⟩ := okWide_slice Try.underlying22 (hval 0 22 v0 rfl rfl)
  obtain ⟨fu0, hf0⟩ := h0
  obtain ⟨aLengths_m, aLengths, aLengths_h⟩ := reads_of (by simpa [Value.cells] using hf0)
  obtain rfl := aLengths_h.1
  have t1 := h1
  obtain ⟨aQ, rfl, e1, f1, _⟩ := open_int Try.underlying3 (hval 1 3 v1 rfl rfl) h1
  have t2 := h2
  obtain ⟨aX, rfl, e2, f2, _⟩ := open_int Try.underlying3 (hval 2 3 v2 rfl rfl) h2
  refine (walk_all aLengths_a aLengths_p aLengths aQ aX W aLengths_m aLengths_h).mono ?_
  rintro e W' ⟨rfl, hb⟩
  exact ⟨_, rfl, _, _, _, [], _, [], hW', trodAll_mk1 (shut_bool Try.underlying4 _), trodAll_mk3 (Below.trod Try.laidOut (by kernel_rfl) (of_decide_eq_true (by kernel_rfl)) t0 hb (fun x hx => hlt x (by simp [hx]))) (Below.trod Try.laidOut (by kernel_rfl) (of_decide_eq_true (by kernel_rfl)) t1 hb (fun x hx => hlt x (by simp [hx]))) (Below.trod Try.laidOut (by kernel_rfl) (of_decide_eq_true (by kernel_rfl)) t2 hb (fun x hx => hlt x (by simp [hx]))), rfl, hb.frame _, fun h => by cases h⟩

set_option maxRecDepth 100000 in
theorem lifted (os : Os) (started : os.Started) (H : Type) (enc : TypeId × Value → H) :
    ReturnsInHanded {} Try.checked os 13 .any (Rows.fnExactWeightedSumAtSpec.pre6 enc Try.prog Try.f13 Rows.fnExactWeightedSumAtRow.domain false) (Rows.fnExactWeightedSumAtSpec.post enc Try.prog Try.f13 false true false false) := by
  refine returnsInHanded_of_change (C := Try.checked) Try.own started (by kernel_rfl) Try.func13
    (ChangeSpec.witness6 (enc := enc) (C := Try.checked) false ⟨#[], #[.slice none 0 0, .int .i64 0, .int .i64 0], []⟩ 8 (by kernel_rfl) (by kernel_rfl) (by kernel_rfl) (by kernel_rfl)) ?_
  intro W base args ds gs before hval hW _ _
  exact contract H enc W base args ds gs before hval hW

theorem holds : Rows.FnExactWeightedSumAtSaid :=
  OpenClaim.holds_of_wide 13 Try.f13 rfl rfl rfl rfl rfl rfl rfl ⟨rfl, rfl, rfl, rfl, rfl⟩ rfl rfl rfl rfl rfl (by kernel_rfl) Try.func13 (by kernel_rfl)
    (of_decide_eq_true (by kernel_rfl)) (by unfold Func.isWrapper; first | (rw [if_pos (by decide +kernel)]; kernel_rfl) | (rw [if_neg (by decide +kernel)]; exact ⟨rfl, rfl⟩))
    (fun os started H enc _ => lifted os started H enc)

#print axioms holds
end Go.Proofs.Ytakdiiccdkjjcab.lWeightedSumAt
