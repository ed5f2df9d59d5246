/- 'FnExactFreeCells' answers true for every input, and leaves it as it was. No condition. -/
import Derived.Test.YtdgkcfpfldaopaaT2
import Derived.Test.YtdgkcfpfldaopaaOpen
import Derived.Test.YtdgkcfpfldaopaaKs
import Derived.Deep.RegionWith
import Derived.Deep.RegionHeld3
import Derived.Deep.DeepCutAuto
namespace Go.Proofs.Ytdgkcfpfldaopaa.lFreeCells
open Go.ChangeShapes Go.WideShapes Go.ChangeAt Go.RowKit Go.Joins

set_option maxRecDepth 100000 in
set_option maxHeartbeats 4000000 in
theorem walk (aLengths_a : Option Addr) (aLengths_p : Nat) (aLengths : List Int) (aP_a : Option Addr) (aP_p : Nat) (aP : List Int) (y0 : Int) (b1 : Bool) (w : World) (aLengths_f : aLengths.length ≤ 1048576) (aP_f : aP.length ≤ 1048576) (aLengths_h : Reads w aLengths_a aLengths.length aLengths) (aP_h : Reads w aP_a aP.length aP) 
    (hS : ∀ (w : World) (loaLengths : Nat) (aLengths_s : Value) (loaP : Nat) (aP_s : Value), Own w loaLengths aLengths_s aLengths → Own w loaP aP_s aP → Calls Try.prog 27 #[aLengths_s, aP_s] w fun e w' => e = .returned (.tuple #[.int .i64 y0, .bool b1]) ∧ Below w.heap.size w w')
    (hI : ∀ (w : World) (loaLengths : Nat) (aLengths_s : Value) (loaP : Nat) (aP_s : Value), Own w loaLengths aLengths_s aLengths → Own w loaP aP_s aP → Calls Try.prog 28 #[aLengths_s, aP_s] w fun e w' => e = .returned (.tuple #[.int .i64 y0, .bool b1]) ∧ Below w.heap.size w w') :
    Calls Try.prog 5 #[.slice aLengths_a aLengths.length aLengths_p, .slice aP_a aP.length aP_p] w fun e w' => e = .returned (.bool true) ∧ Below w.heap.size w w' := by
  have HS := Lib.hid hS; clear hS
  have HI := Lib.hid hI; clear hI
  have L0 := Law.start w
  have aLengths_l : aLengths.length ≤ 1048576 := aLengths_f
  have aP_l : aP.length ≤ 1048576 := aP_f
  go_enter Try.func5, Try.ntmps5
  go_wp2_with fail
  refine (toIntS_any aLengths_a aLengths.length aLengths_p aLengths _ aLengths_l (L0.reads aLengths_h)).mono ?_
  rintro e w1 ⟨s2, rfl, O4, hb3⟩
  obtain ⟨a5, p6, rfl, _⟩ := O4.reads
  have L8 := L0.own hb3 O4
  clear L0 hb3 O4
  go_wp2_with fail
  refine (toIntS_any aP_a aP.length aP_p aP _ aP_l (L8.reads aP_h)).mono ?_
  rintro e w9 ⟨s10, rfl, O12, hb11⟩
  obtain ⟨a13, p14, rfl, _⟩ := O12.reads
  have L16 := L8.own hb11 O12
  clear L8 hb11 O12
  go_wp2_with fail
  refine (HS.out _ _ _ _ _ L16.tl.ownInts L16.ownInts).mono ?_
  rintro e w17 ⟨rfl, hb18⟩
  have L20 := L16.kept hb18
  clear L16 hb18
  go_wp2_with fail
  refine (toIntS_any aLengths_a aLengths.length aLengths_p aLengths _ aLengths_l (L20.reads aLengths_h)).mono ?_
  rintro e w21 ⟨s22, rfl, O24, hb23⟩
  obtain ⟨a25, p26, rfl, _⟩ := O24.reads
  have L28 := L20.own hb23 O24
  clear L20 hb23 O24
  go_wp2_with fail
  refine (toIntS_any aP_a aP.length aP_p aP _ aP_l (L28.reads aP_h)).mono ?_
  rintro e w29 ⟨s30, rfl, O32, hb31⟩
  obtain ⟨a33, p34, rfl, _⟩ := O32.reads
  have L36 := L28.own hb31 O32
  clear L28 hb31 O32
  go_wp2_with fail
  refine (HI.out _ _ _ _ _ L36.tl.ownInts L36.ownInts).mono ?_
  rintro e w37 ⟨rfl, hb38⟩
  have L40 := L36.kept hb38
  clear L36 hb38
  go_wp2_with fail
  refine (toIntS_any aLengths_a aLengths.length aLengths_p aLengths _ aLengths_l (L40.reads aLengths_h)).mono ?_
  rintro e w41 ⟨s42, rfl, O44, hb43⟩
  obtain ⟨a45, p46, rfl, _⟩ := O44.reads
  have L48 := L40.own hb43 O44
  clear L40 hb43 O44
  go_wp2_with fail
  refine (eqIntS_same aLengths _ _ _ _ _ aLengths_l L48.tl.tl.ownInts L48.ownInts).mono ?_
  rintro e w49 ⟨rfl, hb50⟩
  have L51 := L48.kept hb50
  clear L48 hb50
  go_wp2_with fail
  refine (toIntS_any aP_a aP.length aP_p aP _ aP_l (L51.reads aP_h)).mono ?_
  rintro e w52 ⟨s53, rfl, O55, hb54⟩
  obtain ⟨a56, p57, rfl, _⟩ := O55.reads
  have L59 := L51.own hb54 O55
  clear L51 hb54 O55
  go_wp2_with fail
  refine (eqIntS_same aP _ _ _ _ _ aP_l L59.tl.tl.ownInts L59.ownInts).mono ?_
  rintro e w60 ⟨rfl, hb61⟩
  have L62 := L59.kept hb61
  clear L59 hb61
  go_wp2_with fail
  go_ret
  exact ⟨rfl, L62.below⟩

set_option maxRecDepth 100000 in
set_option maxHeartbeats 800000 in
theorem walk_big0 (aLengths_a : Option Addr) (aLengths_p : Nat) (aLengths : List Int) (aP_a : Option Addr) (aP_p : Nat) (aP : List Int) (w : World) (aLengths_m : aLengths.length ≤ 9223372036854775807) (hbig : ¬ aLengths.length ≤ 1048576)  :
    Calls Try.prog 5 #[.slice aLengths_a aLengths.length aLengths_p, .slice aP_a aP.length aP_p] w fun e w' => e = .returned (.bool true) ∧ Below w.heap.size w w' := by
  have L0 := Law.start w
  have hb2 : 1048576 < aLengths.length := by omega
  clear hbig
  go_enter Try.func5, Try.ntmps5
  go_wp2_with fail
  go_ret
  exact ⟨rfl, L0.below⟩

set_option maxRecDepth 100000 in
set_option maxHeartbeats 800000 in
theorem walk_big1 (aLengths_a : Option Addr) (aLengths_p : Nat) (aLengths : List Int) (aP_a : Option Addr) (aP_p : Nat) (aP : List Int) (w : World) (aLengths_m : aLengths.length ≤ 9223372036854775807) (aP_m : aP.length ≤ 9223372036854775807) (aLengths_f : aLengths.length ≤ 1048576) (hbig : ¬ aP.length ≤ 1048576)  :
    Calls Try.prog 5 #[.slice aLengths_a aLengths.length aLengths_p, .slice aP_a aP.length aP_p] w fun e w' => e = .returned (.bool true) ∧ Below w.heap.size w w' := by
  have L0 := Law.start w
  have hb2 : 1048576 < aP.length := by omega
  clear hbig
  go_enter Try.func5, Try.ntmps5
  go_wp2_with fail
  go_ret
  exact ⟨rfl, L0.below⟩

theorem walk_all (aLengths_a : Option Addr) (aLengths_p : Nat) (aLengths : List Int) (aP_a : Option Addr) (aP_p : Nat) (aP : List Int) (w : World) (aLengths_m : aLengths.length ≤ 9223372036854775807) (aP_m : aP.length ≤ 9223372036854775807) (aLengths_h : Reads w aLengths_a aLengths.length aLengths) (aP_h : Reads w aP_a aP.length aP) :
    Calls Try.prog 5 #[.slice aLengths_a aLengths.length aLengths_p, .slice aP_a aP.length aP_p] w fun e w' => e = .returned (.bool true) ∧ Below w.heap.size w w' := by
  by_cases c0 : aLengths.length ≤ 1048576
  case neg => exact walk_big0 aLengths_a aLengths_p aLengths aP_a aP_p aP w aLengths_m  c0
  by_cases c1 : aP.length ≤ 1048576
  case neg => exact walk_big1 aLengths_a aLengths_p aLengths aP_a aP_p aP w aLengths_m aP_m c0 c1
  have hS : ∀ (w : World) (loaLengths : Nat) (aLengths_s : Value) (loaP : Nat) (aP_s : Value), Own w loaLengths aLengths_s aLengths → Own w loaP aP_s aP → Calls Try.prog 27 #[aLengths_s, aP_s] w (AnsIO (freeR aLengths aP) w) := fun w loaLengths aLengths_s loaP aP_s OaLengths OaP => specFree_any aLengths aP w (by omega) (by omega) loaLengths aLengths_s loaP aP_s OaLengths OaP
  have hI : ∀ (w : World) (loaLengths : Nat) (aLengths_s : Value) (loaP : Nat) (aP_s : Value), Own w loaLengths aLengths_s aLengths → Own w loaP aP_s aP → Calls Try.prog 28 #[aLengths_s, aP_s] w (AnsIO (freeR aLengths aP) w) := fun w loaLengths aLengths_s loaP aP_s OaLengths OaP => implFree_any aLengths aP w (by omega) (by omega) loaLengths aLengths_s loaP aP_s OaLengths OaP
  generalize freeR aLengths aP = R at *
  obtain ⟨y0, b1⟩ := R
  exact walk aLengths_a aLengths_p aLengths aP_a aP_p aP y0 b1 w c0 c1 aLengths_h aP_h  hS hI

set_option maxRecDepth 100000 in
theorem contract (H : Type) (enc : TypeId × Value → H) (W : World) (base : Nat) (args : Array Value) (ds gs : List (DataW H)) (before : List MemPlace)
    (hval : ∀ (j : Nat) t v, Try.f5.params[j]? = some t → args[j]? = some v → Value.okWide Try.prog W .any base t v)
    (hW : DataW.Whole enc Try.prog Try.f5.params.toList Rows.fnExactFreeCellsSpec.vars false W args.toList ds gs before) :
    Calls Try.prog 5 args W fun e W' => ∃ v, e = .returned v ∧ Rows.fnExactFreeCellsSpec.post enc Try.prog Try.f5 false true false false W args v W' := by
  have hW' := hW
  obtain ⟨p, q, hA0, hV, rfl, hfz, hnd⟩ := hW
  have hA : DataW.TrodAll enc Try.prog W 0 (fun _ => true) true Try.f5.params.toList args.toList ds p := hA0
  rw [Try.params5] at hA hval
  obtain ⟨v0, v1, d0, d1, p0, p1, rfl, rfl, rfl, h0, h1⟩ := trodAll_two hA
  obtain ⟨rfl, rfl⟩ := trodVars_none hV
  clear hA0
  simp only [List.append_nil] at hW'
  have hlt : ∀ x ∈ p0 ++ p1, x.block < W.heap.size := fun x hx => by have := hW'.lt x (by simpa using hx); simpa using this
  have t0 := h0
  obtain ⟨aLengths_a, aLengths_n, aLengths_p, rfl⟩ := okWide_slice Try.underlying22 (hval 0 22 v0 rfl rfl)
  obtain ⟨fu0, hf0⟩ := h0
  obtain ⟨aLengths_m, aLengths, aLengths_h⟩ := reads_of (by simpa [Value.cells] using hf0)
  obtain rfl := aLengths_h.1
  have t1 := h1
  obtain ⟨aP_a, aP_n, aP_p, rfl⟩ := okWide_slice Try.underlying22 (hval 1 22 v1 rfl rfl)
  obtain ⟨fu1, hf1⟩ := h1
  obtain ⟨aP_m, aP, aP_h⟩ := reads_of (by simpa [Value.cells] using hf1)
  obtain rfl := aP_h.1
  refine (walk_all aLengths_a aLengths_p aLengths aP_a aP_p aP W aLengths_m aP_m aLengths_h aP_h).mono ?_
  rintro e W' ⟨rfl, hb⟩
  exact ⟨_, rfl, _, _, _, [], _, [], hW', trodAll_mk1 (shut_bool Try.underlying4 _), trodAll_mk2 (Below.trod Try.laidOut (by kernel_rfl) (of_decide_eq_true (by kernel_rfl)) t0 hb (fun x hx => hlt x (by simp [hx]))) (Below.trod Try.laidOut (by kernel_rfl) (of_decide_eq_true (by kernel_rfl)) t1 hb (fun x hx => hlt x (by simp [hx]))), rfl, hb.frame _, fun h => by cases h⟩

set_option maxRecDepth 100000 in
theorem lifted (os : Os) (started : os.Started) (H : Type) (enc : TypeId × Value → H) :
    ReturnsInHanded {} Try.checked os 5 .any (Rows.fnExactFreeCellsSpec.pre6 enc Try.prog Try.f5 Rows.fnExactFreeCellsRow.domain false) (Rows.fnExactFreeCellsSpec.post enc Try.prog Try.f5 false true false false) := by
  refine returnsInHanded_of_change (C := Try.checked) Try.own started (by kernel_rfl) Try.func5
    (ChangeSpec.witness6 (enc := enc) (C := Try.checked) false ⟨#[], #[.slice none 0 0, .slice none 0 0], []⟩ 8 (by kernel_rfl) (by kernel_rfl) (by kernel_rfl) (by kernel_rfl)) ?_
  intro W base args ds gs before hval hW _ _
  exact contract H enc W base args ds gs before hval hW

theorem holds : Rows.FnExactFreeCellsSaid :=
  OpenClaim.holds_of_wide 5 Try.f5 rfl rfl rfl rfl rfl rfl rfl ⟨rfl, rfl, rfl, rfl, rfl⟩ rfl rfl rfl rfl rfl (by kernel_rfl) Try.func5 (by kernel_rfl)
    (of_decide_eq_true (by kernel_rfl)) (by unfold Func.isWrapper; first | (rw [if_pos (by decide +kernel)]; kernel_rfl) | (rw [if_neg (by decide +kernel)]; exact ⟨rfl, rfl⟩))
    (fun os started H enc _ => lifted os started H enc)

#print axioms holds
end Go.Proofs.Ytdgkcfpfldaopaa.lFreeCells
