/- 'FnExactBoardOfLengths' answers true for every input, and leaves it as it was. No condition. -/
import Derived.Test.YtdgkcfpfldaopaaT2
import Derived.Test.YtdgkcfpfldaopaaOpen
import Derived.Test.YtdgkcfpfldaopaaFi
import Derived.Deep.RegionWith
import Derived.Deep.RegionHeld3
import Derived.Deep.DeepCutAuto
namespace Go.Proofs.Ytdgkcfpfldaopaa.lBoardOfLengths
open Go.ChangeShapes Go.WideShapes Go.ChangeAt Go.RowKit Go.Joins

set_option maxRecDepth 100000 in
set_option maxHeartbeats 4000000 in
theorem walk (aLengths_a : Option Addr) (aLengths_p : Nat) (aLengths : List Int) (rr0 cc0 : Int) (ys0 : List Int) (b1 : Bool) (w : World) (aLengths_f : aLengths.length ≤ 1048576) (aLengths_h : Reads w aLengths_a aLengths.length aLengths) (ys0_len : ys0.length ≤ 1048576)
    (hS : ∀ (w : World) (loaLengths : Nat) (aLengths_s : Value), Own w loaLengths aLengths_s aLengths → Calls Try.prog 15 #[aLengths_s] w fun e w' => ∃ s0, e = .returned (.tuple #[.agg #[.int .i64 rr0, .int .i64 cc0, s0], .bool b1]) ∧ Own w' w.heap.size s0 ys0 ∧ Below w.heap.size w w')
    (hI : ∀ (w : World) (loaLengths : Nat) (aLengths_s : Value), Own w loaLengths aLengths_s aLengths → Calls Try.prog 17 #[aLengths_s] w fun e w' => ∃ s0, e = .returned (.tuple #[.agg #[.int .i64 rr0, .int .i64 cc0, s0], .bool b1]) ∧ Own w' w.heap.size s0 ys0 ∧ Below w.heap.size w w') :
    Calls Try.prog 3 #[.slice aLengths_a aLengths.length aLengths_p] w fun e w' => e = .returned (.bool true) ∧ Below w.heap.size w w' := by
  have HS := Lib.hid hS; clear hS
  have HI := Lib.hid hI; clear hI
  have L0 := Law.start w
  have aLengths_l : aLengths.length ≤ 1048576 := aLengths_f
  go_enter Try.func3, Try.ntmps3
  go_wp2_with fail
  refine (toIntS_any aLengths_a aLengths.length aLengths_p aLengths _ aLengths_l (L0.reads aLengths_h)).mono ?_
  rintro e w1 ⟨s2, rfl, O4, hb3⟩
  obtain ⟨a5, p6, rfl, _⟩ := O4.reads
  have L8 := L0.own hb3 O4
  clear L0 hb3 O4
  go_wp2_with fail
  refine (HS.out _ _ _ L8.ownInts).mono ?_
  rintro e w9 ⟨s11, rfl, O12, hb10⟩
  obtain ⟨a14, p15, rfl, _⟩ := O12.reads
  have L17 := L8.own hb10 O12
  clear L8 hb10 O12
  have L18 := L17.box (.int .i64 rr0) (.int .i64 cc0) (.slice a14 ys0.length p15) 24
  clear L17 
  go_wp2_with fail
  refine (toIntS_any aLengths_a aLengths.length aLengths_p aLengths _ aLengths_l (L18.reads aLengths_h)).mono ?_
  rintro e w19 ⟨s20, rfl, O22, hb21⟩
  obtain ⟨a23, p24, rfl, _⟩ := O22.reads
  have L26 := L18.own hb21 O22
  clear L18 hb21 O22
  go_wp2_with fail
  refine (HI.out _ _ _ L26.ownInts).mono ?_
  rintro e w27 ⟨s29, rfl, O30, hb28⟩
  obtain ⟨a32, p33, rfl, _⟩ := O30.reads
  have L35 := L26.own hb28 O30
  clear L26 hb28 O30
  have ⟨_, k36, k37, k38, _⟩ := L35.tl.tl.ownBox
  have L39 := L35.box (.int .i64 rr0) (.int .i64 cc0) (.slice a32 ys0.length p33) 24
  clear L35 
  go_wp2_with fail
  refine (eqBoard_same _ _ ys0 _ _ _ _ _ ys0_len L39.tl.ownInts L39.tl.tl.tl.tl.ownInts).mono ?_
  rintro e w40 ⟨rfl, hb41⟩
  have L42 := L39.kept hb41
  clear L39 hb41 k36 k37 k38
  go_wp2_with fail
  refine (toIntS_any aLengths_a aLengths.length aLengths_p aLengths _ aLengths_l (L42.reads aLengths_h)).mono ?_
  rintro e w43 ⟨s44, rfl, O46, hb45⟩
  obtain ⟨a47, p48, rfl, _⟩ := O46.reads
  have L50 := L42.own hb45 O46
  clear L42 hb45 O46
  go_wp2_with fail
  refine (eqIntS_same aLengths _ _ _ _ _ aLengths_l L50.tl.tl.tl.ownInts L50.ownInts).mono ?_
  rintro e w51 ⟨rfl, hb52⟩
  have L53 := L50.kept hb52
  clear L50 hb52
  go_wp2_with fail
  refine (markIntS_any _ _ aLengths (1) _ aLengths_l (by omega) (by omega) L53.tl.tl.tl.ownInts).mono ?_
  rintro e w54 ⟨rfl, O55, hg56⟩
  have L57 := Law.mark (ts := [_, _, _]) L53 hg56 O55
  simp only [List.cons_append, List.nil_append] at L57
  clear L53 hg56 O55 
  have ⟨_, k58, k59, k60, _⟩ := L57.tl.ownBox
  have ⟨_, k61, k62, k63, _⟩ := L57.tl.tl.tl.tl.ownBox
  go_wp2_with fail
  refine (eqBoard_same _ _ ys0 _ _ _ _ _ ys0_len L57.tl.tl.ownInts L57.tl.tl.tl.tl.tl.ownInts).mono ?_
  rintro e w64 ⟨rfl, hb65⟩
  have L66 := L57.kept hb65
  clear L57 hb65 k58 k59 k60 k61 k62 k63
  have ⟨_, k67, k68, k69, _⟩ := L66.tl.ownBox
  go_wp2_with fail
  refine (markBoard_any _ _ _ ys0 (1) _ _ ys0_len (by omega) (by omega) L66.tl.tl.ownInts).mono ?_
  rintro e w70 ⟨rfl, O71, hg72⟩
  have L73 := Law.mark (ts := [_, _]) L66 hg72 O71
  simp only [List.cons_append, List.nil_append] at L73
  clear L66 hg72 O71 k67 k68 k69
  have ⟨_, k74, k75, k76, _⟩ := L73.tl.ownBox
  go_wp2_with fail
  refine (heldBoard_any _ _ _ ys0.length (1) _ _ ys0_len (by omega) (by omega) L73.tl.tl.ownInts).mono ?_
  rintro e w77 ⟨rfl, hb78⟩
  have L79 := L73.kept hb78
  clear L73 hb78 k74 k75 k76
  go_wp2_with fail
  refine (toIntS_any aLengths_a aLengths.length aLengths_p aLengths _ aLengths_l (L79.reads aLengths_h)).mono ?_
  rintro e w80 ⟨s81, rfl, O83, hb82⟩
  obtain ⟨a84, p85, rfl, _⟩ := O83.reads
  have L87 := L79.own hb82 O83
  clear L79 hb82 O83
  go_wp2_with fail
  refine (HI.out _ _ _ L87.ownInts).mono ?_
  rintro e w88 ⟨s90, rfl, O91, hb89⟩
  obtain ⟨a93, p94, rfl, _⟩ := O91.reads
  have L96 := L87.own hb89 O91
  clear L87 hb89 O91
  have ⟨_, k97, k98, k99, _⟩ := L96.tl.tl.tl.tl.tl.tl.ownBox
  have L100 := L96.box (.int .i64 rr0) (.int .i64 cc0) (.slice a93 ys0.length p94) 24
  clear L96 
  go_wp2_with fail
  refine (eqBoard_same _ _ ys0 _ _ _ _ _ ys0_len L100.tl.ownInts L100.tl.tl.tl.tl.tl.tl.tl.tl.ownInts).mono ?_
  rintro e w101 ⟨rfl, hb102⟩
  have L103 := L100.kept hb102
  clear L100 hb102 k97 k98 k99
  have ⟨_, k104, k105, k106, _⟩ := L103.tl.tl.tl.tl.ownBox
  go_wp2_with fail
  refine (heldBoard_any _ _ _ ys0.length (1) _ _ ys0_len (by omega) (by omega) L103.tl.tl.tl.tl.tl.ownInts).mono ?_
  rintro e w107 ⟨rfl, hb108⟩
  have L109 := L103.kept hb108
  clear L103 hb108 k104 k105 k106
  go_wp2_with fail
  go_ret
  exact ⟨rfl, L109.below⟩

set_option maxRecDepth 100000 in
set_option maxHeartbeats 800000 in
theorem walk_big0 (aLengths_a : Option Addr) (aLengths_p : Nat) (aLengths : List Int) (w : World) (aLengths_m : aLengths.length ≤ 9223372036854775807) (hbig : ¬ aLengths.length ≤ 1048576)  :
    Calls Try.prog 3 #[.slice aLengths_a aLengths.length aLengths_p] w fun e w' => e = .returned (.bool true) ∧ Below w.heap.size w w' := by
  have L0 := Law.start w
  have hb2 : 1048576 < aLengths.length := by omega
  clear hbig
  go_enter Try.func3, Try.ntmps3
  go_wp2_with fail
  go_ret
  exact ⟨rfl, L0.below⟩

theorem walk_all (aLengths_a : Option Addr) (aLengths_p : Nat) (aLengths : List Int) (w : World) (aLengths_m : aLengths.length ≤ 9223372036854775807) (aLengths_h : Reads w aLengths_a aLengths.length aLengths) :
    Calls Try.prog 3 #[.slice aLengths_a aLengths.length aLengths_p] w fun e w' => e = .returned (.bool true) ∧ Below w.heap.size w w' := by
  by_cases c0 : aLengths.length ≤ 1048576
  case neg => exact walk_big0 aLengths_a aLengths_p aLengths w aLengths_m  c0
  have hS : ∀ (w : World) (loaLengths : Nat) (aLengths_s : Value), Own w loaLengths aLengths_s aLengths → Calls Try.prog 15 #[aLengths_s] w (AnsB (bolB aLengths) w) := fun w loaLengths aLengths_s OaLengths => specBol_any aLengths w (by omega) loaLengths aLengths_s OaLengths
  have hI : ∀ (w : World) (loaLengths : Nat) (aLengths_s : Value), Own w loaLengths aLengths_s aLengths → Calls Try.prog 17 #[aLengths_s] w (AnsB (bolB aLengths) w) := fun w loaLengths aLengths_s OaLengths => implBol_any aLengths w (by omega) loaLengths aLengths_s OaLengths
  have hy := bolB_len aLengths
  generalize bolB aLengths = R at *
  obtain ⟨rr0, cc0, ys0, b1⟩ := R
  exact walk aLengths_a aLengths_p aLengths rr0 cc0 ys0 b1 w c0 aLengths_h hy hS hI

set_option maxRecDepth 100000 in
theorem contract (H : Type) (enc : TypeId × Value → H) (W : World) (base : Nat) (args : Array Value) (ds gs : List (DataW H)) (before : List MemPlace)
    (hval : ∀ (j : Nat) t v, Try.f3.params[j]? = some t → args[j]? = some v → Value.okWide Try.prog W .any base t v)
    (hW : DataW.Whole enc Try.prog Try.f3.params.toList Rows.fnExactBoardOfLengthsSpec.vars false W args.toList ds gs before) :
    Calls Try.prog 3 args W fun e W' => ∃ v, e = .returned v ∧ Rows.fnExactBoardOfLengthsSpec.post enc Try.prog Try.f3 false true false false W args v W' := by
  have hW' := hW
  obtain ⟨p, q, hA0, hV, rfl, hfz, hnd⟩ := hW
  have hA : DataW.TrodAll enc Try.prog W 0 (fun _ => true) true Try.f3.params.toList args.toList ds p := hA0
  rw [Try.params3] at hA hval
  obtain ⟨v0, d0, rfl, rfl, h0⟩ := trodAll_one hA
  obtain ⟨rfl, rfl⟩ := trodVars_none hV
  clear hA0
  simp only [List.append_nil] at hW'
  have hlt : ∀ x ∈ p, x.block < W.heap.size := fun x hx => by have := hW'.lt x (by simpa using hx); simpa using this
  have t0 := h0
  obtain ⟨aLengths_a, aLengths_n, aLengths_p, rfl⟩ := okWide_slice Try.underlying22 (hval 0 22 v0 rfl rfl)
  obtain ⟨fu0, hf0⟩ := h0
  obtain ⟨aLengths_m, aLengths, aLengths_h⟩ := reads_of (by simpa [Value.cells] using hf0)
  obtain rfl := aLengths_h.1
  refine (walk_all aLengths_a aLengths_p aLengths W aLengths_m aLengths_h).mono ?_
  rintro e W' ⟨rfl, hb⟩
  exact ⟨_, rfl, _, _, _, [], _, [], hW', trodAll_mk1 (shut_bool Try.underlying4 _), trodAll_mk1 (Below.trod Try.laidOut (by kernel_rfl) (of_decide_eq_true (by kernel_rfl)) t0 hb hlt), rfl, hb.frame _, fun h => by cases h⟩

set_option maxRecDepth 100000 in
theorem lifted (os : Os) (started : os.Started) (H : Type) (enc : TypeId × Value → H) :
    ReturnsInHanded {} Try.checked os 3 .any (Rows.fnExactBoardOfLengthsSpec.pre6 enc Try.prog Try.f3 Rows.fnExactBoardOfLengthsRow.domain false) (Rows.fnExactBoardOfLengthsSpec.post enc Try.prog Try.f3 false true false false) := by
  refine returnsInHanded_of_change (C := Try.checked) Try.own started (by kernel_rfl) Try.func3
    (ChangeSpec.witness6 (enc := enc) (C := Try.checked) false ⟨#[], #[.slice none 0 0], []⟩ 8 (by kernel_rfl) (by kernel_rfl) (by kernel_rfl) (by kernel_rfl)) ?_
  intro W base args ds gs before hval hW _ _
  exact contract H enc W base args ds gs before hval hW

theorem holds : Rows.FnExactBoardOfLengthsSaid :=
  OpenClaim.holds_of_wide 3 Try.f3 rfl rfl rfl rfl rfl rfl rfl ⟨rfl, rfl, rfl, rfl, rfl⟩ rfl rfl rfl rfl rfl (by kernel_rfl) Try.func3 (by kernel_rfl)
    (of_decide_eq_true (by kernel_rfl)) (by unfold Func.isWrapper; first | (rw [if_pos (by decide +kernel)]; kernel_rfl) | (rw [if_neg (by decide +kernel)]; exact ⟨rfl, rfl⟩))
    (fun os started H enc _ => lifted os started H enc)

#print axioms holds
end Go.Proofs.Ytdgkcfpfldaopaa.lBoardOfLengths
