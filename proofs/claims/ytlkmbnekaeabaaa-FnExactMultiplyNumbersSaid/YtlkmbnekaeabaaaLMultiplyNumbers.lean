/- 'FnExactMultiplyNumbers' answers true for every input, and leaves it as it was. No condition. -/
import Derived.Test.YtlkmbnekaeabaaaT2
import Derived.Test.YtlkmbnekaeabaaaOpen
import Derived.Test.YtlkmbnekaeabaaaMv
import Derived.Deep.RegionWith
import Derived.Deep.RegionHeld3
import Derived.Deep.DeepCutAuto
namespace Go.Proofs.Ytlkmbnekaeabaaa.lMultiplyNumbers
open Go.ChangeShapes Go.WideShapes Go.ChangeAt Go.RowKit Go.Joins

set_option maxRecDepth 100000 in
set_option maxHeartbeats 4000000 in
theorem walk (aA_a : Option Addr) (aA_p : Nat) (aA : List Int) (aB_a : Option Addr) (aB_p : Nat) (aB : List Int) (ys0 : List Int) (b1 : Bool) (w : World) (aA_f : aA.length ≤ 1048576) (aB_f : aB.length ≤ 1048576) (aA_h : Reads w aA_a aA.length aA) (aB_h : Reads w aB_a aB.length aB) (ys0_len : ys0.length ≤ 1048576)
    (hS : ∀ (w : World) (loaA : Nat) (aA_s : Value) (loaB : Nat) (aB_s : Value), Own w loaA aA_s aA → Own w loaB aB_s aB → Calls Try.prog 45 #[aA_s, aB_s] w fun e w' => ∃ s0, e = .returned (.tuple #[s0, .bool b1]) ∧ Own w' w.heap.size s0 ys0 ∧ Below w.heap.size w w')
    (hI : ∀ (w : World) (loaA : Nat) (aA_s : Value) (loaB : Nat) (aB_s : Value), Own w loaA aA_s aA → Own w loaB aB_s aB → Calls Try.prog 46 #[aA_s, aB_s] w fun e w' => ∃ s0, e = .returned (.tuple #[s0, .bool b1]) ∧ Own w' w.heap.size s0 ys0 ∧ Below w.heap.size w w') :
    Calls Try.prog 13 #[.slice aA_a aA.length aA_p, .slice aB_a aB.length aB_p] w fun e w' => e = .returned (.bool true) ∧ Below w.heap.size w w' := by
  have HS := Lib.hid hS; clear hS
  have HI := Lib.hid hI; clear hI
  have L0 := Law.start w
  have aA_l : aA.length ≤ 1048576 := aA_f
  have aB_l : aB.length ≤ 1048576 := aB_f
  go_enter Try.func13, Try.ntmps13
  go_wp2_with fail
  refine (toIntS_any aA_a aA.length aA_p aA _ aA_l (L0.reads aA_h)).mono ?_
  rintro e w1 ⟨s2, rfl, O4, hb3⟩
  obtain ⟨a5, p6, rfl, _⟩ := O4.reads
  have L8 := L0.own hb3 O4
  clear L0 hb3 O4
  go_wp2_with fail
  refine (toIntS_any aB_a aB.length aB_p aB _ aB_l (L8.reads aB_h)).mono ?_
  rintro e w9 ⟨s10, rfl, O12, hb11⟩
  obtain ⟨a13, p14, rfl, _⟩ := O12.reads
  have L16 := L8.own hb11 O12
  clear L8 hb11 O12
  go_wp2_with fail
  refine (HS.out _ _ _ _ _ L16.tl.ownInts L16.ownInts).mono ?_
  rintro e w17 ⟨s19, rfl, O20, hb18⟩
  obtain ⟨a22, p23, rfl, _⟩ := O20.reads
  have L25 := L16.own hb18 O20
  clear L16 hb18 O20
  go_wp2_with fail
  refine (toIntS_any aA_a aA.length aA_p aA _ aA_l (L25.reads aA_h)).mono ?_
  rintro e w26 ⟨s27, rfl, O29, hb28⟩
  obtain ⟨a30, p31, rfl, _⟩ := O29.reads
  have L33 := L25.own hb28 O29
  clear L25 hb28 O29
  go_wp2_with fail
  refine (toIntS_any aB_a aB.length aB_p aB _ aB_l (L33.reads aB_h)).mono ?_
  rintro e w34 ⟨s35, rfl, O37, hb36⟩
  obtain ⟨a38, p39, rfl, _⟩ := O37.reads
  have L41 := L33.own hb36 O37
  clear L33 hb36 O37
  go_wp2_with fail
  refine (HI.out _ _ _ _ _ L41.tl.ownInts L41.ownInts).mono ?_
  rintro e w42 ⟨s44, rfl, O45, hb43⟩
  obtain ⟨a47, p48, rfl, _⟩ := O45.reads
  have L50 := L41.own hb43 O45
  clear L41 hb43 O45
  go_wp2_with fail
  refine (eqIntS_same ys0 _ _ _ _ _ ys0_len L50.ownInts L50.tl.tl.tl.ownInts).mono ?_
  rintro e w51 ⟨rfl, hb52⟩
  have L53 := L50.kept hb52
  clear L50 hb52
  go_wp2_with fail
  refine (toIntS_any aA_a aA.length aA_p aA _ aA_l (L53.reads aA_h)).mono ?_
  rintro e w54 ⟨s55, rfl, O57, hb56⟩
  obtain ⟨a58, p59, rfl, _⟩ := O57.reads
  have L61 := L53.own hb56 O57
  clear L53 hb56 O57
  go_wp2_with fail
  refine (eqIntS_same aA _ _ _ _ _ aA_l L61.tl.tl.tl.ownInts L61.ownInts).mono ?_
  rintro e w62 ⟨rfl, hb63⟩
  have L64 := L61.kept hb63
  clear L61 hb63
  go_wp2_with fail
  refine (toIntS_any aB_a aB.length aB_p aB _ aB_l (L64.reads aB_h)).mono ?_
  rintro e w65 ⟨s66, rfl, O68, hb67⟩
  obtain ⟨a69, p70, rfl, _⟩ := O68.reads
  have L72 := L64.own hb67 O68
  clear L64 hb67 O68
  go_wp2_with fail
  refine (eqIntS_same aB _ _ _ _ _ aB_l L72.tl.tl.tl.ownInts L72.ownInts).mono ?_
  rintro e w73 ⟨rfl, hb74⟩
  have L75 := L72.kept hb74
  clear L72 hb74
  go_wp2_with fail
  refine (markIntS_any _ _ aA (1) _ aA_l (by omega) (by omega) L75.tl.tl.tl.tl.ownInts).mono ?_
  rintro e w76 ⟨rfl, O77, hg78⟩
  have L79 := Law.mark (ts := [_, _, _, _]) L75 hg78 O77
  simp only [List.cons_append, List.nil_append] at L79
  clear L75 hg78 O77 
  go_wp2_with fail
  refine (markIntS_any _ _ aB (1 + aA.length) _ aB_l (by omega) (by omega) L79.tl.tl.tl.ownInts).mono ?_
  rintro e w80 ⟨rfl, O81, hg82⟩
  have L83 := Law.mark (ts := [_, _, _]) L79 hg82 O81
  simp only [List.cons_append, List.nil_append] at L83
  clear L79 hg82 O81 
  go_wp2_with fail
  refine (eqIntS_same ys0 _ _ _ _ _ ys0_len L83.tl.tl.ownInts L83.tl.tl.tl.tl.tl.ownInts).mono ?_
  rintro e w84 ⟨rfl, hb85⟩
  have L86 := L83.kept hb85
  clear L83 hb85
  go_wp2_with fail
  refine (markIntS_any _ _ ys0 (1) _ ys0_len (by omega) (by omega) L86.tl.tl.ownInts).mono ?_
  rintro e w87 ⟨rfl, O88, hg89⟩
  have L90 := Law.mark (ts := [_, _]) L86 hg89 O88
  simp only [List.cons_append, List.nil_append] at L90
  clear L86 hg89 O88 
  go_wp2_with fail
  refine (heldIntS_below _ _ ys0.length (1) _ ys0_len (by omega) (by omega) L90.tl.tl.ownInts).mono ?_
  rintro e w91 ⟨rfl, hb92⟩
  have L93 := L90.kept hb92
  clear L90 hb92
  go_wp2_with fail
  refine (toIntS_any aA_a aA.length aA_p aA _ aA_l (L93.reads aA_h)).mono ?_
  rintro e w94 ⟨s95, rfl, O97, hb96⟩
  obtain ⟨a98, p99, rfl, _⟩ := O97.reads
  have L101 := L93.own hb96 O97
  clear L93 hb96 O97
  go_wp2_with fail
  refine (toIntS_any aB_a aB.length aB_p aB _ aB_l (L101.reads aB_h)).mono ?_
  rintro e w102 ⟨s103, rfl, O105, hb104⟩
  obtain ⟨a106, p107, rfl, _⟩ := O105.reads
  have L109 := L101.own hb104 O105
  clear L101 hb104 O105
  go_wp2_with fail
  refine (HI.out _ _ _ _ _ L109.tl.ownInts L109.ownInts).mono ?_
  rintro e w110 ⟨s112, rfl, O113, hb111⟩
  obtain ⟨a115, p116, rfl, _⟩ := O113.reads
  have L118 := L109.own hb111 O113
  clear L109 hb111 O113
  go_wp2_with fail
  refine (eqIntS_same ys0 _ _ _ _ _ ys0_len L118.ownInts L118.tl.tl.tl.tl.tl.tl.tl.tl.ownInts).mono ?_
  rintro e w119 ⟨rfl, hb120⟩
  have L121 := L118.kept hb120
  clear L118 hb120
  go_wp2_with fail
  refine (heldIntS_below _ _ ys0.length (1) _ ys0_len (by omega) (by omega) L121.tl.tl.tl.tl.tl.ownInts).mono ?_
  rintro e w122 ⟨rfl, hb123⟩
  have L124 := L121.kept hb123
  clear L121 hb123
  go_wp2_with fail
  go_ret
  exact ⟨rfl, L124.below⟩

set_option maxRecDepth 100000 in
set_option maxHeartbeats 800000 in
theorem walk_big0 (aA_a : Option Addr) (aA_p : Nat) (aA : List Int) (aB_a : Option Addr) (aB_p : Nat) (aB : List Int) (w : World) (aA_m : aA.length ≤ 9223372036854775807) (hbig : ¬ aA.length ≤ 1048576)  :
    Calls Try.prog 13 #[.slice aA_a aA.length aA_p, .slice aB_a aB.length aB_p] w fun e w' => e = .returned (.bool true) ∧ Below w.heap.size w w' := by
  have L0 := Law.start w
  have hb2 : 1048576 < aA.length := by omega
  clear hbig
  go_enter Try.func13, Try.ntmps13
  go_wp2_with fail
  go_ret
  exact ⟨rfl, L0.below⟩

set_option maxRecDepth 100000 in
set_option maxHeartbeats 800000 in
theorem walk_big1 (aA_a : Option Addr) (aA_p : Nat) (aA : List Int) (aB_a : Option Addr) (aB_p : Nat) (aB : List Int) (w : World) (aA_m : aA.length ≤ 9223372036854775807) (aB_m : aB.length ≤ 9223372036854775807) (aA_f : aA.length ≤ 1048576) (hbig : ¬ aB.length ≤ 1048576)  :
    Calls Try.prog 13 #[.slice aA_a aA.length aA_p, .slice aB_a aB.length aB_p] w fun e w' => e = .returned (.bool true) ∧ Below w.heap.size w w' := by
  have L0 := Law.start w
  have hb2 : 1048576 < aB.length := by omega
  clear hbig
  go_enter Try.func13, Try.ntmps13
  go_wp2_with fail
  go_ret
  exact ⟨rfl, L0.below⟩

theorem walk_all (aA_a : Option Addr) (aA_p : Nat) (aA : List Int) (aB_a : Option Addr) (aB_p : Nat) (aB : List Int) (w : World) (aA_m : aA.length ≤ 9223372036854775807) (aB_m : aB.length ≤ 9223372036854775807) (aA_h : Reads w aA_a aA.length aA) (aB_h : Reads w aB_a aB.length aB) :
    Calls Try.prog 13 #[.slice aA_a aA.length aA_p, .slice aB_a aB.length aB_p] w fun e w' => e = .returned (.bool true) ∧ Below w.heap.size w w' := by
  by_cases c0 : aA.length ≤ 1048576
  case neg => exact walk_big0 aA_a aA_p aA aB_a aB_p aB w aA_m  c0
  by_cases c1 : aB.length ≤ 1048576
  case neg => exact walk_big1 aA_a aA_p aA aB_a aB_p aB w aA_m aB_m c0 c1
  have hS : ∀ (w : World) (loaA : Nat) (aA_s : Value) (loaB : Nat) (aB_s : Value), Own w loaA aA_s aA → Own w loaB aB_s aB → Calls Try.prog 45 #[aA_s, aB_s] w (AnsL (multB aA aB) w) := fun w loaA aA_s loaB aB_s OaA OaB => specMultiply_any aA aB w (by omega) (by omega) loaA aA_s loaB aB_s OaA OaB
  have hI : ∀ (w : World) (loaA : Nat) (aA_s : Value) (loaB : Nat) (aB_s : Value), Own w loaA aA_s aA → Own w loaB aB_s aB → Calls Try.prog 46 #[aA_s, aB_s] w (AnsL (multB aA aB) w) := fun w loaA aA_s loaB aB_s OaA OaB => implMultiply_any aA aB w (by omega) (by omega) loaA aA_s loaB aB_s OaA OaB
  have hy := multB_len aA aB
  generalize multB aA aB = R at *
  obtain ⟨ys0, b1⟩ := R
  exact walk aA_a aA_p aA aB_a aB_p aB ys0 b1 w c0 c1 aA_h aB_h hy hS hI

theorem contract (H : Type) (enc : TypeId × Value → H) (W : World) (base : Nat) (args : Array Value) (ds gs : List (DataW H)) (before : List MemPlace)
    (hval : ∀ (j : Nat) t v, Try.f13.params[j]? = some t → args[j]? = some v → Value.okWide Try.prog W .any base t v)
    (hW : DataW.Whole enc Try.prog Try.f13.params.toList Rows.fnExactMultiplyNumbersSpec.vars false W args.toList ds gs before) :
    Calls Try.prog 13 args W fun e W' => ∃ v, e = .returned v ∧ Rows.fnExactMultiplyNumbersSpec.post enc Try.prog Try.f13 false true false false W args v W' := by
  have hW' := hW
  obtain ⟨p, q, hA0, hV, rfl, hfz, hnd⟩ := hW
  have hA : DataW.TrodAll enc Try.prog W 0 (fun _ => true) true Try.f13.params.toList args.toList ds p := hA0
  rw [Try.params13] at hA hval
  obtain ⟨v0, v1, d0, d1, p0, p1, rfl, rfl, rfl, h0, h1⟩ := trodAll_two hA
  obtain ⟨rfl, rfl⟩ := trodVars_none hV
  clear hA0
  simp only [List.append_nil] at hW'
  have hlt : ∀ x ∈ p0 ++ p1, x.block < W.heap.size := fun x hx => by have := hW'.lt x (by simpa using hx); simpa using this
  have t0 := h0
  obtain ⟨aA_a, aA_n, aA_p, rfl⟩ := okWide_slice Try.underlying22 (hval 0 22 v0 rfl rfl)
  obtain ⟨fu0, hf0⟩ := h0
  obtain ⟨aA_m, aA, aA_h⟩ := reads_of (by simpa [Value.cells] using hf0)
  obtain rfl := aA_h.1
  have t1 := h1
  obtain ⟨aB_a, aB_n, aB_p, rfl⟩ := okWide_slice Try.underlying22 (hval 1 22 v1 rfl rfl)
  obtain ⟨fu1, hf1⟩ := h1
  obtain ⟨aB_m, aB, aB_h⟩ := reads_of (by simpa [Value.cells] using hf1)
  obtain rfl := aB_h.1
  refine (walk_all aA_a aA_p aA aB_a aB_p aB W aA_m aB_m aA_h aB_h).mono ?_
  rintro e W' ⟨rfl, hb⟩
  exact ⟨_, rfl, _, _, _, [], _, [], hW', trodAll_mk1 (shut_bool Try.underlying4 _), trodAll_mk2 (Below.trod Try.laidOut (by kernel_rfl) (of_decide_eq_true (by kernel_rfl)) t0 hb (fun x hx => hlt x (by simp [hx]))) (Below.trod Try.laidOut (by kernel_rfl) (of_decide_eq_true (by kernel_rfl)) t1 hb (fun x hx => hlt x (by simp [hx]))), rfl, hb.frame _, fun h => by cases h⟩

set_option maxRecDepth 100000 in
theorem lifted (os : Os) (started : os.Started) (H : Type) (enc : TypeId × Value → H) :
    ReturnsInHanded {} Try.checked os 13 .any (Rows.fnExactMultiplyNumbersSpec.pre6 enc Try.prog Try.f13 Rows.fnExactMultiplyNumbersRow.domain false) (Rows.fnExactMultiplyNumbersSpec.post enc Try.prog Try.f13 false true false false) := by
  refine returnsInHanded_of_change (C := Try.checked) Try.own started (by kernel_rfl) Try.func13
    (ChangeSpec.witness6 (enc := enc) (C := Try.checked) false ⟨#[], #[.slice none 0 0, .slice none 0 0], []⟩ 8 (by kernel_rfl) (by kernel_rfl) (by kernel_rfl) (by kernel_rfl)) ?_
  intro W base args ds gs before hval hW _ _
  exact contract H enc W base args ds gs before hval hW

theorem holds : Rows.FnExactMultiplyNumbersSaid :=
  OpenClaim.holds_of_wide 13 Try.f13 rfl rfl rfl rfl rfl rfl rfl ⟨rfl, rfl, rfl, rfl, rfl⟩ rfl rfl rfl rfl rfl (by kernel_rfl) Try.func13 (by kernel_rfl)
    (of_decide_eq_true (by kernel_rfl)) (by unfold Func.isWrapper; first | (rw [if_pos (by decide +kernel)]; kernel_rfl) | (rw [if_neg (by decide +kernel)]; exact ⟨rfl, rfl⟩))
    (fun os started H enc _ => lifted os started H enc)

#print axioms holds
end Go.Proofs.Ytlkmbnekaeabaaa.lMultiplyNumbers
