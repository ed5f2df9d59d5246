/- 'FnExactColourBoard' answers true for every input, and leaves it as it was. No condition. -/
import Derived.Test.YtakdiiccdkjjcaaT2
import Derived.Test.YtakdiiccdkjjcaaOpen
import Derived.Test.YtakdiiccdkjjcaaEi
import Derived.Deep.RegionWith
import Derived.Deep.RegionHeld3
import Derived.Deep.DeepCutAuto
namespace Go.Proofs.Ytakdiiccdkjjcaa.lColourBoard
open Go.ChangeShapes Go.WideShapes Go.ChangeAt Go.RowKit Go.Joins

set_option maxRecDepth 100000 in
set_option maxHeartbeats 4000000 in
theorem walk (aB_r aB_c : Int) (aB_a : Option Addr) (aB_p : Nat) (aB : List Int) (aColour : Int) (rr0 cc0 : Int) (ys0 : List Int) (b1 : Bool) (w : World) (hfit : aB.length ≤ 1048576) (aB_h : Reads w aB_a aB.length aB) (ys0_len : ys0.length ≤ 1048576)
    (hS : ∀ (w : World) (loaB : Nat) (aB_s : Value), Own w loaB aB_s aB → Calls Try.prog 20 #[.agg #[.int .i64 aB_r, .int .i64 aB_c, aB_s], .int .i64 aColour] w fun e w' => ∃ s0, e = .returned (.tuple #[.agg #[.int .i64 rr0, .int .i64 cc0, s0], .bool b1]) ∧ Own w' w.heap.size s0 ys0 ∧ Below w.heap.size w w')
    (hI : ∀ (w : World) (loaB : Nat) (aB_s : Value), Own w loaB aB_s aB → Calls Try.prog 21 #[.agg #[.int .i64 aB_r, .int .i64 aB_c, aB_s], .int .i64 aColour] w fun e w' => ∃ s0, e = .returned (.tuple #[.agg #[.int .i64 rr0, .int .i64 cc0, s0], .bool b1]) ∧ Own w' w.heap.size s0 ys0 ∧ Below w.heap.size w w') :
    Calls Try.prog 4 #[.agg #[.int .i64 aB_r, .int .i64 aB_c, .slice aB_a aB.length aB_p], .int .i64 aColour] w fun e w' => e = .returned (.bool true) ∧ Below w.heap.size w w' := by
  have HS := Lib.hid hS; clear hS
  have HI := Lib.hid hI; clear hI
  have L0 := Law.start w
  have L1 := L0.box (.int .i64 aB_r) (.int .i64 aB_c) (.slice aB_a aB.length aB_p) 24
  clear L0 
  have aB_z := Lib.hid (show szN (1048576) aB.length = 1048576 - aB.length by unfold szN; rw [if_neg (by omega)])
  have aB_l : aB.length ≤ 1048576 := by omega
  go_enter Try.func4, Try.ntmps4
  have ⟨_, k2, k3, k4, _⟩ := L1.ownBox
  go_wp2_with fail
  refine (szBoard_any aB_r aB_c aB_a aB.length aB_p (1048576) _ (by omega) (by omega) (by omega)).mono ?_
  rintro e w5 ⟨rfl, hb6⟩
  rw [aB_z.out]
  have L7 := L1.kept hb6
  clear L1 hb6 k2 k3 k4
  have ⟨_, k8, k9, k10, _⟩ := L7.ownBox
  go_wp2_with fail
  refine (toBoard_any aB_r aB_c aB_a aB.length aB_p aB _ aB_l (L7.reads aB_h)).mono ?_
  rintro e w11 ⟨_, rfl, ⟨s12, rfl, O14⟩, hb13⟩
  obtain ⟨a15, p16, rfl, _⟩ := O14.reads
  have L18 := L7.own hb13 O14
  clear L7 hb13 O14 k8 k9 k10
  go_wp2_with fail
  refine (HS.out _ _ _ L18.ownInts).mono ?_
  rintro e w19 ⟨s21, rfl, O22, hb20⟩
  obtain ⟨a24, p25, rfl, _⟩ := O22.reads
  have L27 := L18.own hb20 O22
  clear L18 hb20 O22
  have L28 := L27.box (.int .i64 rr0) (.int .i64 cc0) (.slice a24 ys0.length p25) 28
  clear L27 
  have ⟨_, k29, k30, k31, _⟩ := L28.tl.tl.tl.ownBox
  go_wp2_with fail
  refine (toBoard_any aB_r aB_c aB_a aB.length aB_p aB _ aB_l (L28.reads aB_h)).mono ?_
  rintro e w32 ⟨_, rfl, ⟨s33, rfl, O35⟩, hb34⟩
  obtain ⟨a36, p37, rfl, _⟩ := O35.reads
  have L39 := L28.own hb34 O35
  clear L28 hb34 O35 k29 k30 k31
  have L40 := L39.box (.int .i64 aB_r) (.int .i64 aB_c) (.slice a36 aB.length p37) 28
  clear L39 
  have ⟨_, k41, k42, k43, _⟩ := L40.ownBox
  go_wp2_with fail
  refine (HI.out _ _ _ L40.tl.ownInts).mono ?_
  rintro e w44 ⟨s46, rfl, O47, hb45⟩
  obtain ⟨a49, p50, rfl, _⟩ := O47.reads
  have L52 := L40.own hb45 O47
  clear L40 hb45 O47
  clear k41 k42 k43
  have ⟨_, k53, k54, k55, _⟩ := L52.tl.tl.tl.ownBox
  have L56 := L52.box (.int .i64 rr0) (.int .i64 cc0) (.slice a49 ys0.length p50) 28
  clear L52 
  go_wp2_with fail
  refine (eqBoard_same _ _ ys0 _ _ _ _ _ ys0_len L56.tl.ownInts L56.tl.tl.tl.tl.tl.ownInts).mono ?_
  rintro e w57 ⟨rfl, hb58⟩
  have L59 := L56.kept hb58
  clear L56 hb58 k53 k54 k55
  have ⟨_, k60, k61, k62, _⟩ := L59.tl.tl.tl.tl.tl.tl.tl.ownBox
  have ⟨_, k63, k64, k65, _⟩ := L59.tl.tl.ownBox
  go_upto_region 10 with (fail)
  go_cut [49] (fun t w' => t = .bool false ∧ Below w57.heap.size w57 w')
  case first =>
    have hd : Below w57.heap.size w57 w57.drew := (Below.refl _ _).drew
    have Ld := L59.kept hd
    go_region_with (first | (go_at_call 17; refine (toBoard_any aB_r aB_c aB_a aB.length aB_p aB _ aB_l (Ld.reads aB_h)).mono ?_; rintro e w66 ⟨_, rfl, ⟨s67, rfl, O68⟩, hb69⟩; obtain ⟨a70, p71, rfl, _⟩ := O68.reads; have ⟨_, q0, q1, q2, _⟩ := (Ld.kept hb69).tl.tl.ownBox) | (go_at_call 19; refine (eqBoard_same _ _ aB _ _ _ _ _ aB_l (Ld.kept hb69).tl.tl.tl.ownInts O68).mono ?_; rintro e w72 ⟨rfl, hb73⟩))
    all_goals (go_wp2_with fail; go_meet; exact ⟨rfl, below_on (below_on hd hb69) hb73⟩)
  obtain ⟨rfl, hb74⟩ := hcut
  have L75 := L59.kept hb74
  clear L59 hb74 k60 k61 k62 k63 k64 k65
  generalize wc = w76 at *
  have ⟨_, k77, k78, k79, _⟩ := L75.tl.tl.ownBox
  go_wp2_with fail
  refine (markBoard_any _ _ _ aB (1) _ _ aB_l (by omega) (by omega) L75.tl.tl.tl.ownInts).mono ?_
  rintro e w80 ⟨rfl, O81, hg82⟩
  have L83 := Law.mark (ts := [_, _, _]) L75 hg82 O81
  simp only [List.cons_append, List.nil_append] at L83
  clear L75 hg82 O81 k77 k78 k79
  have ⟨_, k84, k85, k86, _⟩ := L83.ownBox
  have ⟨_, k87, k88, k89, _⟩ := L83.tl.tl.tl.tl.ownBox
  go_wp2_with fail
  refine (eqBoard_same _ _ ys0 _ _ _ _ _ ys0_len L83.tl.ownInts L83.tl.tl.tl.tl.tl.ownInts).mono ?_
  rintro e w90 ⟨rfl, hb91⟩
  have L92 := L83.kept hb91
  clear L83 hb91 k84 k85 k86 k87 k88 k89
  have ⟨_, k93, k94, k95, _⟩ := L92.ownBox
  go_wp2_with fail
  refine (markBoard_any _ _ _ ys0 (1) _ _ ys0_len (by omega) (by omega) L92.tl.ownInts).mono ?_
  rintro e w96 ⟨rfl, O97, hg98⟩
  have L99 := Law.mark (ts := [_]) L92 hg98 O97
  simp only [List.cons_append, List.nil_append] at L99
  clear L92 hg98 O97 k93 k94 k95
  have ⟨_, k100, k101, k102, _⟩ := L99.ownBox
  go_wp2_with fail
  refine (heldBoard_any _ _ _ ys0.length (1) _ _ ys0_len (by omega) (by omega) L99.tl.ownInts).mono ?_
  rintro e w103 ⟨rfl, hb104⟩
  have L105 := L99.kept hb104
  clear L99 hb104 k100 k101 k102
  have ⟨_, k106, k107, k108, _⟩ := L105.tl.tl.tl.tl.tl.tl.tl.ownBox
  go_wp2_with fail
  refine (toBoard_any aB_r aB_c aB_a aB.length aB_p aB _ aB_l (L105.reads aB_h)).mono ?_
  rintro e w109 ⟨_, rfl, ⟨s110, rfl, O112⟩, hb111⟩
  obtain ⟨a113, p114, rfl, _⟩ := O112.reads
  have L116 := L105.own hb111 O112
  clear L105 hb111 O112 k106 k107 k108
  go_wp2_with fail
  refine (HI.out _ _ _ L116.ownInts).mono ?_
  rintro e w117 ⟨s119, rfl, O120, hb118⟩
  obtain ⟨a122, p123, rfl, _⟩ := O120.reads
  have L125 := L116.own hb118 O120
  clear L116 hb118 O120
  have ⟨_, k126, k127, k128, _⟩ := L125.tl.tl.tl.tl.tl.tl.ownBox
  have L129 := L125.box (.int .i64 rr0) (.int .i64 cc0) (.slice a122 ys0.length p123) 28
  clear L125 
  go_wp2_with fail
  refine (eqBoard_same _ _ ys0 _ _ _ _ _ ys0_len L129.tl.ownInts L129.tl.tl.tl.tl.tl.tl.tl.tl.ownInts).mono ?_
  rintro e w130 ⟨rfl, hb131⟩
  have L132 := L129.kept hb131
  clear L129 hb131 k126 k127 k128
  have ⟨_, k133, k134, k135, _⟩ := L132.tl.tl.tl.ownBox
  go_wp2_with fail
  refine (heldBoard_any _ _ _ ys0.length (1) _ _ ys0_len (by omega) (by omega) L132.tl.tl.tl.tl.ownInts).mono ?_
  rintro e w136 ⟨rfl, hb137⟩
  have L138 := L132.kept hb137
  clear L132 hb137 k133 k134 k135
  go_wp2_with fail
  go_ret
  exact ⟨rfl, L138.below⟩

set_option maxRecDepth 100000 in
set_option maxHeartbeats 800000 in
theorem walk_big0 (aB_r aB_c : Int) (aB_a : Option Addr) (aB_p : Nat) (aB : List Int) (aColour : Int) (w : World) (aB_m : aB.length ≤ 9223372036854775807) (hbig : ¬ aB.length ≤ 1048576)  :
    Calls Try.prog 4 #[.agg #[.int .i64 aB_r, .int .i64 aB_c, .slice aB_a aB.length aB_p], .int .i64 aColour] w fun e w' => e = .returned (.bool true) ∧ Below w.heap.size w w' := by
  have L0 := Law.start w
  have L1 := L0.box (.int .i64 aB_r) (.int .i64 aB_c) (.slice aB_a aB.length aB_p) 24
  have aB_z := Lib.hid (show szN (1048576) aB.length = -1 by unfold szN; rw [if_pos (by omega)])
  go_enter Try.func4, Try.ntmps4
  have ⟨_, k0, k1, k2, _⟩ := L1.ownBox
  go_wp2_with fail
  refine (szBoard_any aB_r aB_c aB_a aB.length aB_p (1048576) _ (by omega) (by omega) (by omega)).mono ?_
  rintro e v2 ⟨rfl, hb⟩
  rw [aB_z.out]
  have L2 := L1.kept hb
  clear L1 hb k0 k1 k2
  go_wp2_with fail
  go_ret
  exact ⟨rfl, L2.below⟩

theorem walk_all (aB_r aB_c : Int) (aB_a : Option Addr) (aB_p : Nat) (aB : List Int) (aColour : Int) (w : World) (aB_m : aB.length ≤ 9223372036854775807) (aB_h : Reads w aB_a aB.length aB) :
    Calls Try.prog 4 #[.agg #[.int .i64 aB_r, .int .i64 aB_c, .slice aB_a aB.length aB_p], .int .i64 aColour] w fun e w' => e = .returned (.bool true) ∧ Below w.heap.size w w' := by
  by_cases c0 : aB.length ≤ 1048576
  case neg => exact walk_big0 aB_r aB_c aB_a aB_p aB aColour w aB_m  c0
  have hS : ∀ (w : World) (loaB : Nat) (aB_s : Value), Own w loaB aB_s aB → Calls Try.prog 20 #[.agg #[.int .i64 aB_r, .int .i64 aB_c, aB_s], .int .i64 aColour] w (AnsB (colR aB_r aB_c aB aColour) w) := fun w loaB aB_s OaB => specCol_any aB_r aB_c aB aColour w (by omega) loaB aB_s OaB
  have hI : ∀ (w : World) (loaB : Nat) (aB_s : Value), Own w loaB aB_s aB → Calls Try.prog 21 #[.agg #[.int .i64 aB_r, .int .i64 aB_c, aB_s], .int .i64 aColour] w (AnsB (colR aB_r aB_c aB aColour) w) := fun w loaB aB_s OaB => implCol_any aB_r aB_c aB aColour w (by omega) loaB aB_s OaB
  have hy := colR_len aB_r aB_c aB aColour
  generalize colR aB_r aB_c aB aColour = R at *
  obtain ⟨rr0, cc0, ys0, b1⟩ := R
  exact walk aB_r aB_c aB_a aB_p aB aColour rr0 cc0 ys0 b1 w  c0 aB_h hy hS hI

set_option maxRecDepth 100000 in
theorem contract (H : Type) (enc : TypeId × Value → H) (W : World) (base : Nat) (args : Array Value) (ds gs : List (DataW H)) (before : List MemPlace)
    (hval : ∀ (j : Nat) t v, Try.f4.params[j]? = some t → args[j]? = some v → Value.okWide Try.prog W .any base t v)
    (hW : DataW.Whole enc Try.prog Try.f4.params.toList Rows.fnExactColourBoardSpec.vars false W args.toList ds gs before) :
    Calls Try.prog 4 args W fun e W' => ∃ v, e = .returned v ∧ Rows.fnExactColourBoardSpec.post enc Try.prog Try.f4 false true false false W args v W' := by
  have hW' := hW
  obtain ⟨p, q, hA0, hV, rfl, hfz, hnd⟩ := hW
  have hA : DataW.TrodAll enc Try.prog W 0 (fun _ => true) true Try.f4.params.toList args.toList ds p := hA0
  rw [Try.params4] at hA hval
  obtain ⟨v0, v1, d0, d1, p0, p1, rfl, rfl, rfl, h0, h1⟩ := trodAll_two hA
  obtain ⟨rfl, rfl⟩ := trodVars_none hV
  clear hA0
  simp only [List.append_nil] at hW'
  have hlt : ∀ x ∈ p0 ++ p1, x.block < W.heap.size := fun x hx => by have := hW'.lt x (by simpa using hx); simpa using this
  have t0 := h0
  obtain ⟨aB_r, aB_c, aB_a, aB_n, aB_p, aB, rfl, aB_m, aB_h⟩ := open_board (hval 0 24 v0 rfl rfl) h0
  obtain rfl := aB_h.1
  have t1 := h1
  obtain ⟨aColour, rfl, e1, f1, _⟩ := open_int Try.underlying3 (hval 1 3 v1 rfl rfl) h1
  refine (walk_all aB_r aB_c aB_a aB_p aB aColour W aB_m aB_h).mono ?_
  rintro e W' ⟨rfl, hb⟩
  exact ⟨_, rfl, _, _, _, [], _, [], hW', trodAll_mk1 (shut_bool Try.underlying4 _), trodAll_mk2 (Below.trod Try.laidOut (by kernel_rfl) (of_decide_eq_true (by kernel_rfl)) t0 hb (fun x hx => hlt x (by simp [hx]))) (Below.trod Try.laidOut (by kernel_rfl) (of_decide_eq_true (by kernel_rfl)) t1 hb (fun x hx => hlt x (by simp [hx]))), rfl, hb.frame _, fun h => by cases h⟩

set_option maxRecDepth 100000 in
theorem lifted (os : Os) (started : os.Started) (H : Type) (enc : TypeId × Value → H) :
    ReturnsInHanded {} Try.checked os 4 .any (Rows.fnExactColourBoardSpec.pre6 enc Try.prog Try.f4 Rows.fnExactColourBoardRow.domain false) (Rows.fnExactColourBoardSpec.post enc Try.prog Try.f4 false true false false) := by
  refine returnsInHanded_of_change (C := Try.checked) Try.own started (by kernel_rfl) Try.func4
    (ChangeSpec.witness6 (enc := enc) (C := Try.checked) false ⟨#[], #[.agg #[.int .i64 0, .int .i64 0, .slice none 0 0], .int .i64 0], []⟩ 8 (by kernel_rfl) (by kernel_rfl) (by kernel_rfl) (by kernel_rfl)) ?_
  intro W base args ds gs before hval hW _ _
  exact contract H enc W base args ds gs before hval hW

theorem holds : Rows.FnExactColourBoardSaid :=
  OpenClaim.holds_of_wide 4 Try.f4 rfl rfl rfl rfl rfl rfl rfl ⟨rfl, rfl, rfl, rfl, rfl⟩ rfl rfl rfl rfl rfl (by kernel_rfl) Try.func4 (by kernel_rfl)
    (of_decide_eq_true (by kernel_rfl)) (by unfold Func.isWrapper; first | (rw [if_pos (by decide +kernel)]; kernel_rfl) | (rw [if_neg (by decide +kernel)]; exact ⟨rfl, rfl⟩))
    (fun os started H enc _ => lifted os started H enc)

#print axioms holds
end Go.Proofs.Ytakdiiccdkjjcaa.lColourBoard
