/- 'FnExactBishopNumbers' answers true for every input, and leaves it as it was. No condition. -/
import Derived.Test.YtakdiiccdkjjcaaT2
import Derived.Test.YtakdiiccdkjjcaaOpen
import Derived.Test.YtakdiiccdkjjcaaEB
import Derived.Deep.RegionWith
import Derived.Deep.RegionHeld3
import Derived.Deep.DeepCutAuto
namespace Go.Proofs.Ytakdiiccdkjjcaa.lBishopNumbers
open Go.ChangeShapes Go.WideShapes Go.ChangeAt Go.RowKit Go.Joins

set_option maxRecDepth 100000 in
set_option maxHeartbeats 4000000 in
theorem walk (aB_r aB_c : Int) (aB_a : Option Addr) (aB_p : Nat) (aB : List Int) (ys0 : List Int) (b1 : Bool) (w : World) (hfit : aB.length ≤ 1048576) (aB_h : Reads w aB_a aB.length aB) (ys0_len : ys0.length ≤ 1048576)
    (hS : ∀ (w : World) (loaB : Nat) (aB_s : Value), Own w loaB aB_s aB → Calls Try.prog 26 #[.agg #[.int .i64 aB_r, .int .i64 aB_c, aB_s]] w fun e w' => ∃ s0, e = .returned (.tuple #[s0, .bool b1]) ∧ Own w' w.heap.size s0 ys0 ∧ Below w.heap.size w w')
    (hI : ∀ (w : World) (loaB : Nat) (aB_s : Value), Own w loaB aB_s aB → Calls Try.prog 27 #[.agg #[.int .i64 aB_r, .int .i64 aB_c, aB_s]] w fun e w' => ∃ s0, e = .returned (.tuple #[s0, .bool b1]) ∧ Own w' w.heap.size s0 ys0 ∧ Below w.heap.size w w') :
    Calls Try.prog 6 #[.agg #[.int .i64 aB_r, .int .i64 aB_c, .slice aB_a aB.length aB_p]] w fun e w' => e = .returned (.bool true) ∧ Below w.heap.size w w' := by
  have HS := Lib.hid hS; clear hS
  have HI := Lib.hid hI; clear hI
  have L0 := Law.start w
  have L1 := L0.box (.int .i64 aB_r) (.int .i64 aB_c) (.slice aB_a aB.length aB_p) 24
  clear L0 
  have aB_z := Lib.hid (show szN (1048576) aB.length = 1048576 - aB.length by unfold szN; rw [if_neg (by omega)])
  have aB_l : aB.length ≤ 1048576 := by omega
  go_enter Try.func6, Try.ntmps6
  have ⟨_, k2, k3, k4, _⟩ := L1.ownBox
  go_wp2_with fail
  refine (szBoard_any aB_r aB_c aB_a aB.length aB_p (1048576) _ (by omega) (by omega) (by omega)).mono ?_
  rintro e w5 ⟨rfl, hb6⟩
  rw [aB_z.out]
  have L7 := L1.kept hb6
  clear L1 hb6 k2 k3 k4
  have ⟨_, k8, k9, k10, _⟩ := L7.ownBox
  go_wp2_with fail
  refine (toBoard_any aB_r aB_c aB_a aB.length aB_p aB _ aB_l (L7.reads aB_h)).mono ?_
  rintro e w11 ⟨_, rfl, ⟨s12, rfl, O14⟩, hb13⟩
  obtain ⟨a15, p16, rfl, _⟩ := O14.reads
  have L18 := L7.own hb13 O14
  clear L7 hb13 O14 k8 k9 k10
  go_wp2_with fail
  refine (HS.out _ _ _ L18.ownInts).mono ?_
  rintro e w19 ⟨s21, rfl, O22, hb20⟩
  obtain ⟨a24, p25, rfl, _⟩ := O22.reads
  have L27 := L18.own hb20 O22
  clear L18 hb20 O22
  have ⟨_, k28, k29, k30, _⟩ := L27.tl.tl.ownBox
  go_wp2_with fail
  refine (toBoard_any aB_r aB_c aB_a aB.length aB_p aB _ aB_l (L27.reads aB_h)).mono ?_
  rintro e w31 ⟨_, rfl, ⟨s32, rfl, O34⟩, hb33⟩
  obtain ⟨a35, p36, rfl, _⟩ := O34.reads
  have L38 := L27.own hb33 O34
  clear L27 hb33 O34 k28 k29 k30
  have L39 := L38.box (.int .i64 aB_r) (.int .i64 aB_c) (.slice a35 aB.length p36) 28
  clear L38 
  have ⟨_, k40, k41, k42, _⟩ := L39.ownBox
  go_wp2_with fail
  refine (HI.out _ _ _ L39.tl.ownInts).mono ?_
  rintro e w43 ⟨s45, rfl, O46, hb44⟩
  obtain ⟨a48, p49, rfl, _⟩ := O46.reads
  have L51 := L39.own hb44 O46
  clear L39 hb44 O46
  clear k40 k41 k42
  go_wp2_with fail
  refine (eqIntS_same ys0 _ _ _ _ _ ys0_len L51.ownInts L51.tl.tl.tl.ownInts).mono ?_
  rintro e w52 ⟨rfl, hb53⟩
  have L54 := L51.kept hb53
  clear L51 hb53
  have ⟨_, k55, k56, k57, _⟩ := L54.tl.tl.tl.tl.tl.ownBox
  have ⟨_, k58, k59, k60, _⟩ := L54.tl.ownBox
  go_upto_region 10 with (fail)
  go_cut [45] (fun t w' => t = .bool false ∧ Below w52.heap.size w52 w')
  case first =>
    have hd : Below w52.heap.size w52 w52.drew := (Below.refl _ _).drew
    have Ld := L54.kept hd
    go_region_with (first | (go_at_call 17; refine (toBoard_any aB_r aB_c aB_a aB.length aB_p aB _ aB_l (Ld.reads aB_h)).mono ?_; rintro e w61 ⟨_, rfl, ⟨s62, rfl, O63⟩, hb64⟩; obtain ⟨a65, p66, rfl, _⟩ := O63.reads; have ⟨_, q0, q1, q2, _⟩ := (Ld.kept hb64).tl.ownBox) | (go_at_call 19; refine (eqBoard_same _ _ aB _ _ _ _ _ aB_l (Ld.kept hb64).tl.tl.ownInts O63).mono ?_; rintro e w67 ⟨rfl, hb68⟩))
    all_goals (go_wp2_with fail; go_meet; exact ⟨rfl, below_on (below_on hd hb64) hb68⟩)
  obtain ⟨rfl, hb69⟩ := hcut
  have L70 := L54.kept hb69
  clear L54 hb69 k55 k56 k57 k58 k59 k60
  generalize wc = w71 at *
  have ⟨_, k72, k73, k74, _⟩ := L70.tl.ownBox
  go_wp2_with fail
  refine (markBoard_any _ _ _ aB (1) _ _ aB_l (by omega) (by omega) L70.tl.tl.ownInts).mono ?_
  rintro e w75 ⟨rfl, O76, hg77⟩
  have L78 := Law.mark (ts := [_, _]) L70 hg77 O76
  simp only [List.cons_append, List.nil_append] at L78
  clear L70 hg77 O76 k72 k73 k74
  go_wp2_with fail
  refine (eqIntS_same ys0 _ _ _ _ _ ys0_len L78.ownInts L78.tl.tl.tl.ownInts).mono ?_
  rintro e w79 ⟨rfl, hb80⟩
  have L81 := L78.kept hb80
  clear L78 hb80
  go_wp2_with fail
  refine (markIntS_any _ _ ys0 (1) _ ys0_len (by omega) (by omega) L81.ownInts).mono ?_
  rintro e w82 ⟨rfl, O83, hg84⟩
  have L85 := Law.mark (ts := []) L81 hg84 O83
  simp only [List.nil_append] at L85
  clear L81 hg84 O83 
  go_wp2_with fail
  refine (heldIntS_below _ _ ys0.length (1) _ ys0_len (by omega) (by omega) L85.ownInts).mono ?_
  rintro e w86 ⟨rfl, hb87⟩
  have L88 := L85.kept hb87
  clear L85 hb87
  have ⟨_, k89, k90, k91, _⟩ := L88.tl.tl.tl.tl.tl.ownBox
  go_wp2_with fail
  refine (toBoard_any aB_r aB_c aB_a aB.length aB_p aB _ aB_l (L88.reads aB_h)).mono ?_
  rintro e w92 ⟨_, rfl, ⟨s93, rfl, O95⟩, hb94⟩
  obtain ⟨a96, p97, rfl, _⟩ := O95.reads
  have L99 := L88.own hb94 O95
  clear L88 hb94 O95 k89 k90 k91
  go_wp2_with fail
  refine (HI.out _ _ _ L99.ownInts).mono ?_
  rintro e w100 ⟨s102, rfl, O103, hb101⟩
  obtain ⟨a105, p106, rfl, _⟩ := O103.reads
  have L108 := L99.own hb101 O103
  clear L99 hb101 O103
  go_wp2_with fail
  refine (eqIntS_same ys0 _ _ _ _ _ ys0_len L108.ownInts L108.tl.tl.tl.tl.tl.ownInts).mono ?_
  rintro e w109 ⟨rfl, hb110⟩
  have L111 := L108.kept hb110
  clear L108 hb110
  go_wp2_with fail
  refine (heldIntS_below _ _ ys0.length (1) _ ys0_len (by omega) (by omega) L111.tl.tl.ownInts).mono ?_
  rintro e w112 ⟨rfl, hb113⟩
  have L114 := L111.kept hb113
  clear L111 hb113
  go_wp2_with fail
  go_ret
  exact ⟨rfl, L114.below⟩

set_option maxRecDepth 100000 in
set_option maxHeartbeats 800000 in
theorem walk_big0 (aB_r aB_c : Int) (aB_a : Option Addr) (aB_p : Nat) (aB : List Int) (w : World) (aB_m : aB.length ≤ 9223372036854775807) (hbig : ¬ aB.length ≤ 1048576)  :
    Calls Try.prog 6 #[.agg #[.int .i64 aB_r, .int .i64 aB_c, .slice aB_a aB.length aB_p]] w fun e w' => e = .returned (.bool true) ∧ Below w.heap.size w w' := by
  have L0 := Law.start w
  have L1 := L0.box (.int .i64 aB_r) (.int .i64 aB_c) (.slice aB_a aB.length aB_p) 24
  have aB_z := Lib.hid (show szN (1048576) aB.length = -1 by unfold szN; rw [if_pos (by omega)])
  go_enter Try.func6, Try.ntmps6
  have ⟨_, k0, k1, k2, _⟩ := L1.ownBox
  go_wp2_with fail
  refine (szBoard_any aB_r aB_c aB_a aB.length aB_p (1048576) _ (by omega) (by omega) (by omega)).mono ?_
  rintro e v2 ⟨rfl, hb⟩
  rw [aB_z.out]
  have L2 := L1.kept hb
  clear L1 hb k0 k1 k2
  go_wp2_with fail
  go_ret
  exact ⟨rfl, L2.below⟩

theorem walk_all (aB_r aB_c : Int) (aB_a : Option Addr) (aB_p : Nat) (aB : List Int) (w : World) (aB_m : aB.length ≤ 9223372036854775807) (aB_h : Reads w aB_a aB.length aB) :
    Calls Try.prog 6 #[.agg #[.int .i64 aB_r, .int .i64 aB_c, .slice aB_a aB.length aB_p]] w fun e w' => e = .returned (.bool true) ∧ Below w.heap.size w w' := by
  by_cases c0 : aB.length ≤ 1048576
  case neg => exact walk_big0 aB_r aB_c aB_a aB_p aB w aB_m  c0
  have hS : ∀ (w : World) (loaB : Nat) (aB_s : Value), Own w loaB aB_s aB → Calls Try.prog 26 #[.agg #[.int .i64 aB_r, .int .i64 aB_c, aB_s]] w (AnsL (bishR aB_r aB_c aB) w) := fun w loaB aB_s OaB => specBishopNumbers_any aB_r aB_c aB w (by omega) loaB aB_s OaB
  have hI : ∀ (w : World) (loaB : Nat) (aB_s : Value), Own w loaB aB_s aB → Calls Try.prog 27 #[.agg #[.int .i64 aB_r, .int .i64 aB_c, aB_s]] w (AnsL (bishR aB_r aB_c aB) w) := fun w loaB aB_s OaB => implBishopNumbers_any aB_r aB_c aB w (by omega) loaB aB_s OaB
  have hy := bishR_len aB_r aB_c aB
  generalize bishR aB_r aB_c aB = R at *
  obtain ⟨ys0, b1⟩ := R
  exact walk aB_r aB_c aB_a aB_p aB ys0 b1 w  c0 aB_h hy hS hI

set_option maxRecDepth 100000 in
theorem contract (H : Type) (enc : TypeId × Value → H) (W : World) (base : Nat) (args : Array Value) (ds gs : List (DataW H)) (before : List MemPlace)
    (hval : ∀ (j : Nat) t v, Try.f6.params[j]? = some t → args[j]? = some v → Value.okWide Try.prog W .any base t v)
    (hW : DataW.Whole enc Try.prog Try.f6.params.toList Rows.fnExactBishopNumbersSpec.vars false W args.toList ds gs before) :
    Calls Try.prog 6 args W fun e W' => ∃ v, e = .returned v ∧ Rows.fnExactBishopNumbersSpec.post enc Try.prog Try.f6 false true false false W args v W' := by
  have hW' := hW
  obtain ⟨p, q, hA0, hV, rfl, hfz, hnd⟩ := hW
  have hA : DataW.TrodAll enc Try.prog W 0 (fun _ => true) true Try.f6.params.toList args.toList ds p := hA0
  rw [Try.params6] at hA hval
  obtain ⟨v0, d0, rfl, rfl, h0⟩ := trodAll_one hA
  obtain ⟨rfl, rfl⟩ := trodVars_none hV
  clear hA0
  simp only [List.append_nil] at hW'
  have hlt : ∀ x ∈ p, x.block < W.heap.size := fun x hx => by have := hW'.lt x (by simpa using hx); simpa using this
  have t0 := h0
  obtain ⟨aB_r, aB_c, aB_a, aB_n, aB_p, aB, rfl, aB_m, aB_h⟩ := open_board (hval 0 24 v0 rfl rfl) h0
  obtain rfl := aB_h.1
  refine (walk_all aB_r aB_c aB_a aB_p aB W aB_m aB_h).mono ?_
  rintro e W' ⟨rfl, hb⟩
  exact ⟨_, rfl, _, _, _, [], _, [], hW', trodAll_mk1 (shut_bool Try.underlying4 _), trodAll_mk1 (Below.trod Try.laidOut (by kernel_rfl) (of_decide_eq_true (by kernel_rfl)) t0 hb hlt), rfl, hb.frame _, fun h => by cases h⟩

set_option maxRecDepth 100000 in
theorem lifted (os : Os) (started : os.Started) (H : Type) (enc : TypeId × Value → H) :
    ReturnsInHanded {} Try.checked os 6 .any (Rows.fnExactBishopNumbersSpec.pre6 enc Try.prog Try.f6 Rows.fnExactBishopNumbersRow.domain false) (Rows.fnExactBishopNumbersSpec.post enc Try.prog Try.f6 false true false false) := by
  refine returnsInHanded_of_change (C := Try.checked) Try.own started (by kernel_rfl) Try.func6
    (ChangeSpec.witness6 (enc := enc) (C := Try.checked) false ⟨#[], #[.agg #[.int .i64 0, .int .i64 0, .slice none 0 0]], []⟩ 8 (by kernel_rfl) (by kernel_rfl) (by kernel_rfl) (by kernel_rfl)) ?_
  intro W base args ds gs before hval hW _ _
  exact contract H enc W base args ds gs before hval hW

theorem holds : Rows.FnExactBishopNumbersSaid :=
  OpenClaim.holds_of_wide 6 Try.f6 rfl rfl rfl rfl rfl rfl rfl ⟨rfl, rfl, rfl, rfl, rfl⟩ rfl rfl rfl rfl rfl (by kernel_rfl) Try.func6 (by kernel_rfl)
    (of_decide_eq_true (by kernel_rfl)) (by unfold Func.isWrapper; first | (rw [if_pos (by decide +kernel)]; kernel_rfl) | (rw [if_neg (by decide +kernel)]; exact ⟨rfl, rfl⟩))
    (fun os started H enc _ => lifted os started H enc)

#print axioms holds
end Go.Proofs.Ytakdiiccdkjjcaa.lBishopNumbers
