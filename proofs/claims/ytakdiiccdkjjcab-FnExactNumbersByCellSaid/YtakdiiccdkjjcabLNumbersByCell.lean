/- 'FnExactNumbersByCell' answers true for every input, and leaves it as it was. No condition. -/
import Derived.Test.YtakdiiccdkjjcabT2
import Derived.Test.YtakdiiccdkjjcabOpen
import Derived.Test.YtakdiiccdkjjcabBe
import Derived.Deep.RegionWith
import Derived.Deep.RegionHeld3
import Derived.Deep.DeepCutAuto
namespace Go.Proofs.Ytakdiiccdkjjcab.lNumbersByCell
open Go.ChangeShapes Go.WideShapes Go.ChangeAt Go.RowKit Go.Joins

set_option maxRecDepth 100000 in
set_option maxHeartbeats 4000000 in
theorem walk (aB_r aB_c : Int) (aB_a : Option Addr) (aB_p : Nat) (aB : List Int) (aR : Int) (aC : Int) (ys0 : List Int) (ys1 : List Int) (b2 : Bool) (w : World) (hfit : aB.length ≤ 1048576) (aB_h : Reads w aB_a aB.length aB) (ys0_len : ys0.length ≤ 1048576) (ys1_len : ys1.length ≤ 1048576)
    (hS : ∀ (w : World) (loaB : Nat) (aB_s : Value), Own w loaB aB_s aB → Calls Try.prog 42 #[.agg #[.int .i64 aB_r, .int .i64 aB_c, aB_s], .int .i64 aR, .int .i64 aC] w fun e w' => ∃ s0, ∃ s1, e = .returned (.tuple #[s0, s1, .bool b2]) ∧ Own w' w.heap.size s0 ys0 ∧ Own w' w.heap.size s1 ys1 ∧ (∀ k, s0.ownBlock = some k → s1.ownBlock ≠ some k) ∧ Below w.heap.size w w')
    (hI : ∀ (w : World) (loaB : Nat) (aB_s : Value), Own w loaB aB_s aB → Calls Try.prog 43 #[.agg #[.int .i64 aB_r, .int .i64 aB_c, aB_s], .int .i64 aR, .int .i64 aC] w fun e w' => ∃ s0, ∃ s1, e = .returned (.tuple #[s0, s1, .bool b2]) ∧ Own w' w.heap.size s0 ys0 ∧ Own w' w.heap.size s1 ys1 ∧ (∀ k, s0.ownBlock = some k → s1.ownBlock ≠ some k) ∧ Below w.heap.size w w') :
    Calls Try.prog 10 #[.agg #[.int .i64 aB_r, .int .i64 aB_c, .slice aB_a aB.length aB_p], .int .i64 aR, .int .i64 aC] w fun e w' => e = .returned (.bool true) ∧ Below w.heap.size w w' := by
  have HS := Lib.hid hS; clear hS
  have HI := Lib.hid hI; clear hI
  have L0 := Law.start w
  have L1 := L0.box (.int .i64 aB_r) (.int .i64 aB_c) (.slice aB_a aB.length aB_p) 24
  clear L0 
  have aB_z := Lib.hid (show szN (1048576) aB.length = 1048576 - aB.length by unfold szN; rw [if_neg (by omega)])
  have aB_l : aB.length ≤ 1048576 := by omega
  go_enter Try.func10, Try.ntmps10
  have ⟨_, k2, k3, k4, _⟩ := L1.ownBox
  go_wp2_with fail
  refine (szBoard_any aB_r aB_c aB_a aB.length aB_p (1048576) _ (by omega) (by omega) (by omega)).mono ?_
  rintro e w5 ⟨rfl, hb6⟩
  rw [aB_z.out]
  have L7 := L1.kept hb6
  clear L1 hb6 k2 k3 k4
  have ⟨_, k8, k9, k10, _⟩ := L7.ownBox
  go_wp2_with fail
  refine (toBoard_any aB_r aB_c aB_a aB.length aB_p aB _ aB_l (L7.reads aB_h)).mono ?_
  rintro e w11 ⟨_, rfl, ⟨s12, rfl, O14⟩, hb13⟩
  obtain ⟨a15, p16, rfl, _⟩ := O14.reads
  have L18 := L7.own hb13 O14
  clear L7 hb13 O14 k8 k9 k10
  go_wp2_with fail
  refine (HS.out _ _ _ L18.ownInts).mono ?_
  rintro e w19 ⟨s21, s22, rfl, O23, O24, D25, hb20⟩
  obtain ⟨a26, p27, rfl, _⟩ := O23.reads
  obtain ⟨a28, p29, rfl, _⟩ := O24.reads
  have L32 := L18.own2 hb20 O23 O24 D25
  clear L18 hb20 O23 O24 D25
  have ⟨_, k33, k34, k35, _⟩ := L32.tl.tl.tl.ownBox
  go_wp2_with fail
  refine (toBoard_any aB_r aB_c aB_a aB.length aB_p aB _ aB_l (L32.reads aB_h)).mono ?_
  rintro e w36 ⟨_, rfl, ⟨s37, rfl, O39⟩, hb38⟩
  obtain ⟨a40, p41, rfl, _⟩ := O39.reads
  have L43 := L32.own hb38 O39
  clear L32 hb38 O39 k33 k34 k35
  have L44 := L43.box (.int .i64 aB_r) (.int .i64 aB_c) (.slice a40 aB.length p41) 28
  clear L43 
  have ⟨_, k45, k46, k47, _⟩ := L44.ownBox
  go_wp2_with fail
  refine (HI.out _ _ _ L44.tl.ownInts).mono ?_
  rintro e w48 ⟨s50, s51, rfl, O52, O53, D54, hb49⟩
  obtain ⟨a55, p56, rfl, _⟩ := O52.reads
  obtain ⟨a57, p58, rfl, _⟩ := O53.reads
  have L61 := L44.own2 hb49 O52 O53 D54
  clear L44 hb49 O52 O53 D54
  clear k45 k46 k47
  go_wp2_with fail
  refine (eqIntS_same ys0 _ _ _ _ _ ys0_len L61.ownInts L61.tl.tl.tl.tl.ownInts).mono ?_
  rintro e w62 ⟨rfl, hb63⟩
  have L64 := L61.kept hb63
  clear L61 hb63
  go_wp2_with fail
  refine (eqIntS_same ys1 _ _ _ _ _ ys1_len L64.tl.ownInts L64.tl.tl.tl.tl.tl.ownInts).mono ?_
  rintro e w65 ⟨rfl, hb66⟩
  have L67 := L64.kept hb66
  clear L64 hb66
  have ⟨_, k68, k69, k70, _⟩ := L67.tl.tl.tl.tl.tl.tl.tl.ownBox
  have ⟨_, k71, k72, k73, _⟩ := L67.tl.tl.ownBox
  go_upto_region 10 with (fail)
  go_cut [64] (fun t w' => t = .bool false ∧ Below w65.heap.size w65 w')
  case first =>
    have hd : Below w65.heap.size w65 w65.drew := (Below.refl _ _).drew
    have Ld := L67.kept hd
    go_region_with (first | (go_at_call 17; refine (toBoard_any aB_r aB_c aB_a aB.length aB_p aB _ aB_l (Ld.reads aB_h)).mono ?_; rintro e w74 ⟨_, rfl, ⟨s75, rfl, O76⟩, hb77⟩; obtain ⟨a78, p79, rfl, _⟩ := O76.reads; have ⟨_, q0, q1, q2, _⟩ := (Ld.kept hb77).tl.tl.ownBox) | (go_at_call 20; refine (eqBoard_same _ _ aB _ _ _ _ _ aB_l (Ld.kept hb77).tl.tl.tl.ownInts O76).mono ?_; rintro e w80 ⟨rfl, hb81⟩))
    all_goals (go_wp2_with fail; go_meet; exact ⟨rfl, below_on (below_on hd hb77) hb81⟩)
  obtain ⟨rfl, hb82⟩ := hcut
  have L83 := L67.kept hb82
  clear L67 hb82 k68 k69 k70 k71 k72 k73
  generalize wc = w84 at *
  have ⟨_, k85, k86, k87, _⟩ := L83.tl.tl.ownBox
  go_wp2_with fail
  refine (markBoard_any _ _ _ aB (1) _ _ aB_l (by omega) (by omega) L83.tl.tl.tl.ownInts).mono ?_
  rintro e w88 ⟨rfl, O89, hg90⟩
  have L91 := Law.mark (ts := [_, _, _]) L83 hg90 O89
  simp only [List.cons_append, List.nil_append] at L91
  clear L83 hg90 O89 k85 k86 k87
  go_wp2_with fail
  refine (eqIntS_same ys0 _ _ _ _ _ ys0_len L91.ownInts L91.tl.tl.tl.tl.ownInts).mono ?_
  rintro e w92 ⟨rfl, hb93⟩
  have L94 := L91.kept hb93
  clear L91 hb93
  go_wp2_with fail
  refine (eqIntS_same ys1 _ _ _ _ _ ys1_len L94.tl.ownInts L94.tl.tl.tl.tl.tl.ownInts).mono ?_
  rintro e w95 ⟨rfl, hb96⟩
  have L97 := L94.kept hb96
  clear L94 hb96
  go_wp2_with fail
  refine (markIntS_any _ _ ys0 (1) _ ys0_len (by omega) (by omega) L97.ownInts).mono ?_
  rintro e w98 ⟨rfl, O99, hg100⟩
  have L101 := Law.mark (ts := []) L97 hg100 O99
  simp only [List.nil_append] at L101
  clear L97 hg100 O99 
  go_wp2_with fail
  refine (markIntS_any _ _ ys1 (1 + ys0.length) _ ys1_len (by omega) (by omega) L101.tl.ownInts).mono ?_
  rintro e w102 ⟨rfl, O103, hg104⟩
  have L105 := Law.mark (ts := [_]) L101 hg104 O103
  simp only [List.cons_append, List.nil_append] at L105
  clear L101 hg104 O103 
  go_wp2_with fail
  refine (heldIntS_below _ _ ys0.length (1) _ ys0_len (by omega) (by omega) L105.ownInts).mono ?_
  rintro e w106 ⟨rfl, hb107⟩
  have L108 := L105.kept hb107
  clear L105 hb107
  go_wp2_with fail
  refine (heldIntS_below _ _ ys1.length (1 + ys0.length) _ ys1_len (by omega) (by omega) L108.tl.ownInts).mono ?_
  rintro e w109 ⟨rfl, hb110⟩
  have L111 := L108.kept hb110
  clear L108 hb110
  have ⟨_, k112, k113, k114, _⟩ := L111.tl.tl.tl.tl.tl.tl.tl.ownBox
  go_wp2_with fail
  refine (toBoard_any aB_r aB_c aB_a aB.length aB_p aB _ aB_l (L111.reads aB_h)).mono ?_
  rintro e w115 ⟨_, rfl, ⟨s116, rfl, O118⟩, hb117⟩
  obtain ⟨a119, p120, rfl, _⟩ := O118.reads
  have L122 := L111.own hb117 O118
  clear L111 hb117 O118 k112 k113 k114
  go_wp2_with fail
  refine (HI.out _ _ _ L122.ownInts).mono ?_
  rintro e w123 ⟨s125, s126, rfl, O127, O128, D129, hb124⟩
  obtain ⟨a130, p131, rfl, _⟩ := O127.reads
  obtain ⟨a132, p133, rfl, _⟩ := O128.reads
  have L136 := L122.own2 hb124 O127 O128 D129
  clear L122 hb124 O127 O128 D129
  go_wp2_with fail
  refine (eqIntS_same ys0 _ _ _ _ _ ys0_len L136.ownInts L136.tl.tl.tl.tl.tl.tl.tl.ownInts).mono ?_
  rintro e w137 ⟨rfl, hb138⟩
  have L139 := L136.kept hb138
  clear L136 hb138
  go_wp2_with fail
  refine (eqIntS_same ys1 _ _ _ _ _ ys1_len L139.tl.ownInts L139.tl.tl.tl.tl.tl.tl.tl.tl.ownInts).mono ?_
  rintro e w140 ⟨rfl, hb141⟩
  have L142 := L139.kept hb141
  clear L139 hb141
  go_wp2_with fail
  refine (heldIntS_below _ _ ys0.length (1) _ ys0_len (by omega) (by omega) L142.tl.tl.tl.ownInts).mono ?_
  rintro e w143 ⟨rfl, hb144⟩
  have L145 := L142.kept hb144
  clear L142 hb144
  go_wp2_with fail
  refine (heldIntS_below _ _ ys1.length (1 + ys0.length) _ ys1_len (by omega) (by omega) L145.tl.tl.tl.tl.ownInts).mono ?_
  rintro e w146 ⟨rfl, hb147⟩
  have L148 := L145.kept hb147
  clear L145 hb147
  go_wp2_with fail
  go_ret
  exact ⟨rfl, L148.below⟩

set_option maxRecDepth 100000 in
set_option maxHeartbeats 800000 in
theorem walk_big0 (aB_r aB_c : Int) (aB_a : Option Addr) (aB_p : Nat) (aB : List Int) (aR : Int) (aC : Int) (w : World) (aB_m : aB.length ≤ 9223372036854775807) (hbig : ¬ aB.length ≤ 1048576)  :
    Calls Try.prog 10 #[.agg #[.int .i64 aB_r, .int .i64 aB_c, .slice aB_a aB.length aB_p], .int .i64 aR, .int .i64 aC] w fun e w' => e = .returned (.bool true) ∧ Below w.heap.size w w' := by
  have L0 := Law.start w
  have L1 := L0.box (.int .i64 aB_r) (.int .i64 aB_c) (.slice aB_a aB.length aB_p) 24
  have aB_z := Lib.hid (show szN (1048576) aB.length = -1 by unfold szN; rw [if_pos (by omega)])
  go_enter Try.func10, Try.ntmps10
  have ⟨_, k0, k1, k2, _⟩ := L1.ownBox
  go_wp2_with fail
  refine (szBoard_any aB_r aB_c aB_a aB.length aB_p (1048576) _ (by omega) (by omega) (by omega)).mono ?_
  rintro e v2 ⟨rfl, hb⟩
  rw [aB_z.out]
  have L2 := L1.kept hb
  clear L1 hb k0 k1 k2
  go_wp2_with fail
  go_ret
  exact ⟨rfl, L2.below⟩

theorem walk_all (aB_r aB_c : Int) (aB_a : Option Addr) (aB_p : Nat) (aB : List Int) (aR : Int) (aC : Int) (w : World) (aB_m : aB.length ≤ 9223372036854775807) (aB_h : Reads w aB_a aB.length aB) :
    Calls Try.prog 10 #[.agg #[.int .i64 aB_r, .int .i64 aB_c, .slice aB_a aB.length aB_p], .int .i64 aR, .int .i64 aC] w fun e w' => e = .returned (.bool true) ∧ Below w.heap.size w w' := by
  by_cases c0 : aB.length ≤ 1048576
  case neg => exact walk_big0 aB_r aB_c aB_a aB_p aB aR aC w aB_m  c0
  have hS : ∀ (w : World) (loaB : Nat) (aB_s : Value), Own w loaB aB_s aB → Calls Try.prog 42 #[.agg #[.int .i64 aB_r, .int .i64 aB_c, aB_s], .int .i64 aR, .int .i64 aC] w (AnsLL (byB aB_r aB_c aB aR aC) w) := fun w loaB aB_s OaB => specBy_any aB_r aB_c aB aR aC w (by omega) loaB aB_s OaB
  have hI : ∀ (w : World) (loaB : Nat) (aB_s : Value), Own w loaB aB_s aB → Calls Try.prog 43 #[.agg #[.int .i64 aB_r, .int .i64 aB_c, aB_s], .int .i64 aR, .int .i64 aC] w (AnsLL (byB aB_r aB_c aB aR aC) w) := fun w loaB aB_s OaB => implBy_any aB_r aB_c aB aR aC w (by omega) loaB aB_s OaB
  have hy := byB_len aB_r aB_c aB aR aC
  generalize byB aB_r aB_c aB aR aC = R at *
  obtain ⟨ys0, ys1, b2⟩ := R
  exact walk aB_r aB_c aB_a aB_p aB aR aC ys0 ys1 b2 w  c0 aB_h hy.1 hy.2 hS hI

set_option maxRecDepth 100000 in
theorem contract (H : Type) (enc : TypeId × Value → H) (W : World) (base : Nat) (args : Array Value) (ds gs : List (DataW H)) (before : List MemPlace)
    (hval : ∀ (j : Nat) t v, Try.f10.params[j]? = some t → args[j]? = some v → Value.okWide Try.prog W .any base t v)
    (hW : DataW.Whole enc Try.prog Try.f10.params.toList Rows.fnExactNumbersByCellSpec.vars false W args.toList ds gs before) :
    Calls Try.prog 10 args W fun e W' => ∃ v, e = .returned v ∧ Rows.fnExactNumbersByCellSpec.post enc Try.prog Try.f10 false true false false W args v W' := by
  have hW' := hW
  obtain ⟨p, q, hA0, hV, rfl, hfz, hnd⟩ := hW
  have hA : DataW.TrodAll enc Try.prog W 0 (fun _ => true) true Try.f10.params.toList args.toList ds p := hA0
  rw [Try.params10] at hA hval
  obtain ⟨v0, v1, v2, d0, d1, d2, p0, p1, p2, rfl, rfl, rfl, h0, h1, h2⟩ := trodAll_three hA
  obtain ⟨rfl, rfl⟩ := trodVars_none hV
  clear hA0
  simp only [List.append_nil] at hW'
  have hlt : ∀ x ∈ p0 ++ (p1 ++ p2), x.block < W.heap.size := fun x hx => by have := hW'.lt x (by simpa using hx); simpa using this
  have t0 := h0
  obtain ⟨aB_r, aB_c, aB_a, aB_n, aB_p, aB, rfl, aB_m, aB_h⟩ := open_board (hval 0 24 v0 rfl rfl) h0
  obtain rfl := aB_h.1
  have t1 := h1
  obtain ⟨aR, rfl, e1, f1, _⟩ := open_int Try.underlying3 (hval 1 3 v1 rfl rfl) h1
  have t2 := h2
  obtain ⟨aC, rfl, e2, f2, _⟩ := open_int Try.underlying3 (hval 2 3 v2 rfl rfl) h2
  refine (walk_all aB_r aB_c aB_a aB_p aB aR aC W aB_m aB_h).mono ?_
  rintro e W' ⟨rfl, hb⟩
  exact ⟨_, rfl, _, _, _, [], _, [], hW', trodAll_mk1 (shut_bool Try.underlying4 _), trodAll_mk3 (Below.trod Try.laidOut (by kernel_rfl) (of_decide_eq_true (by kernel_rfl)) t0 hb (fun x hx => hlt x (by simp [hx]))) (Below.trod Try.laidOut (by kernel_rfl) (of_decide_eq_true (by kernel_rfl)) t1 hb (fun x hx => hlt x (by simp [hx]))) (Below.trod Try.laidOut (by kernel_rfl) (of_decide_eq_true (by kernel_rfl)) t2 hb (fun x hx => hlt x (by simp [hx]))), rfl, hb.frame _, fun h => by cases h⟩

set_option maxRecDepth 100000 in
theorem lifted (os : Os) (started : os.Started) (H : Type) (enc : TypeId × Value → H) :
    ReturnsInHanded {} Try.checked os 10 .any (Rows.fnExactNumbersByCellSpec.pre6 enc Try.prog Try.f10 Rows.fnExactNumbersByCellRow.domain false) (Rows.fnExactNumbersByCellSpec.post enc Try.prog Try.f10 false true false false) := by
  refine returnsInHanded_of_change (C := Try.checked) Try.own started (by kernel_rfl) Try.func10
    (ChangeSpec.witness6 (enc := enc) (C := Try.checked) false ⟨#[], #[.agg #[.int .i64 0, .int .i64 0, .slice none 0 0], .int .i64 0, .int .i64 0], []⟩ 8 (by kernel_rfl) (by kernel_rfl) (by kernel_rfl) (by kernel_rfl)) ?_
  intro W base args ds gs before hval hW _ _
  exact contract H enc W base args ds gs before hval hW

theorem holds : Rows.FnExactNumbersByCellSaid :=
  OpenClaim.holds_of_wide 10 Try.f10 rfl rfl rfl rfl rfl rfl rfl ⟨rfl, rfl, rfl, rfl, rfl⟩ rfl rfl rfl rfl rfl (by kernel_rfl) Try.func10 (by kernel_rfl)
    (of_decide_eq_true (by kernel_rfl)) (by unfold Func.isWrapper; first | (rw [if_pos (by decide +kernel)]; kernel_rfl) | (rw [if_neg (by decide +kernel)]; exact ⟨rfl, rfl⟩))
    (fun os started H enc _ => lifted os started H enc)

#print axioms holds
end Go.Proofs.Ytakdiiccdkjjcab.lNumbersByCell
