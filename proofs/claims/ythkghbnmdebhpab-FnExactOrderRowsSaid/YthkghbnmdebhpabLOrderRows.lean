/- 'FnExactOrderRows' answers true for every input, and leaves it as it was. No condition. -/
import Derived.Test.YthkghbnmdebhpabT2
import Derived.Test.YthkghbnmdebhpabOpen
import Derived.Test.YthkghbnmdebhpabO2
import Derived.Deep.RegionWith
import Derived.Deep.RegionHeld3
import Derived.Deep.DeepCutAuto
namespace Go.Proofs.Ythkghbnmdebhpab.lOrderRows
open Go.ChangeShapes Go.WideShapes Go.ChangeAt Go.RowKit Go.Joins

set_option maxRecDepth 100000 in
set_option maxHeartbeats 4000000 in
theorem walk (aB_r aB_c : Int) (aB_a : Option Addr) (aB_p : Nat) (aB : List Int) (aOrder_a : Option Addr) (aOrder_p : Nat) (aOrder : List Int) (rr0 cc0 : Int) (ys0 : List Int) (b1 : Bool) (w : World) (aOrder_f : aOrder.length ≤ 1048576) (hfit : aB.length ≤ 1048576) (aB_h : Reads w aB_a aB.length aB) (aOrder_h : Reads w aOrder_a aOrder.length aOrder) (ys0_len : ys0.length ≤ 1048576)
    (hS : ∀ (w : World) (loaB : Nat) (aB_s : Value) (loaOrder : Nat) (aOrder_s : Value), Own w loaB aB_s aB → Own w loaOrder aOrder_s aOrder → Calls Try.prog 12 #[.agg #[.int .i64 aB_r, .int .i64 aB_c, aB_s], aOrder_s] w fun e w' => ∃ s0, e = .returned (.tuple #[.agg #[.int .i64 rr0, .int .i64 cc0, s0], .bool b1]) ∧ Own w' w.heap.size s0 ys0 ∧ Below w.heap.size w w')
    (hI : ∀ (w : World) (loaB : Nat) (aB_s : Value) (loaOrder : Nat) (aOrder_s : Value), Own w loaB aB_s aB → Own w loaOrder aOrder_s aOrder → Calls Try.prog 15 #[.agg #[.int .i64 aB_r, .int .i64 aB_c, aB_s], aOrder_s] w fun e w' => ∃ s0, e = .returned (.tuple #[.agg #[.int .i64 rr0, .int .i64 cc0, s0], .bool b1]) ∧ Own w' w.heap.size s0 ys0 ∧ Below w.heap.size w w') :
    Calls Try.prog 3 #[.agg #[.int .i64 aB_r, .int .i64 aB_c, .slice aB_a aB.length aB_p], .slice aOrder_a aOrder.length aOrder_p] w fun e w' => e = .returned (.bool true) ∧ Below w.heap.size w w' := by
  have HS := Lib.hid hS; clear hS
  have HI := Lib.hid hI; clear hI
  have L0 := Law.start w
  have L1 := L0.box (.int .i64 aB_r) (.int .i64 aB_c) (.slice aB_a aB.length aB_p) 24
  clear L0 
  have aB_z := Lib.hid (show szN (1048576) aB.length = 1048576 - aB.length by unfold szN; rw [if_neg (by omega)])
  have aB_l : aB.length ≤ 1048576 := by omega
  have aOrder_l : aOrder.length ≤ 1048576 := aOrder_f
  go_enter Try.func3, Try.ntmps3
  have ⟨_, k2, k3, k4, _⟩ := L1.ownBox
  go_wp2_with fail
  refine (szBoard_any aB_r aB_c aB_a aB.length aB_p (1048576) _ (by omega) (by omega) (by omega)).mono ?_
  rintro e w5 ⟨rfl, hb6⟩
  rw [aB_z.out]
  have L7 := L1.kept hb6
  clear L1 hb6 k2 k3 k4
  have ⟨_, k8, k9, k10, _⟩ := L7.ownBox
  go_wp2_with fail
  refine (toBoard_any aB_r aB_c aB_a aB.length aB_p aB _ aB_l (L7.reads aB_h)).mono ?_
  rintro e w11 ⟨_, rfl, ⟨s12, rfl, O14⟩, hb13⟩
  obtain ⟨a15, p16, rfl, _⟩ := O14.reads
  have L18 := L7.own hb13 O14
  clear L7 hb13 O14 k8 k9 k10
  go_wp2_with fail
  refine (toIntS_any aOrder_a aOrder.length aOrder_p aOrder _ aOrder_l (L18.reads aOrder_h)).mono ?_
  rintro e w19 ⟨s20, rfl, O22, hb21⟩
  obtain ⟨a23, p24, rfl, _⟩ := O22.reads
  have L26 := L18.own hb21 O22
  clear L18 hb21 O22
  go_wp2_with fail
  refine (HS.out _ _ _ _ _ L26.tl.ownInts L26.ownInts).mono ?_
  rintro e w27 ⟨s29, rfl, O30, hb28⟩
  obtain ⟨a32, p33, rfl, _⟩ := O30.reads
  have L35 := L26.own hb28 O30
  clear L26 hb28 O30
  have L36 := L35.box (.int .i64 rr0) (.int .i64 cc0) (.slice a32 ys0.length p33) 26
  clear L35 
  have ⟨_, k37, k38, k39, _⟩ := L36.tl.tl.tl.tl.ownBox
  go_wp2_with fail
  refine (toBoard_any aB_r aB_c aB_a aB.length aB_p aB _ aB_l (L36.reads aB_h)).mono ?_
  rintro e w40 ⟨_, rfl, ⟨s41, rfl, O43⟩, hb42⟩
  obtain ⟨a44, p45, rfl, _⟩ := O43.reads
  have L47 := L36.own hb42 O43
  clear L36 hb42 O43 k37 k38 k39
  have L48 := L47.box (.int .i64 aB_r) (.int .i64 aB_c) (.slice a44 aB.length p45) 26
  clear L47 
  go_wp2_with fail
  refine (toIntS_any aOrder_a aOrder.length aOrder_p aOrder _ aOrder_l (L48.reads aOrder_h)).mono ?_
  rintro e w49 ⟨s50, rfl, O52, hb51⟩
  obtain ⟨a53, p54, rfl, _⟩ := O52.reads
  have L56 := L48.own hb51 O52
  clear L48 hb51 O52
  have ⟨_, k57, k58, k59, _⟩ := L56.tl.ownBox
  go_wp2_with fail
  refine (HI.out _ _ _ _ _ L56.tl.tl.ownInts L56.ownInts).mono ?_
  rintro e w60 ⟨s62, rfl, O63, hb61⟩
  obtain ⟨a65, p66, rfl, _⟩ := O63.reads
  have L68 := L56.own hb61 O63
  clear L56 hb61 O63
  clear k57 k58 k59
  have ⟨_, k69, k70, k71, _⟩ := L68.tl.tl.tl.tl.ownBox
  have L72 := L68.box (.int .i64 rr0) (.int .i64 cc0) (.slice a65 ys0.length p66) 26
  clear L68 
  go_wp2_with fail
  refine (eqBoard_same _ _ ys0 _ _ _ _ _ ys0_len L72.tl.ownInts L72.tl.tl.tl.tl.tl.tl.ownInts).mono ?_
  rintro e w73 ⟨rfl, hb74⟩
  have L75 := L72.kept hb74
  clear L72 hb74 k69 k70 k71
  have ⟨_, k76, k77, k78, _⟩ := L75.tl.tl.tl.tl.tl.tl.tl.tl.tl.ownBox
  have ⟨_, k79, k80, k81, _⟩ := L75.tl.tl.tl.ownBox
  go_upto_region 13 with (fail)
  go_cut [56] (fun t w' => t = .bool false ∧ Below w73.heap.size w73 w')
  case first =>
    have hd : Below w73.heap.size w73 w73.drew := (Below.refl _ _).drew
    have Ld := L75.kept hd
    go_region_with (first | (go_at_call 13; refine (toBoard_any aB_r aB_c aB_a aB.length aB_p aB _ aB_l (Ld.reads aB_h)).mono ?_; rintro e w82 ⟨_, rfl, ⟨s83, rfl, O84⟩, hb85⟩; obtain ⟨a86, p87, rfl, _⟩ := O84.reads; have ⟨_, q0, q1, q2, _⟩ := (Ld.kept hb85).tl.tl.tl.ownBox) | (go_at_call 16; refine (eqBoard_same _ _ aB _ _ _ _ _ aB_l (Ld.kept hb85).tl.tl.tl.tl.ownInts O84).mono ?_; rintro e w88 ⟨rfl, hb89⟩))
    all_goals (go_wp2_with fail; go_meet; exact ⟨rfl, below_on (below_on hd hb85) hb89⟩)
  obtain ⟨rfl, hb90⟩ := hcut
  have L91 := L75.kept hb90
  clear L75 hb90 k76 k77 k78 k79 k80 k81
  generalize wc = w92 at *
  go_wp2_with fail
  refine (toIntS_any aOrder_a aOrder.length aOrder_p aOrder _ aOrder_l (L91.reads aOrder_h)).mono ?_
  rintro e w93 ⟨s94, rfl, O96, hb95⟩
  obtain ⟨a97, p98, rfl, _⟩ := O96.reads
  have L100 := L91.own hb95 O96
  clear L91 hb95 O96
  go_wp2_with fail
  refine (eqIntS_same aOrder _ _ _ _ _ aOrder_l L100.tl.tl.tl.ownInts L100.ownInts).mono ?_
  rintro e w101 ⟨rfl, hb102⟩
  have L103 := L100.kept hb102
  clear L100 hb102
  have ⟨_, k104, k105, k106, _⟩ := L103.tl.tl.tl.tl.ownBox
  go_wp2_with fail
  refine (markBoard_any _ _ _ aB (1) _ _ aB_l (by omega) (by omega) L103.tl.tl.tl.tl.tl.ownInts).mono ?_
  rintro e w107 ⟨rfl, O108, hg109⟩
  have L110 := Law.mark (ts := [_, _, _, _, _]) L103 hg109 O108
  simp only [List.cons_append, List.nil_append] at L110
  clear L103 hg109 O108 k104 k105 k106
  go_wp2_with fail
  refine (markIntS_any _ _ aOrder (1 + aB.length) _ aOrder_l (by omega) (by omega) L110.tl.tl.tl.ownInts).mono ?_
  rintro e w111 ⟨rfl, O112, hg113⟩
  have L114 := Law.mark (ts := [_, _, _]) L110 hg113 O112
  simp only [List.cons_append, List.nil_append] at L114
  clear L110 hg113 O112 
  have ⟨_, k115, k116, k117, _⟩ := L114.tl.ownBox
  have ⟨_, k118, k119, k120, _⟩ := L114.tl.tl.tl.tl.tl.tl.ownBox
  go_wp2_with fail
  refine (eqBoard_same _ _ ys0 _ _ _ _ _ ys0_len L114.tl.tl.ownInts L114.tl.tl.tl.tl.tl.tl.tl.ownInts).mono ?_
  rintro e w121 ⟨rfl, hb122⟩
  have L123 := L114.kept hb122
  clear L114 hb122 k115 k116 k117 k118 k119 k120
  have ⟨_, k124, k125, k126, _⟩ := L123.tl.ownBox
  go_wp2_with fail
  refine (markBoard_any _ _ _ ys0 (1) _ _ ys0_len (by omega) (by omega) L123.tl.tl.ownInts).mono ?_
  rintro e w127 ⟨rfl, O128, hg129⟩
  have L130 := Law.mark (ts := [_, _]) L123 hg129 O128
  simp only [List.cons_append, List.nil_append] at L130
  clear L123 hg129 O128 k124 k125 k126
  have ⟨_, k131, k132, k133, _⟩ := L130.tl.ownBox
  go_wp2_with fail
  refine (heldBoard_any _ _ _ ys0.length (1) _ _ ys0_len (by omega) (by omega) L130.tl.tl.ownInts).mono ?_
  rintro e w134 ⟨rfl, hb135⟩
  have L136 := L130.kept hb135
  clear L130 hb135 k131 k132 k133
  have ⟨_, k137, k138, k139, _⟩ := L136.tl.tl.tl.tl.tl.tl.tl.tl.tl.tl.ownBox
  go_wp2_with fail
  refine (toBoard_any aB_r aB_c aB_a aB.length aB_p aB _ aB_l (L136.reads aB_h)).mono ?_
  rintro e w140 ⟨_, rfl, ⟨s141, rfl, O143⟩, hb142⟩
  obtain ⟨a144, p145, rfl, _⟩ := O143.reads
  have L147 := L136.own hb142 O143
  clear L136 hb142 O143 k137 k138 k139
  go_wp2_with fail
  refine (toIntS_any aOrder_a aOrder.length aOrder_p aOrder _ aOrder_l (L147.reads aOrder_h)).mono ?_
  rintro e w148 ⟨s149, rfl, O151, hb150⟩
  obtain ⟨a152, p153, rfl, _⟩ := O151.reads
  have L155 := L147.own hb150 O151
  clear L147 hb150 O151
  go_wp2_with fail
  refine (HI.out _ _ _ _ _ L155.tl.ownInts L155.ownInts).mono ?_
  rintro e w156 ⟨s158, rfl, O159, hb157⟩
  obtain ⟨a161, p162, rfl, _⟩ := O159.reads
  have L164 := L155.own hb157 O159
  clear L155 hb157 O159
  have ⟨_, k165, k166, k167, _⟩ := L164.tl.tl.tl.tl.tl.tl.tl.tl.tl.ownBox
  have L168 := L164.box (.int .i64 rr0) (.int .i64 cc0) (.slice a161 ys0.length p162) 26
  clear L164 
  go_wp2_with fail
  refine (eqBoard_same _ _ ys0 _ _ _ _ _ ys0_len L168.tl.ownInts L168.tl.tl.tl.tl.tl.tl.tl.tl.tl.tl.tl.ownInts).mono ?_
  rintro e w169 ⟨rfl, hb170⟩
  have L171 := L168.kept hb170
  clear L168 hb170 k165 k166 k167
  have ⟨_, k172, k173, k174, _⟩ := L171.tl.tl.tl.tl.tl.ownBox
  go_wp2_with fail
  refine (heldBoard_any _ _ _ ys0.length (1) _ _ ys0_len (by omega) (by omega) L171.tl.tl.tl.tl.tl.tl.ownInts).mono ?_
  rintro e w175 ⟨rfl, hb176⟩
  have L177 := L171.kept hb176
  clear L171 hb176 k172 k173 k174
  go_wp2_with fail
  go_ret
  exact ⟨rfl, L177.below⟩

set_option maxRecDepth 100000 in
set_option maxHeartbeats 800000 in
theorem walk_big0 (aB_r aB_c : Int) (aB_a : Option Addr) (aB_p : Nat) (aB : List Int) (aOrder_a : Option Addr) (aOrder_p : Nat) (aOrder : List Int) (w : World) (aOrder_m : aOrder.length ≤ 9223372036854775807) (hbig : ¬ aOrder.length ≤ 1048576)  :
    Calls Try.prog 3 #[.agg #[.int .i64 aB_r, .int .i64 aB_c, .slice aB_a aB.length aB_p], .slice aOrder_a aOrder.length aOrder_p] w fun e w' => e = .returned (.bool true) ∧ Below w.heap.size w w' := by
  have L0 := Law.start w
  have L1 := L0.box (.int .i64 aB_r) (.int .i64 aB_c) (.slice aB_a aB.length aB_p) 24
  have hb2 : 1048576 < aOrder.length := by omega
  clear hbig
  go_enter Try.func3, Try.ntmps3
  go_wp2_with fail
  go_ret
  exact ⟨rfl, L1.below⟩

set_option maxRecDepth 100000 in
set_option maxHeartbeats 800000 in
theorem walk_big1 (aB_r aB_c : Int) (aB_a : Option Addr) (aB_p : Nat) (aB : List Int) (aOrder_a : Option Addr) (aOrder_p : Nat) (aOrder : List Int) (w : World) (aOrder_m : aOrder.length ≤ 9223372036854775807) (aB_m : aB.length ≤ 9223372036854775807) (aOrder_f : aOrder.length ≤ 1048576) (hbig : ¬ aB.length ≤ 1048576)  :
    Calls Try.prog 3 #[.agg #[.int .i64 aB_r, .int .i64 aB_c, .slice aB_a aB.length aB_p], .slice aOrder_a aOrder.length aOrder_p] w fun e w' => e = .returned (.bool true) ∧ Below w.heap.size w w' := by
  have L0 := Law.start w
  have L1 := L0.box (.int .i64 aB_r) (.int .i64 aB_c) (.slice aB_a aB.length aB_p) 24
  have aB_z := Lib.hid (show szN (1048576) aB.length = -1 by unfold szN; rw [if_pos (by omega)])
  go_enter Try.func3, Try.ntmps3
  have ⟨_, k0, k1, k2, _⟩ := L1.ownBox
  go_wp2_with fail
  refine (szBoard_any aB_r aB_c aB_a aB.length aB_p (1048576) _ (by omega) (by omega) (by omega)).mono ?_
  rintro e v2 ⟨rfl, hb⟩
  rw [aB_z.out]
  have L2 := L1.kept hb
  clear L1 hb k0 k1 k2
  go_wp2_with fail
  go_ret
  exact ⟨rfl, L2.below⟩

theorem walk_all (aB_r aB_c : Int) (aB_a : Option Addr) (aB_p : Nat) (aB : List Int) (aOrder_a : Option Addr) (aOrder_p : Nat) (aOrder : List Int) (w : World) (aB_m : aB.length ≤ 9223372036854775807) (aOrder_m : aOrder.length ≤ 9223372036854775807) (aB_h : Reads w aB_a aB.length aB) (aOrder_h : Reads w aOrder_a aOrder.length aOrder) :
    Calls Try.prog 3 #[.agg #[.int .i64 aB_r, .int .i64 aB_c, .slice aB_a aB.length aB_p], .slice aOrder_a aOrder.length aOrder_p] w fun e w' => e = .returned (.bool true) ∧ Below w.heap.size w w' := by
  by_cases c0 : aOrder.length ≤ 1048576
  case neg => exact walk_big0 aB_r aB_c aB_a aB_p aB aOrder_a aOrder_p aOrder w aOrder_m  c0
  by_cases c1 : aB.length ≤ 1048576
  case neg => exact walk_big1 aB_r aB_c aB_a aB_p aB aOrder_a aOrder_p aOrder w aOrder_m aB_m c0 c1
  have hS : ∀ (w : World) (loaB : Nat) (aB_s : Value) (loaOrder : Nat) (aOrder_s : Value), Own w loaB aB_s aB → Own w loaOrder aOrder_s aOrder → Calls Try.prog 12 #[.agg #[.int .i64 aB_r, .int .i64 aB_c, aB_s], aOrder_s] w (AnsB (orderB aB_r aB_c aB aOrder) w) := fun w loaB aB_s loaOrder aOrder_s OaB OaOrder => specOrder_any aB_r aB_c aB aOrder w (by omega) (by omega) loaB aB_s loaOrder aOrder_s OaB OaOrder
  have hI : ∀ (w : World) (loaB : Nat) (aB_s : Value) (loaOrder : Nat) (aOrder_s : Value), Own w loaB aB_s aB → Own w loaOrder aOrder_s aOrder → Calls Try.prog 15 #[.agg #[.int .i64 aB_r, .int .i64 aB_c, aB_s], aOrder_s] w (AnsB (orderB aB_r aB_c aB aOrder) w) := fun w loaB aB_s loaOrder aOrder_s OaB OaOrder => implOrder_any aB_r aB_c aB aOrder w (by omega) (by omega) loaB aB_s loaOrder aOrder_s OaB OaOrder
  have hy := orderB_len aB_r aB_c aB aOrder
  generalize orderB aB_r aB_c aB aOrder = R at *
  obtain ⟨rr0, cc0, ys0, b1⟩ := R
  exact walk aB_r aB_c aB_a aB_p aB aOrder_a aOrder_p aOrder rr0 cc0 ys0 b1 w c0 c1 aB_h aOrder_h hy hS hI

set_option maxRecDepth 100000 in
theorem contract (H : Type) (enc : TypeId × Value → H) (W : World) (base : Nat) (args : Array Value) (ds gs : List (DataW H)) (before : List MemPlace)
    (hval : ∀ (j : Nat) t v, Try.f3.params[j]? = some t → args[j]? = some v → Value.okWide Try.prog W .any base t v)
    (hW : DataW.Whole enc Try.prog Try.f3.params.toList Rows.fnExactOrderRowsSpec.vars false W args.toList ds gs before) :
    Calls Try.prog 3 args W fun e W' => ∃ v, e = .returned v ∧ Rows.fnExactOrderRowsSpec.post enc Try.prog Try.f3 false true false false W args v W' := by
  have hW' := hW
  obtain ⟨p, q, hA0, hV, rfl, hfz, hnd⟩ := hW
  have hA : DataW.TrodAll enc Try.prog W 0 (fun _ => true) true Try.f3.params.toList args.toList ds p := hA0
  rw [Try.params3] at hA hval
  obtain ⟨v0, v1, d0, d1, p0, p1, rfl, rfl, rfl, h0, h1⟩ := trodAll_two hA
  obtain ⟨rfl, rfl⟩ := trodVars_none hV
  clear hA0
  simp only [List.append_nil] at hW'
  have hlt : ∀ x ∈ p0 ++ p1, x.block < W.heap.size := fun x hx => by have := hW'.lt x (by simpa using hx); simpa using this
  have t0 := h0
  obtain ⟨aB_r, aB_c, aB_a, aB_n, aB_p, aB, rfl, aB_m, aB_h⟩ := open_board (hval 0 24 v0 rfl rfl) h0
  obtain rfl := aB_h.1
  have t1 := h1
  obtain ⟨aOrder_a, aOrder_n, aOrder_p, rfl⟩ := okWide_slice Try.underlying22 (hval 1 22 v1 rfl rfl)
  obtain ⟨fu1, hf1⟩ := h1
  obtain ⟨aOrder_m, aOrder, aOrder_h⟩ := reads_of (by simpa [Value.cells] using hf1)
  obtain rfl := aOrder_h.1
  refine (walk_all aB_r aB_c aB_a aB_p aB aOrder_a aOrder_p aOrder W aB_m aOrder_m aB_h aOrder_h).mono ?_
  rintro e W' ⟨rfl, hb⟩
  exact ⟨_, rfl, _, _, _, [], _, [], hW', trodAll_mk1 (shut_bool Try.underlying4 _), trodAll_mk2 (Below.trod Try.laidOut (by kernel_rfl) (of_decide_eq_true (by kernel_rfl)) t0 hb (fun x hx => hlt x (by simp [hx]))) (Below.trod Try.laidOut (by kernel_rfl) (of_decide_eq_true (by kernel_rfl)) t1 hb (fun x hx => hlt x (by simp [hx]))), rfl, hb.frame _, fun h => by cases h⟩

set_option maxRecDepth 100000 in
theorem lifted (os : Os) (started : os.Started) (H : Type) (enc : TypeId × Value → H) :
    ReturnsInHanded {} Try.checked os 3 .any (Rows.fnExactOrderRowsSpec.pre6 enc Try.prog Try.f3 Rows.fnExactOrderRowsRow.domain false) (Rows.fnExactOrderRowsSpec.post enc Try.prog Try.f3 false true false false) := by
  refine returnsInHanded_of_change (C := Try.checked) Try.own started (by kernel_rfl) Try.func3
    (ChangeSpec.witness6 (enc := enc) (C := Try.checked) false ⟨#[], #[.agg #[.int .i64 0, .int .i64 0, .slice none 0 0], .slice none 0 0], []⟩ 8 (by kernel_rfl) (by kernel_rfl) (by kernel_rfl) (by kernel_rfl)) ?_
  intro W base args ds gs before hval hW _ _
  exact contract H enc W base args ds gs before hval hW

theorem holds : Rows.FnExactOrderRowsSaid :=
  OpenClaim.holds_of_wide 3 Try.f3 rfl rfl rfl rfl rfl rfl rfl ⟨rfl, rfl, rfl, rfl, rfl⟩ rfl rfl rfl rfl rfl (by kernel_rfl) Try.func3 (by kernel_rfl)
    (of_decide_eq_true (by kernel_rfl)) (by unfold Func.isWrapper; first | (rw [if_pos (by decide +kernel)]; kernel_rfl) | (rw [if_neg (by decide +kernel)]; exact ⟨rfl, rfl⟩))
    (fun os started H enc _ => lifted os started H enc)

#print axioms holds
end Go.Proofs.Ythkghbnmdebhpab.lOrderRows
