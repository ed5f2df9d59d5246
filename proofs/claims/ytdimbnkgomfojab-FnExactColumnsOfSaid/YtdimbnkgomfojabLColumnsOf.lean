/- 'FnExactColumnsOf' answers true for every input, and leaves it as it was. No condition. -/
import Derived.Test.YtdimbnkgomfojabT2
import Derived.Test.YtdimbnkgomfojabOpen
import Derived.Test.YtdimbnkgomfojabQy
import Derived.Deep.RegionWith
import Derived.Deep.RegionHeld3
import Derived.Deep.DeepCutAuto
namespace Go.Proofs.Ytdimbnkgomfojab.lColumnsOf
open Go.ChangeShapes Go.WideShapes Go.ChangeAt Go.RowKit Go.Joins

set_option maxRecDepth 100000 in
set_option maxHeartbeats 4000000 in
theorem walk (aB_r aB_c : Int) (aB_a : Option Addr) (aB_p : Nat) (aB : List Int) (aRows_a : Option Addr) (aRows_p : Nat) (aRows : List Int) (ys0 : List Int) (b1 : Bool) (w : World) (aRows_f : aRows.length ≤ 1048576) (hfit : aB.length ≤ 1048576) (aB_h : Reads w aB_a aB.length aB) (aRows_h : Reads w aRows_a aRows.length aRows) (ys0_len : ys0.length ≤ 1048576)
    (hS : ∀ (w : World) (loaB : Nat) (aB_s : Value) (loaRows : Nat) (aRows_s : Value), Own w loaB aB_s aB → Own w loaRows aRows_s aRows → Calls Try.prog 43 #[.agg #[.int .i64 aB_r, .int .i64 aB_c, aB_s], aRows_s] w fun e w' => ∃ s0, e = .returned (.tuple #[s0, .bool b1]) ∧ Own w' w.heap.size s0 ys0 ∧ Below w.heap.size w w')
    (hI : ∀ (w : World) (loaB : Nat) (aB_s : Value) (loaRows : Nat) (aRows_s : Value), Own w loaB aB_s aB → Own w loaRows aRows_s aRows → Calls Try.prog 45 #[.agg #[.int .i64 aB_r, .int .i64 aB_c, aB_s], aRows_s] w fun e w' => ∃ s0, e = .returned (.tuple #[s0, .bool b1]) ∧ Own w' w.heap.size s0 ys0 ∧ Below w.heap.size w w') :
    Calls Try.prog 8 #[.agg #[.int .i64 aB_r, .int .i64 aB_c, .slice aB_a aB.length aB_p], .slice aRows_a aRows.length aRows_p] w fun e w' => e = .returned (.bool true) ∧ Below w.heap.size w w' := by
  have HS := Lib.hid hS; clear hS
  have HI := Lib.hid hI; clear hI
  have L0 := Law.start w
  have L1 := L0.box (.int .i64 aB_r) (.int .i64 aB_c) (.slice aB_a aB.length aB_p) 24
  clear L0 
  have aB_z := Lib.hid (show szN (1048576) aB.length = 1048576 - aB.length by unfold szN; rw [if_neg (by omega)])
  have aB_l : aB.length ≤ 1048576 := by omega
  have aRows_l : aRows.length ≤ 1048576 := aRows_f
  go_enter Try.func8, Try.ntmps8
  have ⟨_, k2, k3, k4, _⟩ := L1.ownBox
  go_wp2_with fail
  refine (szBoard_any aB_r aB_c aB_a aB.length aB_p (1048576) _ (by omega) (by omega) (by omega)).mono ?_
  rintro e w5 ⟨rfl, hb6⟩
  rw [aB_z.out]
  have L7 := L1.kept hb6
  clear L1 hb6 k2 k3 k4
  have ⟨_, k8, k9, k10, _⟩ := L7.ownBox
  go_wp2_with fail
  refine (toBoard_any aB_r aB_c aB_a aB.length aB_p aB _ aB_l (L7.reads aB_h)).mono ?_
  rintro e w11 ⟨_, rfl, ⟨s12, rfl, O14⟩, hb13⟩
  obtain ⟨a15, p16, rfl, _⟩ := O14.reads
  have L18 := L7.own hb13 O14
  clear L7 hb13 O14 k8 k9 k10
  go_wp2_with fail
  refine (toIntS_any aRows_a aRows.length aRows_p aRows _ aRows_l (L18.reads aRows_h)).mono ?_
  rintro e w19 ⟨s20, rfl, O22, hb21⟩
  obtain ⟨a23, p24, rfl, _⟩ := O22.reads
  have L26 := L18.own hb21 O22
  clear L18 hb21 O22
  go_wp2_with fail
  refine (HS.out _ _ _ _ _ L26.tl.ownInts L26.ownInts).mono ?_
  rintro e w27 ⟨s29, rfl, O30, hb28⟩
  obtain ⟨a32, p33, rfl, _⟩ := O30.reads
  have L35 := L26.own hb28 O30
  clear L26 hb28 O30
  have ⟨_, k36, k37, k38, _⟩ := L35.tl.tl.tl.ownBox
  go_wp2_with fail
  refine (toBoard_any aB_r aB_c aB_a aB.length aB_p aB _ aB_l (L35.reads aB_h)).mono ?_
  rintro e w39 ⟨_, rfl, ⟨s40, rfl, O42⟩, hb41⟩
  obtain ⟨a43, p44, rfl, _⟩ := O42.reads
  have L46 := L35.own hb41 O42
  clear L35 hb41 O42 k36 k37 k38
  have L47 := L46.box (.int .i64 aB_r) (.int .i64 aB_c) (.slice a43 aB.length p44) 28
  clear L46 
  go_wp2_with fail
  refine (toIntS_any aRows_a aRows.length aRows_p aRows _ aRows_l (L47.reads aRows_h)).mono ?_
  rintro e w48 ⟨s49, rfl, O51, hb50⟩
  obtain ⟨a52, p53, rfl, _⟩ := O51.reads
  have L55 := L47.own hb50 O51
  clear L47 hb50 O51
  have ⟨_, k56, k57, k58, _⟩ := L55.tl.ownBox
  go_wp2_with fail
  refine (HI.out _ _ _ _ _ L55.tl.tl.ownInts L55.ownInts).mono ?_
  rintro e w59 ⟨s61, rfl, O62, hb60⟩
  obtain ⟨a64, p65, rfl, _⟩ := O62.reads
  have L67 := L55.own hb60 O62
  clear L55 hb60 O62
  clear k56 k57 k58
  go_wp2_with fail
  refine (eqIntS_same ys0 _ _ _ _ _ ys0_len L67.ownInts L67.tl.tl.tl.tl.ownInts).mono ?_
  rintro e w68 ⟨rfl, hb69⟩
  have L70 := L67.kept hb69
  clear L67 hb69
  have ⟨_, k71, k72, k73, _⟩ := L70.tl.tl.tl.tl.tl.tl.tl.ownBox
  have ⟨_, k74, k75, k76, _⟩ := L70.tl.tl.ownBox
  go_upto_region 13 with (fail)
  go_cut [56] (fun t w' => t = .bool false ∧ Below w68.heap.size w68 w')
  case first =>
    have hd : Below w68.heap.size w68 w68.drew := (Below.refl _ _).drew
    have Ld := L70.kept hd
    go_region_with (first | (go_at_call 17; refine (toBoard_any aB_r aB_c aB_a aB.length aB_p aB _ aB_l (Ld.reads aB_h)).mono ?_; rintro e w77 ⟨_, rfl, ⟨s78, rfl, O79⟩, hb80⟩; obtain ⟨a81, p82, rfl, _⟩ := O79.reads; have ⟨_, q0, q1, q2, _⟩ := (Ld.kept hb80).tl.tl.ownBox) | (go_at_call 20; refine (eqBoard_same _ _ aB _ _ _ _ _ aB_l (Ld.kept hb80).tl.tl.tl.ownInts O79).mono ?_; rintro e w83 ⟨rfl, hb84⟩))
    all_goals (go_wp2_with fail; go_meet; exact ⟨rfl, below_on (below_on hd hb80) hb84⟩)
  obtain ⟨rfl, hb85⟩ := hcut
  have L86 := L70.kept hb85
  clear L70 hb85 k71 k72 k73 k74 k75 k76
  generalize wc = w87 at *
  go_wp2_with fail
  refine (toIntS_any aRows_a aRows.length aRows_p aRows _ aRows_l (L86.reads aRows_h)).mono ?_
  rintro e w88 ⟨s89, rfl, O91, hb90⟩
  obtain ⟨a92, p93, rfl, _⟩ := O91.reads
  have L95 := L86.own hb90 O91
  clear L86 hb90 O91
  go_wp2_with fail
  refine (eqIntS_same aRows _ _ _ _ _ aRows_l L95.tl.tl.ownInts L95.ownInts).mono ?_
  rintro e w96 ⟨rfl, hb97⟩
  have L98 := L95.kept hb97
  clear L95 hb97
  have ⟨_, k99, k100, k101, _⟩ := L98.tl.tl.tl.ownBox
  go_wp2_with fail
  refine (markBoard_any _ _ _ aB (1) _ _ aB_l (by omega) (by omega) L98.tl.tl.tl.tl.ownInts).mono ?_
  rintro e w102 ⟨rfl, O103, hg104⟩
  have L105 := Law.mark (ts := [_, _, _, _]) L98 hg104 O103
  simp only [List.cons_append, List.nil_append] at L105
  clear L98 hg104 O103 k99 k100 k101
  go_wp2_with fail
  refine (markIntS_any _ _ aRows (1 + aB.length) _ aRows_l (by omega) (by omega) L105.tl.tl.ownInts).mono ?_
  rintro e w106 ⟨rfl, O107, hg108⟩
  have L109 := Law.mark (ts := [_, _]) L105 hg108 O107
  simp only [List.cons_append, List.nil_append] at L109
  clear L105 hg108 O107 
  go_wp2_with fail
  refine (eqIntS_same ys0 _ _ _ _ _ ys0_len L109.tl.ownInts L109.tl.tl.tl.tl.tl.ownInts).mono ?_
  rintro e w110 ⟨rfl, hb111⟩
  have L112 := L109.kept hb111
  clear L109 hb111
  go_wp2_with fail
  refine (markIntS_any _ _ ys0 (1) _ ys0_len (by omega) (by omega) L112.tl.ownInts).mono ?_
  rintro e w113 ⟨rfl, O114, hg115⟩
  have L116 := Law.mark (ts := [_]) L112 hg115 O114
  simp only [List.cons_append, List.nil_append] at L116
  clear L112 hg115 O114 
  go_wp2_with fail
  refine (heldIntS_below _ _ ys0.length (1) _ ys0_len (by omega) (by omega) L116.tl.ownInts).mono ?_
  rintro e w117 ⟨rfl, hb118⟩
  have L119 := L116.kept hb118
  clear L116 hb118
  have ⟨_, k120, k121, k122, _⟩ := L119.tl.tl.tl.tl.tl.tl.tl.tl.ownBox
  go_wp2_with fail
  refine (toBoard_any aB_r aB_c aB_a aB.length aB_p aB _ aB_l (L119.reads aB_h)).mono ?_
  rintro e w123 ⟨_, rfl, ⟨s124, rfl, O126⟩, hb125⟩
  obtain ⟨a127, p128, rfl, _⟩ := O126.reads
  have L130 := L119.own hb125 O126
  clear L119 hb125 O126 k120 k121 k122
  go_wp2_with fail
  refine (toIntS_any aRows_a aRows.length aRows_p aRows _ aRows_l (L130.reads aRows_h)).mono ?_
  rintro e w131 ⟨s132, rfl, O134, hb133⟩
  obtain ⟨a135, p136, rfl, _⟩ := O134.reads
  have L138 := L130.own hb133 O134
  clear L130 hb133 O134
  go_wp2_with fail
  refine (HI.out _ _ _ _ _ L138.tl.ownInts L138.ownInts).mono ?_
  rintro e w139 ⟨s141, rfl, O142, hb140⟩
  obtain ⟨a144, p145, rfl, _⟩ := O142.reads
  have L147 := L138.own hb140 O142
  clear L138 hb140 O142
  go_wp2_with fail
  refine (eqIntS_same ys0 _ _ _ _ _ ys0_len L147.ownInts L147.tl.tl.tl.tl.tl.tl.tl.tl.ownInts).mono ?_
  rintro e w148 ⟨rfl, hb149⟩
  have L150 := L147.kept hb149
  clear L147 hb149
  go_wp2_with fail
  refine (heldIntS_below _ _ ys0.length (1) _ ys0_len (by omega) (by omega) L150.tl.tl.tl.tl.ownInts).mono ?_
  rintro e w151 ⟨rfl, hb152⟩
  have L153 := L150.kept hb152
  clear L150 hb152
  go_wp2_with fail
  go_ret
  exact ⟨rfl, L153.below⟩

set_option maxRecDepth 100000 in
set_option maxHeartbeats 800000 in
theorem walk_big0 (aB_r aB_c : Int) (aB_a : Option Addr) (aB_p : Nat) (aB : List Int) (aRows_a : Option Addr) (aRows_p : Nat) (aRows : List Int) (w : World) (aRows_m : aRows.length ≤ 9223372036854775807) (hbig : ¬ aRows.length ≤ 1048576)  :
    Calls Try.prog 8 #[.agg #[.int .i64 aB_r, .int .i64 aB_c, .slice aB_a aB.length aB_p], .slice aRows_a aRows.length aRows_p] w fun e w' => e = .returned (.bool true) ∧ Below w.heap.size w w' := by
  have L0 := Law.start w
  have L1 := L0.box (.int .i64 aB_r) (.int .i64 aB_c) (.slice aB_a aB.length aB_p) 24
  have hb2 : 1048576 < aRows.length := by omega
  clear hbig
  go_enter Try.func8, Try.ntmps8
  go_wp2_with fail
  go_ret
  exact ⟨rfl, L1.below⟩

set_option maxRecDepth 100000 in
set_option maxHeartbeats 800000 in
theorem walk_big1 (aB_r aB_c : Int) (aB_a : Option Addr) (aB_p : Nat) (aB : List Int) (aRows_a : Option Addr) (aRows_p : Nat) (aRows : List Int) (w : World) (aRows_m : aRows.length ≤ 9223372036854775807) (aB_m : aB.length ≤ 9223372036854775807) (aRows_f : aRows.length ≤ 1048576) (hbig : ¬ aB.length ≤ 1048576)  :
    Calls Try.prog 8 #[.agg #[.int .i64 aB_r, .int .i64 aB_c, .slice aB_a aB.length aB_p], .slice aRows_a aRows.length aRows_p] w fun e w' => e = .returned (.bool true) ∧ Below w.heap.size w w' := by
  have L0 := Law.start w
  have L1 := L0.box (.int .i64 aB_r) (.int .i64 aB_c) (.slice aB_a aB.length aB_p) 24
  have aB_z := Lib.hid (show szN (1048576) aB.length = -1 by unfold szN; rw [if_pos (by omega)])
  go_enter Try.func8, Try.ntmps8
  have ⟨_, k0, k1, k2, _⟩ := L1.ownBox
  go_wp2_with fail
  refine (szBoard_any aB_r aB_c aB_a aB.length aB_p (1048576) _ (by omega) (by omega) (by omega)).mono ?_
  rintro e v2 ⟨rfl, hb⟩
  rw [aB_z.out]
  have L2 := L1.kept hb
  clear L1 hb k0 k1 k2
  go_wp2_with fail
  go_ret
  exact ⟨rfl, L2.below⟩

theorem walk_all (aB_r aB_c : Int) (aB_a : Option Addr) (aB_p : Nat) (aB : List Int) (aRows_a : Option Addr) (aRows_p : Nat) (aRows : List Int) (w : World) (aB_m : aB.length ≤ 9223372036854775807) (aRows_m : aRows.length ≤ 9223372036854775807) (aB_h : Reads w aB_a aB.length aB) (aRows_h : Reads w aRows_a aRows.length aRows) :
    Calls Try.prog 8 #[.agg #[.int .i64 aB_r, .int .i64 aB_c, .slice aB_a aB.length aB_p], .slice aRows_a aRows.length aRows_p] w fun e w' => e = .returned (.bool true) ∧ Below w.heap.size w w' := by
  by_cases c0 : aRows.length ≤ 1048576
  case neg => exact walk_big0 aB_r aB_c aB_a aB_p aB aRows_a aRows_p aRows w aRows_m  c0
  by_cases c1 : aB.length ≤ 1048576
  case neg => exact walk_big1 aB_r aB_c aB_a aB_p aB aRows_a aRows_p aRows w aRows_m aB_m c0 c1
  have hS : ∀ (w : World) (loaB : Nat) (aB_s : Value) (loaRows : Nat) (aRows_s : Value), Own w loaB aB_s aB → Own w loaRows aRows_s aRows → Calls Try.prog 43 #[.agg #[.int .i64 aB_r, .int .i64 aB_c, aB_s], aRows_s] w (AnsL (colsR aB_r aB_c aB aRows) w) := fun w loaB aB_s loaRows aRows_s OaB OaRows => specCol_any aB_r aB_c aB aRows w (by omega) (by omega) loaB aB_s loaRows aRows_s OaB OaRows
  have hI : ∀ (w : World) (loaB : Nat) (aB_s : Value) (loaRows : Nat) (aRows_s : Value), Own w loaB aB_s aB → Own w loaRows aRows_s aRows → Calls Try.prog 45 #[.agg #[.int .i64 aB_r, .int .i64 aB_c, aB_s], aRows_s] w (AnsL (colsR aB_r aB_c aB aRows) w) := fun w loaB aB_s loaRows aRows_s OaB OaRows => implCol_any aB_r aB_c aB aRows w (by omega) (by omega) loaB aB_s loaRows aRows_s OaB OaRows
  have hy := colsR_len aB_r aB_c aB aRows
  generalize colsR aB_r aB_c aB aRows = R at *
  obtain ⟨ys0, b1⟩ := R
  exact walk aB_r aB_c aB_a aB_p aB aRows_a aRows_p aRows ys0 b1 w c0 c1 aB_h aRows_h hy hS hI

set_option maxRecDepth 100000 in
theorem contract (H : Type) (enc : TypeId × Value → H) (W : World) (base : Nat) (args : Array Value) (ds gs : List (DataW H)) (before : List MemPlace)
    (hval : ∀ (j : Nat) t v, Try.f8.params[j]? = some t → args[j]? = some v → Value.okWide Try.prog W .any base t v)
    (hW : DataW.Whole enc Try.prog Try.f8.params.toList Rows.fnExactColumnsOfSpec.vars false W args.toList ds gs before) :
    Calls Try.prog 8 args W fun e W' => ∃ v, e = .returned v ∧ Rows.fnExactColumnsOfSpec.post enc Try.prog Try.f8 false true false false W args v W' := by
  have hW' := hW
  obtain ⟨p, q, hA0, hV, rfl, hfz, hnd⟩ := hW
  have hA : DataW.TrodAll enc Try.prog W 0 (fun _ => true) true Try.f8.params.toList args.toList ds p := hA0
  rw [Try.params8] at hA hval
  obtain ⟨v0, v1, d0, d1, p0, p1, rfl, rfl, rfl, h0, h1⟩ := trodAll_two hA
  obtain ⟨rfl, rfl⟩ := trodVars_none hV
  clear hA0
  simp only [List.append_nil] at hW'
  have hlt : ∀ x ∈ p0 ++ p1, x.block < W.heap.size := fun x hx => by have := hW'.lt x (by simpa using hx); simpa using this
  have t0 := h0
  obtain ⟨aB_r, aB_c, aB_a, aB_n, aB_p, aB, rfl, aB_m, aB_h⟩ := open_board (hval 0 24 v0 rfl rfl) h0
  obtain rfl := aB_h.1
  have t1 := h1
  obtain ⟨aRows_a, aRows_n, aRows_p, rfl⟩ := okWide_slice Try.underlying22 (hval 1 22 v1 rfl rfl)
  obtain ⟨fu1, hf1⟩ := h1
  obtain ⟨aRows_m, aRows, aRows_h⟩ := reads_of (by simpa [Value.cells] using hf1)
  obtain rfl := aRows_h.1
  refine (walk_all aB_r aB_c aB_a aB_p aB aRows_a aRows_p aRows W aB_m aRows_m aB_h aRows_h).mono ?_
  rintro e W' ⟨rfl, hb⟩
  exact ⟨_, rfl, _, _, _, [], _, [], hW', trodAll_mk1 (shut_bool Try.underlying4 _), trodAll_mk2 (Below.trod Try.laidOut (by kernel_rfl) (of_decide_eq_true (by kernel_rfl)) t0 hb (fun x hx => hlt x (by simp [hx]))) (Below.trod Try.laidOut (by kernel_rfl) (of_decide_eq_true (by kernel_rfl)) t1 hb (fun x hx => hlt x (by simp [hx]))), rfl, hb.frame _, fun h => by cases h⟩

set_option maxRecDepth 100000 in
theorem lifted (os : Os) (started : os.Started) (H : Type) (enc : TypeId × Value → H) :
    ReturnsInHanded {} Try.checked os 8 .any (Rows.fnExactColumnsOfSpec.pre6 enc Try.prog Try.f8 Rows.fnExactColumnsOfRow.domain false) (Rows.fnExactColumnsOfSpec.post enc Try.prog Try.f8 false true false false) := by
  refine returnsInHanded_of_change (C := Try.checked) Try.own started (by kernel_rfl) Try.func8
    (ChangeSpec.witness6 (enc := enc) (C := Try.checked) false ⟨#[], #[.agg #[.int .i64 0, .int .i64 0, .slice none 0 0], .slice none 0 0], []⟩ 8 (by kernel_rfl) (by kernel_rfl) (by kernel_rfl) (by kernel_rfl)) ?_
  intro W base args ds gs before hval hW _ _
  exact contract H enc W base args ds gs before hval hW

theorem holds : Rows.FnExactColumnsOfSaid :=
  OpenClaim.holds_of_wide 8 Try.f8 rfl rfl rfl rfl rfl rfl rfl ⟨rfl, rfl, rfl, rfl, rfl⟩ rfl rfl rfl rfl rfl (by kernel_rfl) Try.func8 (by kernel_rfl)
    (of_decide_eq_true (by kernel_rfl)) (by unfold Func.isWrapper; first | (rw [if_pos (by decide +kernel)]; kernel_rfl) | (rw [if_neg (by decide +kernel)]; exact ⟨rfl, rfl⟩))
    (fun os started H enc _ => lifted os started H enc)

#print axioms holds
end Go.Proofs.Ytdimbnkgomfojab.lColumnsOf
