import Derived.Test.YtdimbnkgomfojabFold4
import Derived.Test.YtdimbnkgomfojabFold5
import Derived.Test.YtdimbnkgomfojabFold32
import Derived.Deep.RegionWith
import Derived.Deep.RegionHeld3
import Derived.Deep.DeepCutAuto
namespace Go.Proofs.Ytdimbnkgomfojab.lUselessCells
open Go.ChangeShapes Go.WideShapes Go.ChangeAt Go.RowKit Go.Joins

set_option maxRecDepth 100000 in
set_option maxHeartbeats 4000000 in
theorem walk (aB_r aB_c : Int) (aB_a : Option Addr) (aB_p : Nat) (aB : List Int) (zz0 : List (List Int)) (b1 : Bool) (w : World) (hfit : aB.length ≤ 1048576) (aB_h : Reads w aB_a aB.length aB) (zz0_len : zz0.length ≤ 1048576) (zz0_tot : total zz0 ≤ 1048576) (zz0_row : ∀ r ∈ zz0, r.length ≤ 1048576)
    (hS : ∀ (w : World) (loaB : Nat) (aB_s : Value), Own w loaB aB_s aB → Calls Try.prog 56 #[.agg #[.int .i64 aB_r, .int .i64 aB_c, aB_s]] w fun e w' => ∃ s0, ∃ v0, e = .returned (.tuple #[s0, .bool b1]) ∧ OwnM w' w.heap.size s0 v0 zz0 ∧ Below w.heap.size w w')
    (hI : ∀ (w : World) (loaB : Nat) (aB_s : Value), Own w loaB aB_s aB → Calls Try.prog 57 #[.agg #[.int .i64 aB_r, .int .i64 aB_c, aB_s]] w fun e w' => ∃ s0, ∃ v0, e = .returned (.tuple #[s0, .bool b1]) ∧ OwnM w' w.heap.size s0 v0 zz0 ∧ Below w.heap.size w w') :
    Calls Try.prog 14 #[.agg #[.int .i64 aB_r, .int .i64 aB_c, .slice aB_a aB.length aB_p]] w fun e w' => e = .returned (.bool true) ∧ Below w.heap.size w w' := by
  have HS := Lib.hid hS; clear hS
  have HI := Lib.hid hI; clear hI
  have L0 := Law.start w
  have L1 := L0.box (.int .i64 aB_r) (.int .i64 aB_c) (.slice aB_a aB.length aB_p) 24
  clear L0 
  have aB_z := Lib.hid (show szN (1048576) aB.length = 1048576 - aB.length by unfold szN; rw [if_neg (by omega)])
  have aB_l : aB.length ≤ 1048576 := by omega
  go_enter Try.func14, Try.ntmps14
  have ⟨_, k2, k3, k4, _⟩ := L1.ownBox
  go_wp2_with fail
  refine (szBoard_any aB_r aB_c aB_a aB.length aB_p (1048576) _ (by omega) (by omega) (by omega)).mono ?_
  rintro e w5 ⟨rfl, hb6⟩
  rw [aB_z.out]
  have L7 := L1.kept hb6
  clear L1 hb6 k2 k3 k4
  have ⟨_, k8, k9, k10, _⟩ := L7.ownBox
  go_wp2_with fail
  refine (toBoard_any aB_r aB_c aB_a aB.length aB_p aB _ aB_l (L7.reads aB_h)).mono ?_
  rintro e w11 ⟨_, rfl, ⟨s12, rfl, O14⟩, hb13⟩
  obtain ⟨a15, p16, rfl, _⟩ := O14.reads
  have L18 := L7.own hb13 O14
  clear L7 hb13 O14 k8 k9 k10
  go_wp2_with fail
  refine (HS.out _ _ _ L18.ownInts).mono ?_
  rintro e w19 ⟨s21, v24, rfl, O22, hb20⟩
  obtain ⟨a25, p26, rfl, _⟩ := O22.form
  have L28 := L18.addM hb20 O22
  clear L18 hb20 O22
  have ⟨_, k29, k30, k31, _⟩ := L28.tl.tl.ownBox
  go_wp2_with fail
  refine (toBoard_any aB_r aB_c aB_a aB.length aB_p aB _ aB_l (L28.reads aB_h)).mono ?_
  rintro e w32 ⟨_, rfl, ⟨s33, rfl, O35⟩, hb34⟩
  obtain ⟨a36, p37, rfl, _⟩ := O35.reads
  have L39 := L28.own hb34 O35
  clear L28 hb34 O35 k29 k30 k31
  have L40 := L39.box (.int .i64 aB_r) (.int .i64 aB_c) (.slice a36 aB.length p37) 28
  clear L39 
  have ⟨_, k41, k42, k43, _⟩ := L40.ownBox
  go_wp2_with fail
  refine (HI.out _ _ _ L40.tl.ownInts).mono ?_
  rintro e w44 ⟨s46, v49, rfl, O47, hb45⟩
  obtain ⟨a50, p51, rfl, _⟩ := O47.form
  have L53 := L40.addM hb45 O47
  clear L40 hb45 O47
  clear k41 k42 k43
  go_wp2_with fail
  refine (eqIntSS_same zz0 _ _ _ _ _ _ _ zz0_len zz0_row L53.ownM L53.tl.tl.tl.ownM).mono ?_
  rintro e w54 ⟨rfl, hb55⟩
  have L56 := L53.kept hb55
  clear L53 hb55
  have ⟨_, k57, k58, k59, _⟩ := L56.tl.tl.tl.tl.tl.ownBox
  have ⟨_, k60, k61, k62, _⟩ := L56.tl.ownBox
  go_upto_region 10 with (fail)
  go_cut [45] (fun t w' => t = .bool false ∧ Below w54.heap.size w54 w')
  case first =>
    have hd : Below w54.heap.size w54 w54.drew := (Below.refl _ _).drew
    have Ld := L56.kept hd
    go_region_with (first | (go_at_call 17; refine (toBoard_any aB_r aB_c aB_a aB.length aB_p aB _ aB_l (Ld.reads aB_h)).mono ?_; rintro e w63 ⟨_, rfl, ⟨s64, rfl, O65⟩, hb66⟩; obtain ⟨a67, p68, rfl, _⟩ := O65.reads; have ⟨_, q0, q1, q2, _⟩ := (Ld.kept hb66).tl.ownBox) | (go_at_call 20; refine (eqBoard_same _ _ aB _ _ _ _ _ aB_l (Ld.kept hb66).tl.tl.ownInts O65).mono ?_; rintro e w69 ⟨rfl, hb70⟩))
    all_goals (go_wp2_with fail; go_meet; exact ⟨rfl, below_on (below_on hd hb66) hb70⟩)
  obtain ⟨rfl, hb71⟩ := hcut
  have L72 := L56.kept hb71
  clear L56 hb71 k57 k58 k59 k60 k61 k62
  generalize wc = w73 at *
  have ⟨_, k74, k75, k76, _⟩ := L72.tl.ownBox
  go_wp2_with fail
  refine (markBoard_any _ _ _ aB (1) _ _ aB_l (by omega) (by omega) L72.tl.tl.ownInts).mono ?_
  rintro e w77 ⟨rfl, O78, hg79⟩
  have L80 := Law.mark (ts := [_, _]) L72 hg79 O78
  simp only [List.cons_append, List.nil_append] at L80
  clear L72 hg79 O78 k74 k75 k76
  go_wp2_with fail
  refine (eqIntSS_same zz0 _ _ _ _ _ _ _ zz0_len zz0_row L80.ownM L80.tl.tl.tl.ownM).mono ?_
  rintro e w81 ⟨rfl, hb82⟩
  have L83 := L80.kept hb82
  clear L80 hb82
  go_wp2_with fail
  refine (markIntSS_any zz0 _ _ _ (1) _ zz0_len zz0_tot (by omega) (by omega) L83.ownM).mono ?_
  rintro e w84 ⟨rfl, O85, hg86⟩
  have L87 := Law.markM (ts := []) L83 hg86 O85
  simp only [List.nil_append] at L87
  clear L83 hg86 O85 
  go_wp2_with fail
  refine (heldIntSS_any zz0 _ _ _ (1) _ zz0_len zz0_tot (by omega) (by omega) L87.ownM).mono ?_
  rintro e w88 ⟨rfl, hb89⟩
  have L90 := L87.kept hb89
  clear L87 hb89
  have ⟨_, k91, k92, k93, _⟩ := L90.tl.tl.tl.tl.tl.ownBox
  go_wp2_with fail
  refine (toBoard_any aB_r aB_c aB_a aB.length aB_p aB _ aB_l (L90.reads aB_h)).mono ?_
  rintro e w94 ⟨_, rfl, ⟨s95, rfl, O97⟩, hb96⟩
  obtain ⟨a98, p99, rfl, _⟩ := O97.reads
  have L101 := L90.own hb96 O97
  clear L90 hb96 O97 k91 k92 k93
  go_wp2_with fail
  refine (HI.out _ _ _ L101.ownInts).mono ?_
  rintro e w102 ⟨s104, v107, rfl, O105, hb103⟩
  obtain ⟨a108, p109, rfl, _⟩ := O105.form
  have L111 := L101.addM hb103 O105
  clear L101 hb103 O105
  go_wp2_with fail
  refine (eqIntSS_same zz0 _ _ _ _ _ _ _ zz0_len zz0_row L111.ownM L111.tl.tl.tl.tl.tl.ownM).mono ?_
  rintro e w112 ⟨rfl, hb113⟩
  have L114 := L111.kept hb113
  clear L111 hb113
  go_wp2_with fail
  refine (heldIntSS_any zz0 _ _ _ (1) _ zz0_len zz0_tot (by omega) (by omega) L114.tl.tl.ownM).mono ?_
  rintro e w115 ⟨rfl, hb116⟩
  have L117 := L114.kept hb116
  clear L114 hb116
  go_wp2_with fail
  go_ret
  exact ⟨rfl, L117.below⟩

set_option maxRecDepth 100000 in
set_option maxHeartbeats 800000 in
theorem walk_big0 (aB_r aB_c : Int) (aB_a : Option Addr) (aB_p : Nat) (aB : List Int) (w : World) (aB_m : aB.length ≤ 9223372036854775807) (hbig : ¬ aB.length ≤ 1048576)  :
    Calls Try.prog 14 #[.agg #[.int .i64 aB_r, .int .i64 aB_c, .slice aB_a aB.length aB_p]] w fun e w' => e = .returned (.bool true) ∧ Below w.heap.size w w' := by
  have L0 := Law.start w
  have L1 := L0.box (.int .i64 aB_r) (.int .i64 aB_c) (.slice aB_a aB.length aB_p) 24
  have aB_z := Lib.hid (show szN (1048576) aB.length = -1 by unfold szN; rw [if_pos (by omega)])
  go_enter Try.func14, Try.ntmps14
  have ⟨_, k0, k1, k2, _⟩ := L1.ownBox
  go_wp2_with fail
  refine (szBoard_any aB_r aB_c aB_a aB.length aB_p (1048576) _ (by omega) (by omega) (by omega)).mono ?_
  rintro e v2 ⟨rfl, hb⟩
  rw [aB_z.out]
  have L2 := L1.kept hb
  clear L1 hb k0 k1 k2
  go_wp2_with fail
  go_ret
  exact ⟨rfl, L2.below⟩

theorem walk_all (aB_r aB_c : Int) (aB_a : Option Addr) (aB_p : Nat) (aB : List Int) (w : World) (aB_m : aB.length ≤ 9223372036854775807) (aB_h : Reads w aB_a aB.length aB) :
    Calls Try.prog 14 #[.agg #[.int .i64 aB_r, .int .i64 aB_c, .slice aB_a aB.length aB_p]] w fun e w' => e = .returned (.bool true) ∧ Below w.heap.size w w' := by
  by_cases c0 : aB.length ≤ 1048576
  case neg => exact walk_big0 aB_r aB_c aB_a aB_p aB w aB_m  c0
  have hS : ∀ (w : World) (loaB : Nat) (aB_s : Value), Own w loaB aB_s aB → Calls Try.prog 56 #[.agg #[.int .i64 aB_r, .int .i64 aB_c, aB_s]] w (AnsM (uselR aB_r aB_c aB) w) := fun w loaB aB_s OaB => specUsel_any aB_r aB_c aB w (by omega) loaB aB_s OaB
  have hI : ∀ (w : World) (loaB : Nat) (aB_s : Value), Own w loaB aB_s aB → Calls Try.prog 57 #[.agg #[.int .i64 aB_r, .int .i64 aB_c, aB_s]] w (AnsM (uselR aB_r aB_c aB) w) := fun w loaB aB_s OaB => implUsel_any aB_r aB_c aB w (by omega) loaB aB_s OaB
  have hy := uselR_len aB_r aB_c aB
  generalize uselR aB_r aB_c aB = R at *
  obtain ⟨zz0, b1⟩ := R
  exact walk aB_r aB_c aB_a aB_p aB zz0 b1 w  c0 aB_h hy.1 hy.2 (fun r hr => Nat.le_trans (total_le _ r hr) hy.2) hS hI

set_option maxRecDepth 100000 in
theorem contract (H : Type) (enc : TypeId × Value → H) (W : World) (base : Nat) (args : Array Value) (ds gs : List (DataW H)) (before : List MemPlace)
    (hval : ∀ (j : Nat) t v, Try.f14.params[j]? = some t → args[j]? = some v → Value.okWide Try.prog W .any base t v)
    (hW : DataW.Whole enc Try.prog Try.f14.params.toList Rows.fnExactUselessCellsSpec.vars false W args.toList ds gs before) :
    Calls Try.prog 14 args W fun e W' => ∃ v, e = .returned v ∧ Rows.fnExactUselessCellsSpec.post enc Try.prog Try.f14 false true false false W args v W' := by
  have hW' := hW
  obtain ⟨p, q, hA0, hV, rfl, hfz, hnd⟩ := hW
  have hA : DataW.TrodAll enc Try.prog W 0 (fun _ => true) true Try.f14.params.toList args.toList ds p := hA0
  rw [Try.params14] at hA hval
  obtain ⟨v0, d0, rfl, rfl, h0⟩ := trodAll_one hA
  obtain ⟨rfl, rfl⟩ := trodVars_none hV
  clear hA0
  simp only [List.append_nil] at hW'
  have hlt : ∀ x ∈ p, x.block < W.heap.size := fun x hx => by have := hW'.lt x (by simpa using hx); simpa using this
  have t0 := h0
  obtain ⟨aB_r, aB_c, aB_a, aB_n, aB_p, aB, rfl, aB_m, aB_h⟩ := open_board (hval 0 24 v0 rfl rfl) h0
  obtain rfl := aB_h.1
  refine (walk_all aB_r aB_c aB_a aB_p aB W aB_m aB_h).mono ?_
  rintro e W' ⟨rfl, hb⟩
  exact ⟨_, rfl, _, _, _, [], _, [], hW', trodAll_mk1 (shut_bool Try.underlying4 _), trodAll_mk1 (Below.trod Try.laidOut (by kernel_rfl) (of_decide_eq_true (by kernel_rfl)) t0 hb hlt), rfl, hb.frame _, fun h => by cases h⟩

set_option maxRecDepth 100000 in
theorem lifted (os : Os) (started : os.Started) (H : Type) (enc : TypeId × Value → H) :
    ReturnsInHanded {} Try.checked os 14 .any (Rows.fnExactUselessCellsSpec.pre6 enc Try.prog Try.f14 Rows.fnExactUselessCellsRow.domain false) (Rows.fnExactUselessCellsSpec.post enc Try.prog Try.f14 false true false false) := by
  refine returnsInHanded_of_change (C := Try.checked) Try.own started (by kernel_rfl) Try.func14
    (ChangeSpec.witness6 (enc := enc) (C := Try.checked) false ⟨#[], #[.agg #[.int .i64 0, .int .i64 0, .slice none 0 0]], []⟩ 8 (by kernel_rfl) (by kernel_rfl) (by kernel_rfl) (by kernel_rfl)) ?_
  intro W base args ds gs before hval hW _ _
  exact contract H enc W base args ds gs before hval hW

theorem holds : Rows.FnExactUselessCellsSaid :=
  OpenClaim.holds_of_wide 14 Try.f14 rfl rfl rfl rfl rfl rfl rfl ⟨rfl, rfl, rfl, rfl, rfl⟩ rfl rfl rfl rfl rfl (by kernel_rfl) Try.func14 (by kernel_rfl)
    (of_decide_eq_true (by kernel_rfl)) (by unfold Func.isWrapper; first | (rw [if_pos (by decide +kernel)]; kernel_rfl) | (rw [if_neg (by decide +kernel)]; exact ⟨rfl, rfl⟩))
    (fun os started H enc _ => lifted os started H enc)

#print axioms holds
end Go.Proofs.Ytdimbnkgomfojab.lUselessCells
