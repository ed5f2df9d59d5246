/- 'FnExactFromCells' answers true for every input, and leaves it as it was. No condition. -/
import Derived.Test.YtncbdmeagfadfaaT2
import Derived.Test.YtncbdmeagfadfaaOpen
import Derived.Test.YtncbdmeagfadfaaM6
import Derived.Deep.RegionWith
import Derived.Deep.RegionHeld3
import Derived.Deep.DeepCutAuto
namespace Go.Proofs.Ytncbdmeagfadfaa.lFromCells
open Go.ChangeShapes Go.WideShapes Go.ChangeAt Go.RowKit Go.Joins

set_option maxRecDepth 100000 in
set_option maxHeartbeats 4000000 in
theorem walk (aRows : Int) (aColumns : Int) (aCells_a : Option Addr) (aCells_p : Nat) (aCells : List (List Int)) (rr0 cc0 : Int) (ys0 : List Int) (b1 : Bool) (w : World) (hfit : aCells.length + total aCells ≤ 1048576) (aCells_h : ReadsM w aCells_a aCells.length aCells) (aCells_r : ∀ r ∈ aCells, r.length ≤ 9223372036854775807) (ys0_len : ys0.length ≤ 1048576)
    (hS : ∀ (w : World) (loaCells : Nat) (aCells_s : Value) (aCells_v : List Value), OwnM w loaCells aCells_s aCells_v aCells → Calls Try.prog 34 #[.int .i64 aRows, .int .i64 aColumns, aCells_s] w fun e w' => ∃ s0, e = .returned (.tuple #[.agg #[.int .i64 rr0, .int .i64 cc0, s0], .bool b1]) ∧ Own w' w.heap.size s0 ys0 ∧ Below w.heap.size w w')
    (hI : ∀ (w : World) (loaCells : Nat) (aCells_s : Value) (aCells_v : List Value), OwnM w loaCells aCells_s aCells_v aCells → Calls Try.prog 36 #[.int .i64 aRows, .int .i64 aColumns, aCells_s] w fun e w' => ∃ s0, e = .returned (.tuple #[.agg #[.int .i64 rr0, .int .i64 cc0, s0], .bool b1]) ∧ Own w' w.heap.size s0 ys0 ∧ Below w.heap.size w w') :
    Calls Try.prog 8 #[.int .i64 aRows, .int .i64 aColumns, .slice aCells_a aCells.length aCells_p] w fun e w' => e = .returned (.bool true) ∧ Below w.heap.size w w' := by
  have HS := Lib.hid hS; clear hS
  have HI := Lib.hid hI; clear hI
  have L0 := Law.start w
  have aCells_z := Lib.hid (show szM (1048576) aCells = 1048576 - aCells.length - total aCells by unfold szM; rw [if_neg (by omega)])
  have aCells_l : aCells.length ≤ 1048576 := by omega
  have aCells_tot : total aCells ≤ 1048576 := by omega
  have aCells_row : ∀ r ∈ aCells, r.length ≤ 1048576 := fun r hr => Nat.le_trans (total_le _ r hr) aCells_tot
  go_enter Try.func8, Try.ntmps8
  go_wp2_with fail
  refine (szIntSS_any aCells_a aCells_p aCells (1048576) _ (by omega) aCells_r (by omega) (by omega) (L0.readsM aCells_h)).mono ?_
  rintro e w1 ⟨rfl, hb2⟩
  rw [aCells_z.out]
  have L3 := L0.kept hb2
  clear L0 hb2
  go_wp2_with fail
  refine (toIntSS_any aCells_a aCells_p aCells _ aCells_l aCells_row (L3.readsM aCells_h)).mono ?_
  rintro e w4 ⟨s5, v10, rfl, O7, hb6⟩
  obtain ⟨a8, p9, rfl, _⟩ := O7.form
  have L12 := L3.addM hb6 O7
  clear L3 hb6 O7
  go_wp2_with fail
  refine (HS.out _ _ _ _ L12.ownM).mono ?_
  rintro e w13 ⟨s15, rfl, O16, hb14⟩
  obtain ⟨a18, p19, rfl, _⟩ := O16.reads
  have L21 := L12.own hb14 O16
  clear L12 hb14 O16
  have L22 := L21.box (.int .i64 rr0) (.int .i64 cc0) (.slice a18 ys0.length p19) 27
  clear L21 
  go_wp2_with fail
  refine (toIntSS_any aCells_a aCells_p aCells _ aCells_l aCells_row (L22.readsM aCells_h)).mono ?_
  rintro e w23 ⟨s24, v29, rfl, O26, hb25⟩
  obtain ⟨a27, p28, rfl, _⟩ := O26.form
  have L31 := L22.addM hb25 O26
  clear L22 hb25 O26
  go_wp2_with fail
  refine (HI.out _ _ _ _ L31.ownM).mono ?_
  rintro e w32 ⟨s34, rfl, O35, hb33⟩
  obtain ⟨a37, p38, rfl, _⟩ := O35.reads
  have L40 := L31.own hb33 O35
  clear L31 hb33 O35
  have ⟨_, k41, k42, k43, _⟩ := L40.tl.tl.ownBox
  have L44 := L40.box (.int .i64 rr0) (.int .i64 cc0) (.slice a37 ys0.length p38) 27
  clear L40 
  go_wp2_with fail
  refine (eqBoard_same _ _ ys0 _ _ _ _ _ ys0_len L44.tl.ownInts L44.tl.tl.tl.tl.ownInts).mono ?_
  rintro e w45 ⟨rfl, hb46⟩
  have L47 := L44.kept hb46
  clear L44 hb46 k41 k42 k43
  go_wp2_with fail
  refine (toIntSS_any aCells_a aCells_p aCells _ aCells_l aCells_row (L47.readsM aCells_h)).mono ?_
  rintro e w48 ⟨s49, v54, rfl, O51, hb50⟩
  obtain ⟨a52, p53, rfl, _⟩ := O51.form
  have L56 := L47.addM hb50 O51
  clear L47 hb50 O51
  go_wp2_with fail
  refine (eqIntSS_same aCells _ _ _ _ _ _ _ aCells_l aCells_row L56.tl.tl.tl.ownM L56.ownM).mono ?_
  rintro e w57 ⟨rfl, hb58⟩
  have L59 := L56.kept hb58
  clear L56 hb58
  go_wp2_with fail
  refine (markIntSS_any aCells _ _ _ (1) _ aCells_l aCells_tot (by omega) (by omega) L59.tl.tl.tl.ownM).mono ?_
  rintro e w60 ⟨rfl, O61, hg62⟩
  have L63 := Law.markM (ts := [_, _, _]) L59 hg62 O61
  simp only [List.cons_append, List.nil_append] at L63
  clear L59 hg62 O61 
  have ⟨_, k64, k65, k66, _⟩ := L63.tl.ownBox
  have ⟨_, k67, k68, k69, _⟩ := L63.tl.tl.tl.tl.ownBox
  go_wp2_with fail
  refine (eqBoard_same _ _ ys0 _ _ _ _ _ ys0_len L63.tl.tl.ownInts L63.tl.tl.tl.tl.tl.ownInts).mono ?_
  rintro e w70 ⟨rfl, hb71⟩
  have L72 := L63.kept hb71
  clear L63 hb71 k64 k65 k66 k67 k68 k69
  have ⟨_, k73, k74, k75, _⟩ := L72.tl.ownBox
  go_wp2_with fail
  refine (markBoard_any _ _ _ ys0 (1) _ _ ys0_len (by omega) (by omega) L72.tl.tl.ownInts).mono ?_
  rintro e w76 ⟨rfl, O77, hg78⟩
  have L79 := Law.mark (ts := [_, _]) L72 hg78 O77
  simp only [List.cons_append, List.nil_append] at L79
  clear L72 hg78 O77 k73 k74 k75
  have ⟨_, k80, k81, k82, _⟩ := L79.tl.ownBox
  go_wp2_with fail
  refine (heldBoard_any _ _ _ ys0.length (1) _ _ ys0_len (by omega) (by omega) L79.tl.tl.ownInts).mono ?_
  rintro e w83 ⟨rfl, hb84⟩
  have L85 := L79.kept hb84
  clear L79 hb84 k80 k81 k82
  go_wp2_with fail
  refine (toIntSS_any aCells_a aCells_p aCells _ aCells_l aCells_row (L85.readsM aCells_h)).mono ?_
  rintro e w86 ⟨s87, v92, rfl, O89, hb88⟩
  obtain ⟨a90, p91, rfl, _⟩ := O89.form
  have L94 := L85.addM hb88 O89
  clear L85 hb88 O89
  go_wp2_with fail
  refine (HI.out _ _ _ _ L94.ownM).mono ?_
  rintro e w95 ⟨s97, rfl, O98, hb96⟩
  obtain ⟨a100, p101, rfl, _⟩ := O98.reads
  have L103 := L94.own hb96 O98
  clear L94 hb96 O98
  have ⟨_, k104, k105, k106, _⟩ := L103.tl.tl.tl.tl.tl.tl.ownBox
  have L107 := L103.box (.int .i64 rr0) (.int .i64 cc0) (.slice a100 ys0.length p101) 27
  clear L103 
  go_wp2_with fail
  refine (eqBoard_same _ _ ys0 _ _ _ _ _ ys0_len L107.tl.ownInts L107.tl.tl.tl.tl.tl.tl.tl.tl.ownInts).mono ?_
  rintro e w108 ⟨rfl, hb109⟩
  have L110 := L107.kept hb109
  clear L107 hb109 k104 k105 k106
  have ⟨_, k111, k112, k113, _⟩ := L110.tl.tl.tl.tl.ownBox
  go_wp2_with fail
  refine (heldBoard_any _ _ _ ys0.length (1) _ _ ys0_len (by omega) (by omega) L110.tl.tl.tl.tl.tl.ownInts).mono ?_
  rintro e w114 ⟨rfl, hb115⟩
  have L116 := L110.kept hb115
  clear L110 hb115 k111 k112 k113
  go_wp2_with fail
  go_ret
  exact ⟨rfl, L116.below⟩

set_option maxRecDepth 100000 in
set_option maxHeartbeats 800000 in
theorem walk_big0 (aRows : Int) (aColumns : Int) (aCells_a : Option Addr) (aCells_p : Nat) (aCells : List (List Int)) (w : World) (aCells_m : aCells.length ≤ 9223372036854775807) (aCells_h : ReadsM w aCells_a aCells.length aCells) (aCells_r : ∀ r ∈ aCells, r.length ≤ 9223372036854775807) (hbig : ¬ aCells.length + total aCells ≤ 1048576)  :
    Calls Try.prog 8 #[.int .i64 aRows, .int .i64 aColumns, .slice aCells_a aCells.length aCells_p] w fun e w' => e = .returned (.bool true) ∧ Below w.heap.size w w' := by
  have L0 := Law.start w
  have aCells_z := Lib.hid (show szM (1048576) aCells = -1 by unfold szM; rw [if_pos (by omega)])
  go_enter Try.func8, Try.ntmps8
  go_wp2_with fail
  refine (szIntSS_any aCells_a aCells_p aCells (1048576) _ (by omega) aCells_r (by omega) (by omega) (L0.readsM aCells_h)).mono ?_
  rintro e v1 ⟨rfl, hb⟩
  rw [aCells_z.out]
  have L1 := L0.kept hb
  clear L0 hb
  go_wp2_with fail
  go_ret
  exact ⟨rfl, L1.below⟩

theorem walk_all (aRows : Int) (aColumns : Int) (aCells_a : Option Addr) (aCells_p : Nat) (aCells : List (List Int)) (w : World) (aCells_m : aCells.length ≤ 9223372036854775807) (aCells_h : ReadsM w aCells_a aCells.length aCells) (aCells_r : ∀ r ∈ aCells, r.length ≤ 9223372036854775807) :
    Calls Try.prog 8 #[.int .i64 aRows, .int .i64 aColumns, .slice aCells_a aCells.length aCells_p] w fun e w' => e = .returned (.bool true) ∧ Below w.heap.size w w' := by
  by_cases c0 : aCells.length + total aCells ≤ 1048576
  case neg => exact walk_big0 aRows aColumns aCells_a aCells_p aCells w aCells_m aCells_h aCells_r  c0
  have hS : ∀ (w : World) (loaCells : Nat) (aCells_s : Value) (aCells_v : List Value), OwnM w loaCells aCells_s aCells_v aCells → Calls Try.prog 34 #[.int .i64 aRows, .int .i64 aColumns, aCells_s] w (AnsB (fromB aRows aColumns aCells) w) := fun w loaCells aCells_s aCells_v OaCells => specFrom_any aRows aColumns aCells w (by omega) loaCells aCells_s aCells_v OaCells
  have hI : ∀ (w : World) (loaCells : Nat) (aCells_s : Value) (aCells_v : List Value), OwnM w loaCells aCells_s aCells_v aCells → Calls Try.prog 36 #[.int .i64 aRows, .int .i64 aColumns, aCells_s] w (AnsB (fromB aRows aColumns aCells) w) := fun w loaCells aCells_s aCells_v OaCells => implFrom_any aRows aColumns aCells w (by omega) loaCells aCells_s aCells_v OaCells
  have hy := fromB_len aRows aColumns aCells
  generalize fromB aRows aColumns aCells = R at *
  obtain ⟨rr0, cc0, ys0, b1⟩ := R
  exact walk aRows aColumns aCells_a aCells_p aCells rr0 cc0 ys0 b1 w  c0 aCells_h aCells_r hy hS hI

theorem contract (H : Type) (enc : TypeId × Value → H) (W : World) (base : Nat) (args : Array Value) (ds gs : List (DataW H)) (before : List MemPlace)
    (hval : ∀ (j : Nat) t v, Try.f8.params[j]? = some t → args[j]? = some v → Value.okWide Try.prog W .any base t v)
    (hW : DataW.Whole enc Try.prog Try.f8.params.toList Rows.fnExactFromCellsSpec.vars false W args.toList ds gs before) :
    Calls Try.prog 8 args W fun e W' => ∃ v, e = .returned v ∧ Rows.fnExactFromCellsSpec.post enc Try.prog Try.f8 false true false false W args v W' := by
  have hW' := hW
  obtain ⟨p, q, hA0, hV, rfl, hfz, hnd⟩ := hW
  have hA : DataW.TrodAll enc Try.prog W 0 (fun _ => true) true Try.f8.params.toList args.toList ds p := hA0
  rw [Try.params8] at hA hval
  obtain ⟨v0, v1, v2, d0, d1, d2, p0, p1, p2, rfl, rfl, rfl, h0, h1, h2⟩ := trodAll_three hA
  obtain ⟨rfl, rfl⟩ := trodVars_none hV
  clear hA0
  simp only [List.append_nil] at hW'
  have hlt : ∀ x ∈ p0 ++ (p1 ++ p2), x.block < W.heap.size := fun x hx => by have := hW'.lt x (by simpa using hx); simpa using this
  have t0 := h0
  obtain ⟨aRows, rfl, e0, f0, _⟩ := open_int Try.underlying3 (hval 0 3 v0 rfl rfl) h0
  have t1 := h1
  obtain ⟨aColumns, rfl, e1, f1, _⟩ := open_int Try.underlying3 (hval 1 3 v1 rfl rfl) h1
  have t2 := h2
  obtain ⟨aCells_a, aCells_n, aCells_p, rfl⟩ := okWide_slice Try.underlying40 (hval 2 40 v2 rfl rfl)
  obtain ⟨fu2, hf2⟩ := h2
  obtain ⟨aCells_m, aCells, aCells_h, aCells_r⟩ := readsM_of (by simpa [Value.cells] using hf2)
  obtain rfl := aCells_h.1
  refine (walk_all aRows aColumns aCells_a aCells_p aCells W aCells_m aCells_h aCells_r).mono ?_
  rintro e W' ⟨rfl, hb⟩
  exact ⟨_, rfl, _, _, _, [], _, [], hW', trodAll_mk1 (shut_bool Try.underlying4 _), trodAll_mk3 (Below.trod Try.laidOut (by kernel_rfl) (of_decide_eq_true (by kernel_rfl)) t0 hb (fun x hx => hlt x (by simp [hx]))) (Below.trod Try.laidOut (by kernel_rfl) (of_decide_eq_true (by kernel_rfl)) t1 hb (fun x hx => hlt x (by simp [hx]))) (Below.trod Try.laidOut (by kernel_rfl) (of_decide_eq_true (by kernel_rfl)) t2 hb (fun x hx => hlt x (by simp [hx]))), rfl, hb.frame _, fun h => by cases h⟩

set_option maxRecDepth 100000 in
theorem lifted (os : Os) (started : os.Started) (H : Type) (enc : TypeId × Value → H) :
    ReturnsInHanded {} Try.checked os 8 .any (Rows.fnExactFromCellsSpec.pre6 enc Try.prog Try.f8 Rows.fnExactFromCellsRow.domain false) (Rows.fnExactFromCellsSpec.post enc Try.prog Try.f8 false true false false) := by
  refine returnsInHanded_of_change (C := Try.checked) Try.own started (by kernel_rfl) Try.func8
    (ChangeSpec.witness6 (enc := enc) (C := Try.checked) false ⟨#[], #[.int .i64 0, .int .i64 0, .slice none 0 0], []⟩ 8 (by kernel_rfl) (by kernel_rfl) (by kernel_rfl) (by kernel_rfl)) ?_
  intro W base args ds gs before hval hW _ _
  exact contract H enc W base args ds gs before hval hW

theorem holds : Rows.FnExactFromCellsSaid :=
  OpenClaim.holds_of_wide 8 Try.f8 rfl rfl rfl rfl rfl rfl rfl ⟨rfl, rfl, rfl, rfl, rfl⟩ rfl rfl rfl rfl rfl (by kernel_rfl) Try.func8 (by kernel_rfl)
    (of_decide_eq_true (by kernel_rfl)) (by unfold Func.isWrapper; first | (rw [if_pos (by decide +kernel)]; kernel_rfl) | (rw [if_neg (by decide +kernel)]; exact ⟨rfl, rfl⟩))
    (fun os started H enc _ => lifted os started H enc)

#print axioms holds
end Go.Proofs.Ytncbdmeagfadfaa.lFromCells
