/- 'FnExactAreQuietBishops' answers true for every input, and leaves it as it was. No condition. -/
import Derived.Test.YtakdiiccdkjjcaaT2
import Derived.Test.YtakdiiccdkjjcaaOpen
import Derived.Test.YtakdiiccdkjjcaaEI
import Derived.Deep.RegionWith
import Derived.Deep.RegionHeld3
import Derived.Deep.DeepCutAuto
namespace Go.Proofs.Ytakdiiccdkjjcaa.lAreQuietBishops
open Go.ChangeShapes Go.WideShapes Go.ChangeAt Go.RowKit Go.Joins

set_option maxRecDepth 100000 in
set_option maxHeartbeats 4000000 in
theorem walk (aB_r aB_c : Int) (aB_a : Option Addr) (aB_p : Nat) (aB : List Int) (aCells_a : Option Addr) (aCells_p : Nat) (aCells : List (List Int)) (b0 : Bool) (b1 : Bool) (w : World) (hfit : aB.length + aCells.length + total aCells ≤ 1048576) (aB_h : Reads w aB_a aB.length aB) (aCells_h : ReadsM w aCells_a aCells.length aCells) (aCells_r : ∀ r ∈ aCells, r.length ≤ 9223372036854775807) 
    (hS : ∀ (w : World) (loaB : Nat) (aB_s : Value) (loaCells : Nat) (aCells_s : Value) (aCells_v : List Value), Own w loaB aB_s aB → OwnM w loaCells aCells_s aCells_v aCells → Calls Try.prog 40 #[.agg #[.int .i64 aB_r, .int .i64 aB_c, aB_s], aCells_s] w fun e w' => e = .returned (.tuple #[.bool b0, .bool b1]) ∧ Below w.heap.size w w')
    (hI : ∀ (w : World) (loaB : Nat) (aB_s : Value) (loaCells : Nat) (aCells_s : Value) (aCells_v : List Value), Own w loaB aB_s aB → OwnM w loaCells aCells_s aCells_v aCells → Calls Try.prog 42 #[.agg #[.int .i64 aB_r, .int .i64 aB_c, aB_s], aCells_s] w fun e w' => e = .returned (.tuple #[.bool b0, .bool b1]) ∧ Below w.heap.size w w') :
    Calls Try.prog 9 #[.agg #[.int .i64 aB_r, .int .i64 aB_c, .slice aB_a aB.length aB_p], .slice aCells_a aCells.length aCells_p] w fun e w' => e = .returned (.bool true) ∧ Below w.heap.size w w' := by
  have HS := Lib.hid hS; clear hS
  have HI := Lib.hid hI; clear hI
  have L0 := Law.start w
  have L1 := L0.box (.int .i64 aB_r) (.int .i64 aB_c) (.slice aB_a aB.length aB_p) 24
  clear L0 
  have aB_z := Lib.hid (show szN (1048576) aB.length = 1048576 - aB.length by unfold szN; rw [if_neg (by omega)])
  have aCells_z := Lib.hid (show szM (1048576 - aB.length) aCells = 1048576 - aB.length - aCells.length - total aCells by unfold szM; rw [if_neg (by omega)])
  have aB_l : aB.length ≤ 1048576 := by omega
  have aCells_l : aCells.length ≤ 1048576 := by omega
  have aCells_tot : total aCells ≤ 1048576 := by omega
  have aCells_row : ∀ r ∈ aCells, r.length ≤ 1048576 := fun r hr => Nat.le_trans (total_le _ r hr) aCells_tot
  go_enter Try.func9, Try.ntmps9
  have ⟨_, k2, k3, k4, _⟩ := L1.ownBox
  go_wp2_with fail
  refine (szBoard_any aB_r aB_c aB_a aB.length aB_p (1048576) _ (by omega) (by omega) (by omega)).mono ?_
  rintro e w5 ⟨rfl, hb6⟩
  rw [aB_z.out]
  have L7 := L1.kept hb6
  clear L1 hb6 k2 k3 k4
  go_wp2_with fail
  refine (szIntSS_any aCells_a aCells_p aCells (1048576 - aB.length) _ (by omega) aCells_r (by omega) (by omega) (L7.readsM aCells_h)).mono ?_
  rintro e w8 ⟨rfl, hb9⟩
  rw [aCells_z.out]
  have L10 := L7.kept hb9
  clear L7 hb9
  have ⟨_, k11, k12, k13, _⟩ := L10.ownBox
  go_wp2_with fail
  refine (toBoard_any aB_r aB_c aB_a aB.length aB_p aB _ aB_l (L10.reads aB_h)).mono ?_
  rintro e w14 ⟨_, rfl, ⟨s15, rfl, O17⟩, hb16⟩
  obtain ⟨a18, p19, rfl, _⟩ := O17.reads
  have L21 := L10.own hb16 O17
  clear L10 hb16 O17 k11 k12 k13
  go_wp2_with fail
  refine (toIntSS_any aCells_a aCells_p aCells _ aCells_l aCells_row (L21.readsM aCells_h)).mono ?_
  rintro e w22 ⟨s23, v28, rfl, O25, hb24⟩
  obtain ⟨a26, p27, rfl, _⟩ := O25.form
  have L30 := L21.addM hb24 O25
  clear L21 hb24 O25
  go_wp2_with fail
  refine (HS.out _ _ _ _ _ _ L30.tl.ownInts L30.ownM).mono ?_
  rintro e w31 ⟨rfl, hb32⟩
  have L34 := L30.kept hb32
  clear L30 hb32
  have ⟨_, k35, k36, k37, _⟩ := L34.tl.tl.ownBox
  go_wp2_with fail
  refine (toBoard_any aB_r aB_c aB_a aB.length aB_p aB _ aB_l (L34.reads aB_h)).mono ?_
  rintro e w38 ⟨_, rfl, ⟨s39, rfl, O41⟩, hb40⟩
  obtain ⟨a42, p43, rfl, _⟩ := O41.reads
  have L45 := L34.own hb40 O41
  clear L34 hb40 O41 k35 k36 k37
  have L46 := L45.box (.int .i64 aB_r) (.int .i64 aB_c) (.slice a42 aB.length p43) 28
  clear L45 
  go_wp2_with fail
  refine (toIntSS_any aCells_a aCells_p aCells _ aCells_l aCells_row (L46.readsM aCells_h)).mono ?_
  rintro e w47 ⟨s48, v53, rfl, O50, hb49⟩
  obtain ⟨a51, p52, rfl, _⟩ := O50.form
  have L55 := L46.addM hb49 O50
  clear L46 hb49 O50
  have ⟨_, k56, k57, k58, _⟩ := L55.tl.ownBox
  go_wp2_with fail
  refine (HI.out _ _ _ _ _ _ L55.tl.tl.ownInts L55.ownM).mono ?_
  rintro e w59 ⟨rfl, hb60⟩
  have L62 := L55.kept hb60
  clear L55 hb60
  clear k56 k57 k58
  have ⟨_, k63, k64, k65, _⟩ := L62.tl.tl.tl.tl.tl.ownBox
  have ⟨_, k66, k67, k68, _⟩ := L62.tl.ownBox
  go_upto_region 14 with (fail)
  go_cut [52] (fun t w' => t = .bool false ∧ Below w59.heap.size w59 w')
  case first =>
    have hd : Below w59.heap.size w59 w59.drew := (Below.refl _ _).drew
    have Ld := L62.kept hd
    go_region_with (first | (go_at_call 17; refine (toBoard_any aB_r aB_c aB_a aB.length aB_p aB _ aB_l (Ld.reads aB_h)).mono ?_; rintro e w69 ⟨_, rfl, ⟨s70, rfl, O71⟩, hb72⟩; obtain ⟨a73, p74, rfl, _⟩ := O71.reads; have ⟨_, q0, q1, q2, _⟩ := (Ld.kept hb72).tl.ownBox) | (go_at_call 19; refine (eqBoard_same _ _ aB _ _ _ _ _ aB_l (Ld.kept hb72).tl.tl.ownInts O71).mono ?_; rintro e w75 ⟨rfl, hb76⟩))
    all_goals (go_wp2_with fail; go_meet; exact ⟨rfl, below_on (below_on hd hb72) hb76⟩)
  obtain ⟨rfl, hb77⟩ := hcut
  have L78 := L62.kept hb77
  clear L62 hb77 k63 k64 k65 k66 k67 k68
  generalize wc = w79 at *
  go_wp2_with fail
  refine (toIntSS_any aCells_a aCells_p aCells _ aCells_l aCells_row (L78.readsM aCells_h)).mono ?_
  rintro e w80 ⟨s81, v86, rfl, O83, hb82⟩
  obtain ⟨a84, p85, rfl, _⟩ := O83.form
  have L88 := L78.addM hb82 O83
  clear L78 hb82 O83
  go_wp2_with fail
  refine (eqIntSS_same aCells _ _ _ _ _ _ _ aCells_l aCells_row L88.tl.ownM L88.ownM).mono ?_
  rintro e w89 ⟨rfl, hb90⟩
  have L91 := L88.kept hb90
  clear L88 hb90
  go_wp2_with fail
  go_ret
  exact ⟨rfl, L91.below⟩

set_option maxRecDepth 100000 in
set_option maxHeartbeats 800000 in
theorem walk_big0 (aB_r aB_c : Int) (aB_a : Option Addr) (aB_p : Nat) (aB : List Int) (aCells_a : Option Addr) (aCells_p : Nat) (aCells : List (List Int)) (w : World) (aB_m : aB.length ≤ 9223372036854775807) (hbig : ¬ aB.length ≤ 1048576)  :
    Calls Try.prog 9 #[.agg #[.int .i64 aB_r, .int .i64 aB_c, .slice aB_a aB.length aB_p], .slice aCells_a aCells.length aCells_p] w fun e w' => e = .returned (.bool true) ∧ Below w.heap.size w w' := by
  have L0 := Law.start w
  have L1 := L0.box (.int .i64 aB_r) (.int .i64 aB_c) (.slice aB_a aB.length aB_p) 24
  have aB_z := Lib.hid (show szN (1048576) aB.length = -1 by unfold szN; rw [if_pos (by omega)])
  go_enter Try.func9, Try.ntmps9
  have ⟨_, k0, k1, k2, _⟩ := L1.ownBox
  go_wp2_with fail
  refine (szBoard_any aB_r aB_c aB_a aB.length aB_p (1048576) _ (by omega) (by omega) (by omega)).mono ?_
  rintro e v2 ⟨rfl, hb⟩
  rw [aB_z.out]
  have L2 := L1.kept hb
  clear L1 hb k0 k1 k2
  go_wp2_with fail
  go_ret
  exact ⟨rfl, L2.below⟩

set_option maxRecDepth 100000 in
set_option maxHeartbeats 800000 in
theorem walk_big1 (aB_r aB_c : Int) (aB_a : Option Addr) (aB_p : Nat) (aB : List Int) (aCells_a : Option Addr) (aCells_p : Nat) (aCells : List (List Int)) (w : World) (aB_m : aB.length ≤ 9223372036854775807) (aCells_m : aCells.length ≤ 9223372036854775807) (aCells_h : ReadsM w aCells_a aCells.length aCells) (aCells_r : ∀ r ∈ aCells, r.length ≤ 9223372036854775807) (hp : aB.length ≤ 1048576) (hbig : ¬ aB.length + aCells.length + total aCells ≤ 1048576)  :
    Calls Try.prog 9 #[.agg #[.int .i64 aB_r, .int .i64 aB_c, .slice aB_a aB.length aB_p], .slice aCells_a aCells.length aCells_p] w fun e w' => e = .returned (.bool true) ∧ Below w.heap.size w w' := by
  have L0 := Law.start w
  have L1 := L0.box (.int .i64 aB_r) (.int .i64 aB_c) (.slice aB_a aB.length aB_p) 24
  have aB_z := Lib.hid (show szN (1048576) aB.length = 1048576 - aB.length by unfold szN; rw [if_neg (by omega)])
  have aCells_z := Lib.hid (show szM (1048576 - aB.length) aCells = -1 by unfold szM; rw [if_pos (by omega)])
  go_enter Try.func9, Try.ntmps9
  have ⟨_, k0, k1, k2, _⟩ := L1.ownBox
  go_wp2_with fail
  refine (szBoard_any aB_r aB_c aB_a aB.length aB_p (1048576) _ (by omega) (by omega) (by omega)).mono ?_
  rintro e v2 ⟨rfl, hb⟩
  rw [aB_z.out]
  have L2 := L1.kept hb
  clear L1 hb k0 k1 k2
  go_wp2_with fail
  refine (szIntSS_any aCells_a aCells_p aCells (1048576 - aB.length) _ (by omega) aCells_r (by omega) (by omega) (L2.readsM aCells_h)).mono ?_
  rintro e v3 ⟨rfl, hb⟩
  rw [aCells_z.out]
  have L3 := L2.kept hb
  clear L2 hb
  go_wp2_with fail
  go_ret
  exact ⟨rfl, L3.below⟩

theorem walk_all (aB_r aB_c : Int) (aB_a : Option Addr) (aB_p : Nat) (aB : List Int) (aCells_a : Option Addr) (aCells_p : Nat) (aCells : List (List Int)) (w : World) (aB_m : aB.length ≤ 9223372036854775807) (aCells_m : aCells.length ≤ 9223372036854775807) (aB_h : Reads w aB_a aB.length aB) (aCells_h : ReadsM w aCells_a aCells.length aCells) (aCells_r : ∀ r ∈ aCells, r.length ≤ 9223372036854775807) :
    Calls Try.prog 9 #[.agg #[.int .i64 aB_r, .int .i64 aB_c, .slice aB_a aB.length aB_p], .slice aCells_a aCells.length aCells_p] w fun e w' => e = .returned (.bool true) ∧ Below w.heap.size w w' := by
  by_cases c0 : aB.length ≤ 1048576
  case neg => exact walk_big0 aB_r aB_c aB_a aB_p aB aCells_a aCells_p aCells w aB_m  c0
  by_cases c1 : aB.length + aCells.length + total aCells ≤ 1048576
  case neg => exact walk_big1 aB_r aB_c aB_a aB_p aB aCells_a aCells_p aCells w aB_m aCells_m aCells_h aCells_r  c0 c1
  have hS : ∀ (w : World) (loaB : Nat) (aB_s : Value) (loaCells : Nat) (aCells_s : Value) (aCells_v : List Value), Own w loaB aB_s aB → OwnM w loaCells aCells_s aCells_v aCells → Calls Try.prog 40 #[.agg #[.int .i64 aB_r, .int .i64 aB_c, aB_s], aCells_s] w (AnsOO ((quietR bD) aB_r aB_c aB aCells) w) := fun w loaB aB_s loaCells aCells_s aCells_v OaB OaCells => specAreQuietBishops_any aB_r aB_c aB aCells w (by omega) (by omega) loaB aB_s loaCells aCells_s aCells_v OaB OaCells
  have hI : ∀ (w : World) (loaB : Nat) (aB_s : Value) (loaCells : Nat) (aCells_s : Value) (aCells_v : List Value), Own w loaB aB_s aB → OwnM w loaCells aCells_s aCells_v aCells → Calls Try.prog 42 #[.agg #[.int .i64 aB_r, .int .i64 aB_c, aB_s], aCells_s] w (AnsOO ((quietR bD) aB_r aB_c aB aCells) w) := fun w loaB aB_s loaCells aCells_s aCells_v OaB OaCells => implAreQuietBishops_any aB_r aB_c aB aCells w (by omega) (by omega) loaB aB_s loaCells aCells_s aCells_v OaB OaCells
  generalize (quietR bD) aB_r aB_c aB aCells = R at *
  obtain ⟨b0, b1⟩ := R
  exact walk aB_r aB_c aB_a aB_p aB aCells_a aCells_p aCells b0 b1 w  c1 aB_h aCells_h aCells_r  hS hI

set_option maxRecDepth 100000 in
theorem contract (H : Type) (enc : TypeId × Value → H) (W : World) (base : Nat) (args : Array Value) (ds gs : List (DataW H)) (before : List MemPlace)
    (hval : ∀ (j : Nat) t v, Try.f9.params[j]? = some t → args[j]? = some v → Value.okWide Try.prog W .any base t v)
    (hW : DataW.Whole enc Try.prog Try.f9.params.toList Rows.fnExactAreQuietBishopsSpec.vars false W args.toList ds gs before) :
    Calls Try.prog 9 args W fun e W' => ∃ v, e = .returned v ∧ Rows.fnExactAreQuietBishopsSpec.post enc Try.prog Try.f9 false true false false W args v W' := by
  have hW' := hW
  obtain ⟨p, q, hA0, hV, rfl, hfz, hnd⟩ := hW
  have hA : DataW.TrodAll enc Try.prog W 0 (fun _ => true) true Try.f9.params.toList args.toList ds p := hA0
  rw [Try.params9] at hA hval
  obtain ⟨v0, v1, d0, d1, p0, p1, rfl, rfl, rfl, h0, h1⟩ := trodAll_two hA
  obtain ⟨rfl, rfl⟩ := trodVars_none hV
  clear hA0
  simp only [List.append_nil] at hW'
  have hlt : ∀ x ∈ p0 ++ p1, x.block < W.heap.size := fun x hx => by have := hW'.lt x (by simpa using hx); simpa using this
  have t0 := h0
  obtain ⟨aB_r, aB_c, aB_a, aB_n, aB_p, aB, rfl, aB_m, aB_h⟩ := open_board (hval 0 24 v0 rfl rfl) h0
  obtain rfl := aB_h.1
  have t1 := h1
  obtain ⟨aCells_a, aCells_n, aCells_p, rfl⟩ := okWide_slice Try.underlying45 (hval 1 45 v1 rfl rfl)
  obtain ⟨fu1, hf1⟩ := h1
  obtain ⟨aCells_m, aCells, aCells_h, aCells_r⟩ := readsM_of (by simpa [Value.cells] using hf1)
  obtain rfl := aCells_h.1
  refine (walk_all aB_r aB_c aB_a aB_p aB aCells_a aCells_p aCells W aB_m aCells_m aB_h aCells_h aCells_r).mono ?_
  rintro e W' ⟨rfl, hb⟩
  exact ⟨_, rfl, _, _, _, [], _, [], hW', trodAll_mk1 (shut_bool Try.underlying4 _), trodAll_mk2 (Below.trod Try.laidOut (by kernel_rfl) (of_decide_eq_true (by kernel_rfl)) t0 hb (fun x hx => hlt x (by simp [hx]))) (Below.trod Try.laidOut (by kernel_rfl) (of_decide_eq_true (by kernel_rfl)) t1 hb (fun x hx => hlt x (by simp [hx]))), rfl, hb.frame _, fun h => by cases h⟩

set_option maxRecDepth 100000 in
theorem lifted (os : Os) (started : os.Started) (H : Type) (enc : TypeId × Value → H) :
    ReturnsInHanded {} Try.checked os 9 .any (Rows.fnExactAreQuietBishopsSpec.pre6 enc Try.prog Try.f9 Rows.fnExactAreQuietBishopsRow.domain false) (Rows.fnExactAreQuietBishopsSpec.post enc Try.prog Try.f9 false true false false) := by
  refine returnsInHanded_of_change (C := Try.checked) Try.own started (by kernel_rfl) Try.func9
    (ChangeSpec.witness6 (enc := enc) (C := Try.checked) false ⟨#[], #[.agg #[.int .i64 0, .int .i64 0, .slice none 0 0], .slice none 0 0], []⟩ 8 (by kernel_rfl) (by kernel_rfl) (by kernel_rfl) (by kernel_rfl)) ?_
  intro W base args ds gs before hval hW _ _
  exact contract H enc W base args ds gs before hval hW

theorem holds : Rows.FnExactAreQuietBishopsSaid :=
  OpenClaim.holds_of_wide 9 Try.f9 rfl rfl rfl rfl rfl rfl rfl ⟨rfl, rfl, rfl, rfl, rfl⟩ rfl rfl rfl rfl rfl (by kernel_rfl) Try.func9 (by kernel_rfl)
    (of_decide_eq_true (by kernel_rfl)) (by unfold Func.isWrapper; first | (rw [if_pos (by decide +kernel)]; kernel_rfl) | (rw [if_neg (by decide +kernel)]; exact ⟨rfl, rfl⟩))
    (fun os started H enc _ => lifted os started H enc)

#print axioms holds
end Go.Proofs.Ytakdiiccdkjjcaa.lAreQuietBishops
