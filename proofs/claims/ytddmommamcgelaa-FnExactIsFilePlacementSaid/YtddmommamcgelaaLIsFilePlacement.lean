/- 'FnExactIsFilePlacement' answers true for every input, and leaves it as it was. No condition. -/
import Derived.Test.YtddmommamcgelaaT2
import Derived.Test.YtddmommamcgelaaOpen
import Derived.Test.YtddmommamcgelaaZh
import Derived.Deep.RegionWith
import Derived.Deep.RegionHeld3
import Derived.Deep.DeepCutAuto
namespace Go.Proofs.Ytddmommamcgelaa.lIsFilePlacement
open Go.ChangeShapes Go.WideShapes Go.ChangeAt Go.RowKit Go.Joins

set_option maxRecDepth 100000 in
set_option maxHeartbeats 4000000 in
theorem walk (aB_r aB_c : Int) (aB_a : Option Addr) (aB_p : Nat) (aB : List Int) (aF_a : Option Addr) (aF_p : Nat) (aF : List Int) (b0 : Bool) (b1 : Bool) (w : World) (aF_f : aF.length ≤ 1048576) (hfit : aB.length ≤ 1048576) (aB_h : Reads w aB_a aB.length aB) (aF_h : Reads w aF_a aF.length aF) 
    (hS : ∀ (w : World) (loaB : Nat) (aB_s : Value) (loaF : Nat) (aF_s : Value), Own w loaB aB_s aB → Own w loaF aF_s aF → Calls Try.prog 40 #[.agg #[.int .i64 aB_r, .int .i64 aB_c, aB_s], aF_s] w fun e w' => e = .returned (.tuple #[.bool b0, .bool b1]) ∧ Below w.heap.size w w')
    (hI : ∀ (w : World) (loaB : Nat) (aB_s : Value) (loaF : Nat) (aF_s : Value), Own w loaB aB_s aB → Own w loaF aF_s aF → Calls Try.prog 43 #[.agg #[.int .i64 aB_r, .int .i64 aB_c, aB_s], aF_s] w fun e w' => e = .returned (.tuple #[.bool b0, .bool b1]) ∧ Below w.heap.size w w') :
    Calls Try.prog 12 #[.agg #[.int .i64 aB_r, .int .i64 aB_c, .slice aB_a aB.length aB_p], .slice aF_a aF.length aF_p] w fun e w' => e = .returned (.bool true) ∧ Below w.heap.size w w' := by
  have HS := Lib.hid hS; clear hS
  have HI := Lib.hid hI; clear hI
  have L0 := Law.start w
  have L1 := L0.box (.int .i64 aB_r) (.int .i64 aB_c) (.slice aB_a aB.length aB_p) 38
  clear L0 
  have aB_z := Lib.hid (show szN (1048576) aB.length = 1048576 - aB.length by unfold szN; rw [if_neg (by omega)])
  have aB_l : aB.length ≤ 1048576 := by omega
  have aF_l : aF.length ≤ 1048576 := aF_f
  go_enter Try.func12, Try.ntmps12
  have ⟨_, k2, k3, k4, _⟩ := L1.ownBox
  go_wp2_with fail
  refine (szBoard_any aB_r aB_c aB_a aB.length aB_p (1048576) _ (by omega) (by omega) (by omega)).mono ?_
  rintro e w5 ⟨rfl, hb6⟩
  rw [aB_z.out]
  have L7 := L1.kept hb6
  clear L1 hb6 k2 k3 k4
  have ⟨_, k8, k9, k10, _⟩ := L7.ownBox
  go_wp2_with fail
  refine (toBoard_any aB_r aB_c aB_a aB.length aB_p aB _ aB_l (L7.reads aB_h)).mono ?_
  rintro e w11 ⟨_, rfl, ⟨s12, rfl, O14⟩, hb13⟩
  obtain ⟨a15, p16, rfl, _⟩ := O14.reads
  have L18 := L7.own hb13 O14
  clear L7 hb13 O14 k8 k9 k10
  go_wp2_with fail
  refine (toIntS_any aF_a aF.length aF_p aF _ aF_l (L18.reads aF_h)).mono ?_
  rintro e w19 ⟨s20, rfl, O22, hb21⟩
  obtain ⟨a23, p24, rfl, _⟩ := O22.reads
  have L26 := L18.own hb21 O22
  clear L18 hb21 O22
  go_wp2_with fail
  refine (HS.out _ _ _ _ _ L26.tl.ownInts L26.ownInts).mono ?_
  rintro e w27 ⟨rfl, hb28⟩
  have L30 := L26.kept hb28
  clear L26 hb28
  have ⟨_, k31, k32, k33, _⟩ := L30.tl.tl.ownBox
  go_wp2_with fail
  refine (toBoard_any aB_r aB_c aB_a aB.length aB_p aB _ aB_l (L30.reads aB_h)).mono ?_
  rintro e w34 ⟨_, rfl, ⟨s35, rfl, O37⟩, hb36⟩
  obtain ⟨a38, p39, rfl, _⟩ := O37.reads
  have L41 := L30.own hb36 O37
  clear L30 hb36 O37 k31 k32 k33
  have L42 := L41.box (.int .i64 aB_r) (.int .i64 aB_c) (.slice a38 aB.length p39) 33
  clear L41 
  go_wp2_with fail
  refine (toIntS_any aF_a aF.length aF_p aF _ aF_l (L42.reads aF_h)).mono ?_
  rintro e w43 ⟨s44, rfl, O46, hb45⟩
  obtain ⟨a47, p48, rfl, _⟩ := O46.reads
  have L50 := L42.own hb45 O46
  clear L42 hb45 O46
  have ⟨_, k51, k52, k53, _⟩ := L50.tl.ownBox
  go_wp2_with fail
  refine (HI.out _ _ _ _ _ L50.tl.tl.ownInts L50.ownInts).mono ?_
  rintro e w54 ⟨rfl, hb55⟩
  have L57 := L50.kept hb55
  clear L50 hb55
  clear k51 k52 k53
  have ⟨_, k58, k59, k60, _⟩ := L57.tl.tl.tl.tl.tl.ownBox
  have ⟨_, k61, k62, k63, _⟩ := L57.tl.ownBox
  go_upto_region 13 with (fail)
  go_cut [50] (fun t w' => t = .bool false ∧ Below w54.heap.size w54 w')
  case first =>
    have hd : Below w54.heap.size w54 w54.drew := (Below.refl _ _).drew
    have Ld := L57.kept hd
    go_region_with (first | (go_at_call 41; refine (toBoard_any aB_r aB_c aB_a aB.length aB_p aB _ aB_l (Ld.reads aB_h)).mono ?_; rintro e w64 ⟨_, rfl, ⟨s65, rfl, O66⟩, hb67⟩; obtain ⟨a68, p69, rfl, _⟩ := O66.reads; have ⟨_, q0, q1, q2, _⟩ := (Ld.kept hb67).tl.ownBox) | (go_at_call 28; refine (eqBoard_same _ _ aB _ _ _ _ _ aB_l (Ld.kept hb67).tl.tl.ownInts O66).mono ?_; rintro e w70 ⟨rfl, hb71⟩))
    all_goals (go_wp2_with fail; go_meet; exact ⟨rfl, below_on (below_on hd hb67) hb71⟩)
  obtain ⟨rfl, hb72⟩ := hcut
  have L73 := L57.kept hb72
  clear L57 hb72 k58 k59 k60 k61 k62 k63
  generalize wc = w74 at *
  go_wp2_with fail
  refine (toIntS_any aF_a aF.length aF_p aF _ aF_l (L73.reads aF_h)).mono ?_
  rintro e w75 ⟨s76, rfl, O78, hb77⟩
  obtain ⟨a79, p80, rfl, _⟩ := O78.reads
  have L82 := L73.own hb77 O78
  clear L73 hb77 O78
  go_wp2_with fail
  refine (eqIntS_same aF _ _ _ _ _ aF_l L82.tl.ownInts L82.ownInts).mono ?_
  rintro e w83 ⟨rfl, hb84⟩
  have L85 := L82.kept hb84
  clear L82 hb84
  go_wp2_with fail
  go_ret
  exact ⟨rfl, L85.below⟩

set_option maxRecDepth 100000 in
set_option maxHeartbeats 800000 in
theorem walk_big0 (aB_r aB_c : Int) (aB_a : Option Addr) (aB_p : Nat) (aB : List Int) (aF_a : Option Addr) (aF_p : Nat) (aF : List Int) (w : World) (aF_m : aF.length ≤ 9223372036854775807) (hbig : ¬ aF.length ≤ 1048576)  :
    Calls Try.prog 12 #[.agg #[.int .i64 aB_r, .int .i64 aB_c, .slice aB_a aB.length aB_p], .slice aF_a aF.length aF_p] w fun e w' => e = .returned (.bool true) ∧ Below w.heap.size w w' := by
  have L0 := Law.start w
  have L1 := L0.box (.int .i64 aB_r) (.int .i64 aB_c) (.slice aB_a aB.length aB_p) 38
  have hb2 : 1048576 < aF.length := by omega
  clear hbig
  go_enter Try.func12, Try.ntmps12
  go_wp2_with fail
  go_ret
  exact ⟨rfl, L1.below⟩

set_option maxRecDepth 100000 in
set_option maxHeartbeats 800000 in
theorem walk_big1 (aB_r aB_c : Int) (aB_a : Option Addr) (aB_p : Nat) (aB : List Int) (aF_a : Option Addr) (aF_p : Nat) (aF : List Int) (w : World) (aF_m : aF.length ≤ 9223372036854775807) (aB_m : aB.length ≤ 9223372036854775807) (aF_f : aF.length ≤ 1048576) (hbig : ¬ aB.length ≤ 1048576)  :
    Calls Try.prog 12 #[.agg #[.int .i64 aB_r, .int .i64 aB_c, .slice aB_a aB.length aB_p], .slice aF_a aF.length aF_p] w fun e w' => e = .returned (.bool true) ∧ Below w.heap.size w w' := by
  have L0 := Law.start w
  have L1 := L0.box (.int .i64 aB_r) (.int .i64 aB_c) (.slice aB_a aB.length aB_p) 38
  have aB_z := Lib.hid (show szN (1048576) aB.length = -1 by unfold szN; rw [if_pos (by omega)])
  go_enter Try.func12, Try.ntmps12
  have ⟨_, k0, k1, k2, _⟩ := L1.ownBox
  go_wp2_with fail
  refine (szBoard_any aB_r aB_c aB_a aB.length aB_p (1048576) _ (by omega) (by omega) (by omega)).mono ?_
  rintro e v2 ⟨rfl, hb⟩
  rw [aB_z.out]
  have L2 := L1.kept hb
  clear L1 hb k0 k1 k2
  go_wp2_with fail
  go_ret
  exact ⟨rfl, L2.below⟩

theorem walk_all (aB_r aB_c : Int) (aB_a : Option Addr) (aB_p : Nat) (aB : List Int) (aF_a : Option Addr) (aF_p : Nat) (aF : List Int) (w : World) (aB_m : aB.length ≤ 9223372036854775807) (aF_m : aF.length ≤ 9223372036854775807) (aB_h : Reads w aB_a aB.length aB) (aF_h : Reads w aF_a aF.length aF) :
    Calls Try.prog 12 #[.agg #[.int .i64 aB_r, .int .i64 aB_c, .slice aB_a aB.length aB_p], .slice aF_a aF.length aF_p] w fun e w' => e = .returned (.bool true) ∧ Below w.heap.size w w' := by
  by_cases c0 : aF.length ≤ 1048576
  case neg => exact walk_big0 aB_r aB_c aB_a aB_p aB aF_a aF_p aF w aF_m  c0
  by_cases c1 : aB.length ≤ 1048576
  case neg => exact walk_big1 aB_r aB_c aB_a aB_p aB aF_a aF_p aF w aF_m aB_m c0 c1
  have hS : ∀ (w : World) (loaB : Nat) (aB_s : Value) (loaF : Nat) (aF_s : Value), Own w loaB aB_s aB → Own w loaF aF_s aF → Calls Try.prog 40 #[.agg #[.int .i64 aB_r, .int .i64 aB_c, aB_s], aF_s] w (AnsOO (isFilB aB_r aB_c aB aF) w) := fun w loaB aB_s loaF aF_s OaB OaF => specIsFil_any aB_r aB_c aB aF w (by omega) (by omega) loaB aB_s loaF aF_s OaB OaF
  have hI : ∀ (w : World) (loaB : Nat) (aB_s : Value) (loaF : Nat) (aF_s : Value), Own w loaB aB_s aB → Own w loaF aF_s aF → Calls Try.prog 43 #[.agg #[.int .i64 aB_r, .int .i64 aB_c, aB_s], aF_s] w (AnsOO (isFilB aB_r aB_c aB aF) w) := fun w loaB aB_s loaF aF_s OaB OaF => implIsFil_any aB_r aB_c aB aF w (by omega) (by omega) loaB aB_s loaF aF_s OaB OaF
  generalize isFilB aB_r aB_c aB aF = R at *
  obtain ⟨b0, b1⟩ := R
  exact walk aB_r aB_c aB_a aB_p aB aF_a aF_p aF b0 b1 w c0 c1 aB_h aF_h  hS hI

set_option maxRecDepth 100000 in
theorem contract (H : Type) (enc : TypeId × Value → H) (W : World) (base : Nat) (args : Array Value) (ds gs : List (DataW H)) (before : List MemPlace)
    (hval : ∀ (j : Nat) t v, Try.f12.params[j]? = some t → args[j]? = some v → Value.okWide Try.prog W .any base t v)
    (hW : DataW.Whole enc Try.prog Try.f12.params.toList Rows.fnExactIsFilePlacementSpec.vars false W args.toList ds gs before) :
    Calls Try.prog 12 args W fun e W' => ∃ v, e = .returned v ∧ Rows.fnExactIsFilePlacementSpec.post enc Try.prog Try.f12 false true false false W args v W' := by
  have hW' := hW
  obtain ⟨p, q, hA0, hV, rfl, hfz, hnd⟩ := hW
  have hA : DataW.TrodAll enc Try.prog W 0 (fun _ => true) true Try.f12.params.toList args.toList ds p := hA0
  rw [Try.params12] at hA hval
  obtain ⟨v0, v1, d0, d1, p0, p1, rfl, rfl, rfl, h0, h1⟩ := trodAll_two hA
  obtain ⟨rfl, rfl⟩ := trodVars_none hV
  clear hA0
  simp only [List.append_nil] at hW'
  have hlt : ∀ x ∈ p0 ++ p1, x.block < W.heap.size := fun x hx => by have := hW'.lt x (by simpa using hx); simpa using this
  have t0 := h0
  obtain ⟨aB_r, aB_c, aB_a, aB_n, aB_p, aB, rfl, aB_m, aB_h⟩ := open_board (hval 0 38 v0 rfl rfl) h0
  obtain rfl := aB_h.1
  have t1 := h1
  obtain ⟨aF_a, aF_n, aF_p, rfl⟩ := okWide_slice Try.underlying25 (hval 1 25 v1 rfl rfl)
  obtain ⟨fu1, hf1⟩ := h1
  obtain ⟨aF_m, aF, aF_h⟩ := reads_of (by simpa [Value.cells] using hf1)
  obtain rfl := aF_h.1
  refine (walk_all aB_r aB_c aB_a aB_p aB aF_a aF_p aF W aB_m aF_m aB_h aF_h).mono ?_
  rintro e W' ⟨rfl, hb⟩
  exact ⟨_, rfl, _, _, _, [], _, [], hW', trodAll_mk1 (shut_bool Try.underlying4 _), trodAll_mk2 (Below.trod Try.laidOut (by kernel_rfl) (of_decide_eq_true (by kernel_rfl)) t0 hb (fun x hx => hlt x (by simp [hx]))) (Below.trod Try.laidOut (by kernel_rfl) (of_decide_eq_true (by kernel_rfl)) t1 hb (fun x hx => hlt x (by simp [hx]))), rfl, hb.frame _, fun h => by cases h⟩

set_option maxRecDepth 100000 in
theorem lifted (os : Os) (started : os.Started) (H : Type) (enc : TypeId × Value → H) :
    ReturnsInHanded {} Try.checked os 12 .any (Rows.fnExactIsFilePlacementSpec.pre6 enc Try.prog Try.f12 Rows.fnExactIsFilePlacementRow.domain false) (Rows.fnExactIsFilePlacementSpec.post enc Try.prog Try.f12 false true false false) := by
  refine returnsInHanded_of_change (C := Try.checked) Try.own started (by kernel_rfl) Try.func12
    (ChangeSpec.witness6 (enc := enc) (C := Try.checked) false ⟨#[], #[.agg #[.int .i64 0, .int .i64 0, .slice none 0 0], .slice none 0 0], []⟩ 8 (by kernel_rfl) (by kernel_rfl) (by kernel_rfl) (by kernel_rfl)) ?_
  intro W base args ds gs before hval hW _ _
  exact contract H enc W base args ds gs before hval hW

theorem holds : Rows.FnExactIsFilePlacementSaid :=
  OpenClaim.holds_of_wide 12 Try.f12 rfl rfl rfl rfl rfl rfl rfl ⟨rfl, rfl, rfl, rfl, rfl⟩ rfl rfl rfl rfl rfl (by kernel_rfl) Try.func12 (by kernel_rfl)
    (of_decide_eq_true (by kernel_rfl)) (by unfold Func.isWrapper; first | (rw [if_pos (by decide +kernel)]; kernel_rfl) | (rw [if_neg (by decide +kernel)]; exact ⟨rfl, rfl⟩))
    (fun os started H enc _ => lifted os started H enc)

#print axioms holds
end Go.Proofs.Ytddmommamcgelaa.lIsFilePlacement
