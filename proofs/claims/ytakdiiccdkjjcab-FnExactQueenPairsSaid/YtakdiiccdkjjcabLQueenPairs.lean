/- 'FnExactQueenPairs' answers true for every input, and leaves it as it was. No condition. -/
import Derived.Test.YtakdiiccdkjjcabT2
import Derived.Test.YtakdiiccdkjjcabOpen
import Derived.Test.YtakdiiccdkjjcabED
import Derived.Deep.RegionWith
import Derived.Deep.RegionHeld3
import Derived.Deep.DeepCutAuto
namespace Go.Proofs.Ytakdiiccdkjjcab.lQueenPairs
open Go.ChangeShapes Go.WideShapes Go.ChangeAt Go.RowKit Go.Joins

set_option maxRecDepth 100000 in
set_option maxHeartbeats 4000000 in
theorem walk (aB_r aB_c : Int) (aB_a : Option Addr) (aB_p : Nat) (aB : List Int) (y0 : Int) (b1 : Bool) (w : World) (hfit : aB.length ≤ 1048576) (aB_h : Reads w aB_a aB.length aB) 
    (hS : ∀ (w : World) (loaB : Nat) (aB_s : Value), Own w loaB aB_s aB → Calls Try.prog 37 #[.agg #[.int .i64 aB_r, .int .i64 aB_c, aB_s]] w fun e w' => e = .returned (.tuple #[.int .i64 y0, .bool b1]) ∧ Below w.heap.size w w')
    (hI : ∀ (w : World) (loaB : Nat) (aB_s : Value), Own w loaB aB_s aB → Calls Try.prog 38 #[.agg #[.int .i64 aB_r, .int .i64 aB_c, aB_s]] w fun e w' => e = .returned (.tuple #[.int .i64 y0, .bool b1]) ∧ Below w.heap.size w w') :
    Calls Try.prog 8 #[.agg #[.int .i64 aB_r, .int .i64 aB_c, .slice aB_a aB.length aB_p]] w fun e w' => e = .returned (.bool true) ∧ Below w.heap.size w w' := by
  have HS := Lib.hid hS; clear hS
  have HI := Lib.hid hI; clear hI
  have L0 := Law.start w
  have L1 := L0.box (.int .i64 aB_r) (.int .i64 aB_c) (.slice aB_a aB.length aB_p) 24
  clear L0 
  have aB_z := Lib.hid (show szN (1048576) aB.length = 1048576 - aB.length by unfold szN; rw [if_neg (by omega)])
  have aB_l : aB.length ≤ 1048576 := by omega
  go_enter Try.func8, Try.ntmps8
  have ⟨_, k2, k3, k4, _⟩ := L1.ownBox
  go_wp2_with fail
  refine (szBoard_any aB_r aB_c aB_a aB.length aB_p (1048576) _ (by omega) (by omega) (by omega)).mono ?_
  rintro e w5 ⟨rfl, hb6⟩
  rw [aB_z.out]
  have L7 := L1.kept hb6
  clear L1 hb6 k2 k3 k4
  have ⟨_, k8, k9, k10, _⟩ := L7.ownBox
  go_wp2_with fail
  refine (toBoard_any aB_r aB_c aB_a aB.length aB_p aB _ aB_l (L7.reads aB_h)).mono ?_
  rintro e w11 ⟨_, rfl, ⟨s12, rfl, O14⟩, hb13⟩
  obtain ⟨a15, p16, rfl, _⟩ := O14.reads
  have L18 := L7.own hb13 O14
  clear L7 hb13 O14 k8 k9 k10
  go_wp2_with fail
  refine (HS.out _ _ _ L18.ownInts).mono ?_
  rintro e w19 ⟨rfl, hb20⟩
  have L22 := L18.kept hb20
  clear L18 hb20
  have ⟨_, k23, k24, k25, _⟩ := L22.tl.ownBox
  go_wp2_with fail
  refine (toBoard_any aB_r aB_c aB_a aB.length aB_p aB _ aB_l (L22.reads aB_h)).mono ?_
  rintro e w26 ⟨_, rfl, ⟨s27, rfl, O29⟩, hb28⟩
  obtain ⟨a30, p31, rfl, _⟩ := O29.reads
  have L33 := L22.own hb28 O29
  clear L22 hb28 O29 k23 k24 k25
  have L34 := L33.box (.int .i64 aB_r) (.int .i64 aB_c) (.slice a30 aB.length p31) 28
  clear L33 
  have ⟨_, k35, k36, k37, _⟩ := L34.ownBox
  go_wp2_with fail
  refine (HI.out _ _ _ L34.tl.ownInts).mono ?_
  rintro e w38 ⟨rfl, hb39⟩
  have L41 := L34.kept hb39
  clear L34 hb39
  clear k35 k36 k37
  have ⟨_, k42, k43, k44, _⟩ := L41.tl.tl.tl.ownBox
  have ⟨_, k45, k46, k47, _⟩ := L41.ownBox
  go_upto_region 10 with (fail)
  go_cut [39] (fun t w' => t = .bool false ∧ Below w38.heap.size w38 w')
  case first =>
    have hd : Below w38.heap.size w38 w38.drew := (Below.refl _ _).drew
    have Ld := L41.kept hd
    go_region_with (first | (go_at_call 17; refine (toBoard_any aB_r aB_c aB_a aB.length aB_p aB _ aB_l (Ld.reads aB_h)).mono ?_; rintro e w48 ⟨_, rfl, ⟨s49, rfl, O50⟩, hb51⟩; obtain ⟨a52, p53, rfl, _⟩ := O50.reads; have ⟨_, q0, q1, q2, _⟩ := (Ld.kept hb51).ownBox) | (go_at_call 20; refine (eqBoard_same _ _ aB _ _ _ _ _ aB_l (Ld.kept hb51).tl.ownInts O50).mono ?_; rintro e w54 ⟨rfl, hb55⟩))
    all_goals (go_wp2_with fail; go_meet; exact ⟨rfl, below_on (below_on hd hb51) hb55⟩)
  obtain ⟨rfl, hb56⟩ := hcut
  have L57 := L41.kept hb56
  clear L41 hb56 k42 k43 k44 k45 k46 k47
  generalize wc = w58 at *
  go_wp2_with fail
  go_ret
  exact ⟨rfl, L57.below⟩

set_option maxRecDepth 100000 in
set_option maxHeartbeats 800000 in
theorem walk_big0 (aB_r aB_c : Int) (aB_a : Option Addr) (aB_p : Nat) (aB : List Int) (w : World) (aB_m : aB.length ≤ 9223372036854775807) (hbig : ¬ aB.length ≤ 1048576)  :
    Calls Try.prog 8 #[.agg #[.int .i64 aB_r, .int .i64 aB_c, .slice aB_a aB.length aB_p]] w fun e w' => e = .returned (.bool true) ∧ Below w.heap.size w w' := by
  have L0 := Law.start w
  have L1 := L0.box (.int .i64 aB_r) (.int .i64 aB_c) (.slice aB_a aB.length aB_p) 24
  have aB_z := Lib.hid (show szN (1048576) aB.length = -1 by unfold szN; rw [if_pos (by omega)])
  go_enter Try.func8, Try.ntmps8
  have ⟨_, k0, k1, k2, _⟩ := L1.ownBox
  go_wp2_with fail
  refine (szBoard_any aB_r aB_c aB_a aB.length aB_p (1048576) _ (by omega) (by omega) (by omega)).mono ?_
  rintro e v2 ⟨rfl, hb⟩
  rw [aB_z.out]
  have L2 := L1.kept hb
  clear L1 hb k0 k1 k2
  go_wp2_with fail
  go_ret
  exact ⟨rfl, L2.below⟩

theorem walk_all (aB_r aB_c : Int) (aB_a : Option Addr) (aB_p : Nat) (aB : List Int) (w : World) (aB_m : aB.length ≤ 9223372036854775807) (aB_h : Reads w aB_a aB.length aB) :
    Calls Try.prog 8 #[.agg #[.int .i64 aB_r, .int .i64 aB_c, .slice aB_a aB.length aB_p]] w fun e w' => e = .returned (.bool true) ∧ Below w.heap.size w w' := by
  by_cases c0 : aB.length ≤ 1048576
  case neg => exact walk_big0 aB_r aB_c aB_a aB_p aB w aB_m  c0
  have hS : ∀ (w : World) (loaB : Nat) (aB_s : Value), Own w loaB aB_s aB → Calls Try.prog 37 #[.agg #[.int .i64 aB_r, .int .i64 aB_c, aB_s]] w (AnsIO (pairsR aB_r aB_c aB) w) := fun w loaB aB_s OaB => specPairs_any aB_r aB_c aB w (by omega) loaB aB_s OaB
  have hI : ∀ (w : World) (loaB : Nat) (aB_s : Value), Own w loaB aB_s aB → Calls Try.prog 38 #[.agg #[.int .i64 aB_r, .int .i64 aB_c, aB_s]] w (AnsIO (pairsR aB_r aB_c aB) w) := fun w loaB aB_s OaB => implPairs_any aB_r aB_c aB w (by omega) loaB aB_s OaB
  generalize pairsR aB_r aB_c aB = R at *
  obtain ⟨y0, b1⟩ := R
  exact walk aB_r aB_c aB_a aB_p aB y0 b1 w  c0 aB_h  hS hI

set_option maxRecDepth 100000 in
theorem contract (H : Type) (enc : TypeId × Value → H) (W : World) (base : Nat) (args : Array Value) (ds gs : List (DataW H)) (before : List MemPlace)
    (hval : ∀ (j : Nat) t v, Try.f8.params[j]? = some t → args[j]? = some v → Value.okWide Try.prog W .any base t v)
    (hW : DataW.Whole enc Try.prog Try.f8.params.toList Rows.fnExactQueenPairsSpec.vars false W args.toList ds gs before) :
    Calls Try.prog 8 args W fun e W' => ∃ v, e = .returned v ∧ Rows.fnExactQueenPairsSpec.post enc Try.prog Try.f8 false true false false W args v W' := by
  have hW' := hW
  obtain ⟨p, q, hA0, hV, rfl, hfz, hnd⟩ := hW
  have hA : DataW.TrodAll enc Try.prog W 0 (fun _ => true) true Try.f8.params.toList args.toList ds p := hA0
  rw [Try.params8] at hA hval
  obtain ⟨v0, d0, rfl, rfl, h0⟩ := trodAll_one hA
  obtain ⟨rfl, rfl⟩ := trodVars_none hV
  clear hA0
  simp only [List.append_nil] at hW'
  have hlt : ∀ x ∈ p, x.block < W.heap.size := fun x hx => by have := hW'.lt x (by simpa using hx); simpa using this
  have t0 := h0
  obtain ⟨aB_r, aB_c, aB_a, aB_n, aB_p, aB, rfl, aB_m, aB_h⟩ := open_board (hval 0 24 v0 rfl rfl) h0
  obtain rfl := aB_h.1
  refine (walk_all aB_r aB_c aB_a aB_p aB W aB_m aB_h).mono ?_
  rintro e W' ⟨rfl, hb⟩
  exact ⟨_, rfl, _, _, _, [], _, [], hW', trodAll_mk1 (shut_bool Try.underlying4 _), trodAll_mk1 (Below.trod Try.laidOut (by kernel_rfl) (of_decide_eq_true (by kernel_rfl)) t0 hb hlt), rfl, hb.frame _, fun h => by cases h⟩

set_option maxRecDepth 100000 in
theorem lifted (os : Os) (started : os.Started) (H : Type) (enc : TypeId × Value → H) :
    ReturnsInHanded {} Try.checked os 8 .any (Rows.fnExactQueenPairsSpec.pre6 enc Try.prog Try.f8 Rows.fnExactQueenPairsRow.domain false) (Rows.fnExactQueenPairsSpec.post enc Try.prog Try.f8 false true false false) := by
  refine returnsInHanded_of_change (C := Try.checked) Try.own started (by kernel_rfl) Try.func8
    (ChangeSpec.witness6 (enc := enc) (C := Try.checked) false ⟨#[], #[.agg #[.int .i64 0, .int .i64 0, .slice none 0 0]], []⟩ 8 (by kernel_rfl) (by kernel_rfl) (by kernel_rfl) (by kernel_rfl)) ?_
  intro W base args ds gs before hval hW _ _
  exact contract H enc W base args ds gs before hval hW

theorem holds : Rows.FnExactQueenPairsSaid :=
  OpenClaim.holds_of_wide 8 Try.f8 rfl rfl rfl rfl rfl rfl rfl ⟨rfl, rfl, rfl, rfl, rfl⟩ rfl rfl rfl rfl rfl (by kernel_rfl) Try.func8 (by kernel_rfl)
    (of_decide_eq_true (by kernel_rfl)) (by unfold Func.isWrapper; first | (rw [if_pos (by decide +kernel)]; kernel_rfl) | (rw [if_neg (by decide +kernel)]; exact ⟨rfl, rfl⟩))
    (fun os started H enc _ => lifted os started H enc)

#print axioms holds
end Go.Proofs.Ytakdiiccdkjjcab.lQueenPairs
