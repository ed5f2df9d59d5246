/- 'FnExactPartitionText' answers true for every input, and leaves it as it was. No condition. -/
import Derived.Test.YtddmommamcgelabT2
import Derived.Test.YtddmommamcgelabOpen
import Derived.Test.YtddmommamcgelabZv
import Derived.Deep.RegionWith
import Derived.Deep.RegionHeld3
import Derived.Deep.DeepCutAuto
namespace Go.Proofs.Ytddmommamcgelab.lPartitionText
open Go.ChangeShapes Go.WideShapes Go.ChangeAt Go.RowKit Go.Joins

set_option maxRecDepth 100000 in
set_option maxHeartbeats 4000000 in
theorem walk (aBlocks_a : Option Addr) (aBlocks_p : Nat) (aBlocks : List (List Int)) (t0 : ByteArray) (b1 : Bool) (w : World) (hfit : aBlocks.length + total aBlocks ≤ 1048576) (aBlocks_h : ReadsM w aBlocks_a aBlocks.length aBlocks) (aBlocks_r : ∀ r ∈ aBlocks, r.length ≤ 9223372036854775807) 
    (hS : ∀ (w : World) (loaBlocks : Nat) (aBlocks_s : Value) (aBlocks_v : List Value), OwnM w loaBlocks aBlocks_s aBlocks_v aBlocks → Calls Try.prog 35 #[aBlocks_s] w fun e w' => e = .returned (.tuple #[.string t0, .bool b1]) ∧ Below w.heap.size w w')
    (hI : ∀ (w : World) (loaBlocks : Nat) (aBlocks_s : Value) (aBlocks_v : List Value), OwnM w loaBlocks aBlocks_s aBlocks_v aBlocks → Calls Try.prog 36 #[aBlocks_s] w fun e w' => e = .returned (.tuple #[.string t0, .bool b1]) ∧ Below w.heap.size w w') :
    Calls Try.prog 8 #[.slice aBlocks_a aBlocks.length aBlocks_p] w fun e w' => e = .returned (.bool true) ∧ Below w.heap.size w w' := by
  have HS := Lib.hid hS; clear hS
  have HI := Lib.hid hI; clear hI
  have L0 := Law.start w
  have aBlocks_z := Lib.hid (show szM (1048576) aBlocks = 1048576 - aBlocks.length - total aBlocks by unfold szM; rw [if_neg (by omega)])
  have aBlocks_l : aBlocks.length ≤ 1048576 := by omega
  have aBlocks_tot : total aBlocks ≤ 1048576 := by omega
  have aBlocks_row : ∀ r ∈ aBlocks, r.length ≤ 1048576 := fun r hr => Nat.le_trans (total_le _ r hr) aBlocks_tot
  go_enter Try.func8, Try.ntmps8
  go_wp2_with fail
  refine (szIntSS_any aBlocks_a aBlocks_p aBlocks (1048576) _ (by omega) aBlocks_r (by omega) (by omega) (L0.readsM aBlocks_h)).mono ?_
  rintro e w1 ⟨rfl, hb2⟩
  rw [aBlocks_z.out]
  have L3 := L0.kept hb2
  clear L0 hb2
  go_wp2_with fail
  refine (toIntSS_any aBlocks_a aBlocks_p aBlocks _ aBlocks_l aBlocks_row (L3.readsM aBlocks_h)).mono ?_
  rintro e w4 ⟨s5, v10, rfl, O7, hb6⟩
  obtain ⟨a8, p9, rfl, _⟩ := O7.form
  have L12 := L3.addM hb6 O7
  clear L3 hb6 O7
  go_wp2_with fail
  refine (HS.out _ _ _ _ L12.ownM).mono ?_
  rintro e w13 ⟨rfl, hb14⟩
  have L16 := L12.kept hb14
  clear L12 hb14
  go_wp2_with fail
  refine (toIntSS_any aBlocks_a aBlocks_p aBlocks _ aBlocks_l aBlocks_row (L16.readsM aBlocks_h)).mono ?_
  rintro e w17 ⟨s18, v23, rfl, O20, hb19⟩
  obtain ⟨a21, p22, rfl, _⟩ := O20.form
  have L25 := L16.addM hb19 O20
  clear L16 hb19 O20
  go_wp2_with fail
  refine (HI.out _ _ _ _ L25.ownM).mono ?_
  rintro e w26 ⟨rfl, hb27⟩
  have L29 := L25.kept hb27
  clear L25 hb27
  go_wp2_with fail
  refine (toIntSS_any aBlocks_a aBlocks_p aBlocks _ aBlocks_l aBlocks_row (L29.readsM aBlocks_h)).mono ?_
  rintro e w30 ⟨s31, v36, rfl, O33, hb32⟩
  obtain ⟨a34, p35, rfl, _⟩ := O33.form
  have L38 := L29.addM hb32 O33
  clear L29 hb32 O33
  go_wp2_with fail
  refine (eqIntSS_same aBlocks _ _ _ _ _ _ _ aBlocks_l aBlocks_row L38.tl.ownM L38.ownM).mono ?_
  rintro e w39 ⟨rfl, hb40⟩
  have L41 := L38.kept hb40
  clear L38 hb40
  go_wp2_with fail
  go_ret
  exact ⟨rfl, L41.below⟩

set_option maxRecDepth 100000 in
set_option maxHeartbeats 800000 in
theorem walk_big0 (aBlocks_a : Option Addr) (aBlocks_p : Nat) (aBlocks : List (List Int)) (w : World) (aBlocks_m : aBlocks.length ≤ 9223372036854775807) (aBlocks_h : ReadsM w aBlocks_a aBlocks.length aBlocks) (aBlocks_r : ∀ r ∈ aBlocks, r.length ≤ 9223372036854775807) (hbig : ¬ aBlocks.length + total aBlocks ≤ 1048576)  :
    Calls Try.prog 8 #[.slice aBlocks_a aBlocks.length aBlocks_p] w fun e w' => e = .returned (.bool true) ∧ Below w.heap.size w w' := by
  have L0 := Law.start w
  have aBlocks_z := Lib.hid (show szM (1048576) aBlocks = -1 by unfold szM; rw [if_pos (by omega)])
  go_enter Try.func8, Try.ntmps8
  go_wp2_with fail
  refine (szIntSS_any aBlocks_a aBlocks_p aBlocks (1048576) _ (by omega) aBlocks_r (by omega) (by omega) (L0.readsM aBlocks_h)).mono ?_
  rintro e v1 ⟨rfl, hb⟩
  rw [aBlocks_z.out]
  have L1 := L0.kept hb
  clear L0 hb
  go_wp2_with fail
  go_ret
  exact ⟨rfl, L1.below⟩

theorem walk_all (aBlocks_a : Option Addr) (aBlocks_p : Nat) (aBlocks : List (List Int)) (w : World) (aBlocks_m : aBlocks.length ≤ 9223372036854775807) (aBlocks_h : ReadsM w aBlocks_a aBlocks.length aBlocks) (aBlocks_r : ∀ r ∈ aBlocks, r.length ≤ 9223372036854775807) :
    Calls Try.prog 8 #[.slice aBlocks_a aBlocks.length aBlocks_p] w fun e w' => e = .returned (.bool true) ∧ Below w.heap.size w w' := by
  by_cases c0 : aBlocks.length + total aBlocks ≤ 1048576
  case neg => exact walk_big0 aBlocks_a aBlocks_p aBlocks w aBlocks_m aBlocks_h aBlocks_r  c0
  have hS : ∀ (w : World) (loaBlocks : Nat) (aBlocks_s : Value) (aBlocks_v : List Value), OwnM w loaBlocks aBlocks_s aBlocks_v aBlocks → Calls Try.prog 35 #[aBlocks_s] w (AnsS (ptB aBlocks) w) := fun w loaBlocks aBlocks_s aBlocks_v OaBlocks => specPt_any aBlocks w (by omega) loaBlocks aBlocks_s aBlocks_v OaBlocks
  have hI : ∀ (w : World) (loaBlocks : Nat) (aBlocks_s : Value) (aBlocks_v : List Value), OwnM w loaBlocks aBlocks_s aBlocks_v aBlocks → Calls Try.prog 36 #[aBlocks_s] w (AnsS (ptB aBlocks) w) := fun w loaBlocks aBlocks_s aBlocks_v OaBlocks => implPt_any aBlocks w (by omega) loaBlocks aBlocks_s aBlocks_v OaBlocks
  generalize ptB aBlocks = R at *
  obtain ⟨t0, b1⟩ := R
  exact walk aBlocks_a aBlocks_p aBlocks t0 b1 w  c0 aBlocks_h aBlocks_r  hS hI

set_option maxRecDepth 100000 in
theorem contract (H : Type) (enc : TypeId × Value → H) (W : World) (base : Nat) (args : Array Value) (ds gs : List (DataW H)) (before : List MemPlace)
    (hval : ∀ (j : Nat) t v, Try.f8.params[j]? = some t → args[j]? = some v → Value.okWide Try.prog W .any base t v)
    (hW : DataW.Whole enc Try.prog Try.f8.params.toList Rows.fnExactPartitionTextSpec.vars false W args.toList ds gs before) :
    Calls Try.prog 8 args W fun e W' => ∃ v, e = .returned v ∧ Rows.fnExactPartitionTextSpec.post enc Try.prog Try.f8 false true false false W args v W' := by
  have hW' := hW
  obtain ⟨p, q, hA0, hV, rfl, hfz, hnd⟩ := hW
  have hA : DataW.TrodAll enc Try.prog W 0 (fun _ => true) true Try.f8.params.toList args.toList ds p := hA0
  rw [Try.params8] at hA hval
  obtain ⟨v0, d0, rfl, rfl, h0⟩ := trodAll_one hA
  obtain ⟨rfl, rfl⟩ := trodVars_none hV
  clear hA0
  simp only [List.append_nil] at hW'
  have hlt : ∀ x ∈ p, x.block < W.heap.size := fun x hx => by have := hW'.lt x (by simpa using hx); simpa using this
  have t0 := h0
  obtain ⟨aBlocks_a, aBlocks_n, aBlocks_p, rfl⟩ := okWide_slice Try.underlying23 (hval 0 23 v0 rfl rfl)
  obtain ⟨fu0, hf0⟩ := h0
  obtain ⟨aBlocks_m, aBlocks, aBlocks_h, aBlocks_r⟩ := readsM_of (by simpa [Value.cells] using hf0)
  obtain rfl := aBlocks_h.1
  refine (walk_all aBlocks_a aBlocks_p aBlocks W aBlocks_m aBlocks_h aBlocks_r).mono ?_
  rintro e W' ⟨rfl, hb⟩
  exact ⟨_, rfl, _, _, _, [], _, [], hW', trodAll_mk1 (shut_bool Try.underlying4 _), trodAll_mk1 (Below.trod Try.laidOut (by kernel_rfl) (of_decide_eq_true (by kernel_rfl)) t0 hb hlt), rfl, hb.frame _, fun h => by cases h⟩

set_option maxRecDepth 100000 in
theorem lifted (os : Os) (started : os.Started) (H : Type) (enc : TypeId × Value → H) :
    ReturnsInHanded {} Try.checked os 8 .any (Rows.fnExactPartitionTextSpec.pre6 enc Try.prog Try.f8 Rows.fnExactPartitionTextRow.domain false) (Rows.fnExactPartitionTextSpec.post enc Try.prog Try.f8 false true false false) := by
  refine returnsInHanded_of_change (C := Try.checked) Try.own started (by kernel_rfl) Try.func8
    (ChangeSpec.witness6 (enc := enc) (C := Try.checked) false ⟨#[], #[.slice none 0 0], []⟩ 8 (by kernel_rfl) (by kernel_rfl) (by kernel_rfl) (by kernel_rfl)) ?_
  intro W base args ds gs before hval hW _ _
  exact contract H enc W base args ds gs before hval hW

theorem holds : Rows.FnExactPartitionTextSaid :=
  OpenClaim.holds_of_wide 8 Try.f8 rfl rfl rfl rfl rfl rfl rfl ⟨rfl, rfl, rfl, rfl, rfl⟩ rfl rfl rfl rfl rfl (by kernel_rfl) Try.func8 (by kernel_rfl)
    (of_decide_eq_true (by kernel_rfl)) (by unfold Func.isWrapper; first | (rw [if_pos (by decide +kernel)]; kernel_rfl) | (rw [if_neg (by decide +kernel)]; exact ⟨rfl, rfl⟩))
    (fun os started H enc _ => lifted os started H enc)

#print axioms holds
end Go.Proofs.Ytddmommamcgelab.lPartitionText
