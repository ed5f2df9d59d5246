/- 'FnExactRooksOfPartition' answers true for every input, and leaves it as it was. No condition. -/
import Derived.Test.YtddmommamcgelabT2
import Derived.Test.YtddmommamcgelabOpen
import Derived.Test.YtddmommamcgelabZs
import Derived.Deep.RegionWith
import Derived.Deep.RegionHeld3
import Derived.Deep.DeepCutAuto
namespace Go.Proofs.Ytddmommamcgelab.lRooksOfPartition
open Go.ChangeShapes Go.WideShapes Go.ChangeAt Go.RowKit Go.Joins

set_option maxRecDepth 100000 in
set_option maxHeartbeats 4000000 in
theorem walk (aBlocks_a : Option Addr) (aBlocks_p : Nat) (aBlocks : List (List Int)) (ys0 : List Int) (b1 : Bool) (w : World) (hfit : aBlocks.length + total aBlocks ≤ 1048576) (aBlocks_h : ReadsM w aBlocks_a aBlocks.length aBlocks) (aBlocks_r : ∀ r ∈ aBlocks, r.length ≤ 9223372036854775807) (ys0_len : ys0.length ≤ 1048576)
    (hS : ∀ (w : World) (loaBlocks : Nat) (aBlocks_s : Value) (aBlocks_v : List Value), OwnM w loaBlocks aBlocks_s aBlocks_v aBlocks → Calls Try.prog 22 #[aBlocks_s] w fun e w' => ∃ s0, e = .returned (.tuple #[s0, .bool b1]) ∧ Own w' w.heap.size s0 ys0 ∧ Below w.heap.size w w')
    (hI : ∀ (w : World) (loaBlocks : Nat) (aBlocks_s : Value) (aBlocks_v : List Value), OwnM w loaBlocks aBlocks_s aBlocks_v aBlocks → Calls Try.prog 24 #[aBlocks_s] w fun e w' => ∃ s0, e = .returned (.tuple #[s0, .bool b1]) ∧ Own w' w.heap.size s0 ys0 ∧ Below w.heap.size w w') :
    Calls Try.prog 4 #[.slice aBlocks_a aBlocks.length aBlocks_p] w fun e w' => e = .returned (.bool true) ∧ Below w.heap.size w w' := by
  have HS := Lib.hid hS; clear hS
  have HI := Lib.hid hI; clear hI
  have L0 := Law.start w
  have aBlocks_z := Lib.hid (show szM (1048576) aBlocks = 1048576 - aBlocks.length - total aBlocks by unfold szM; rw [if_neg (by omega)])
  have aBlocks_l : aBlocks.length ≤ 1048576 := by omega
  have aBlocks_tot : total aBlocks ≤ 1048576 := by omega
  have aBlocks_row : ∀ r ∈ aBlocks, r.length ≤ 1048576 := fun r hr => Nat.le_trans (total_le _ r hr) aBlocks_tot
  go_enter Try.func4, Try.ntmps4
  go_wp2_with fail
  refine (szIntSS_any aBlocks_a aBlocks_p aBlocks (1048576) _ (by omega) aBlocks_r (by omega) (by omega) (L0.readsM aBlocks_h)).mono ?_
  rintro e w1 ⟨rfl, hb2⟩
  rw [aBlocks_z.out]
  have L3 := L0.kept hb2
  clear L0 hb2
  go_wp2_with fail
  refine (toIntSS_any aBlocks_a aBlocks_p aBlocks _ aBlocks_l aBlocks_row (L3.readsM aBlocks_h)).mono ?_
  rintro e w4 ⟨s5, v10, rfl, O7, hb6⟩
  obtain ⟨a8, p9, rfl, _⟩ := O7.form
  have L12 := L3.addM hb6 O7
  clear L3 hb6 O7
  go_wp2_with fail
  refine (HS.out _ _ _ _ L12.ownM).mono ?_
  rintro e w13 ⟨s15, rfl, O16, hb14⟩
  obtain ⟨a18, p19, rfl, _⟩ := O16.reads
  have L21 := L12.own hb14 O16
  clear L12 hb14 O16
  go_wp2_with fail
  refine (toIntSS_any aBlocks_a aBlocks_p aBlocks _ aBlocks_l aBlocks_row (L21.readsM aBlocks_h)).mono ?_
  rintro e w22 ⟨s23, v28, rfl, O25, hb24⟩
  obtain ⟨a26, p27, rfl, _⟩ := O25.form
  have L30 := L21.addM hb24 O25
  clear L21 hb24 O25
  go_wp2_with fail
  refine (HI.out _ _ _ _ L30.ownM).mono ?_
  rintro e w31 ⟨s33, rfl, O34, hb32⟩
  obtain ⟨a36, p37, rfl, _⟩ := O34.reads
  have L39 := L30.own hb32 O34
  clear L30 hb32 O34
  go_wp2_with fail
  refine (eqIntS_same ys0 _ _ _ _ _ ys0_len L39.ownInts L39.tl.tl.ownInts).mono ?_
  rintro e w40 ⟨rfl, hb41⟩
  have L42 := L39.kept hb41
  clear L39 hb41
  go_wp2_with fail
  refine (toIntSS_any aBlocks_a aBlocks_p aBlocks _ aBlocks_l aBlocks_row (L42.readsM aBlocks_h)).mono ?_
  rintro e w43 ⟨s44, v49, rfl, O46, hb45⟩
  obtain ⟨a47, p48, rfl, _⟩ := O46.form
  have L51 := L42.addM hb45 O46
  clear L42 hb45 O46
  go_wp2_with fail
  refine (eqIntSS_same aBlocks _ _ _ _ _ _ _ aBlocks_l aBlocks_row L51.tl.tl.ownM L51.ownM).mono ?_
  rintro e w52 ⟨rfl, hb53⟩
  have L54 := L51.kept hb53
  clear L51 hb53
  go_wp2_with fail
  refine (markIntSS_any aBlocks _ _ _ (1) _ aBlocks_l aBlocks_tot (by omega) (by omega) L54.tl.tl.ownM).mono ?_
  rintro e w55 ⟨rfl, O56, hg57⟩
  have L58 := Law.markM (ts := [_, _]) L54 hg57 O56
  simp only [List.cons_append, List.nil_append] at L58
  clear L54 hg57 O56 
  go_wp2_with fail
  refine (eqIntS_same ys0 _ _ _ _ _ ys0_len L58.tl.ownInts L58.tl.tl.tl.ownInts).mono ?_
  rintro e w59 ⟨rfl, hb60⟩
  have L61 := L58.kept hb60
  clear L58 hb60
  go_wp2_with fail
  refine (markIntS_any _ _ ys0 (1) _ ys0_len (by omega) (by omega) L61.tl.ownInts).mono ?_
  rintro e w62 ⟨rfl, O63, hg64⟩
  have L65 := Law.mark (ts := [_]) L61 hg64 O63
  simp only [List.cons_append, List.nil_append] at L65
  clear L61 hg64 O63 
  go_wp2_with fail
  refine (heldIntS_below _ _ ys0.length (1) _ ys0_len (by omega) (by omega) L65.tl.ownInts).mono ?_
  rintro e w66 ⟨rfl, hb67⟩
  have L68 := L65.kept hb67
  clear L65 hb67
  go_wp2_with fail
  refine (toIntSS_any aBlocks_a aBlocks_p aBlocks _ aBlocks_l aBlocks_row (L68.readsM aBlocks_h)).mono ?_
  rintro e w69 ⟨s70, v75, rfl, O72, hb71⟩
  obtain ⟨a73, p74, rfl, _⟩ := O72.form
  have L77 := L68.addM hb71 O72
  clear L68 hb71 O72
  go_wp2_with fail
  refine (HI.out _ _ _ _ L77.ownM).mono ?_
  rintro e w78 ⟨s80, rfl, O81, hb79⟩
  obtain ⟨a83, p84, rfl, _⟩ := O81.reads
  have L86 := L77.own hb79 O81
  clear L77 hb79 O81
  go_wp2_with fail
  refine (eqIntS_same ys0 _ _ _ _ _ ys0_len L86.ownInts L86.tl.tl.tl.tl.tl.ownInts).mono ?_
  rintro e w87 ⟨rfl, hb88⟩
  have L89 := L86.kept hb88
  clear L86 hb88
  go_wp2_with fail
  refine (heldIntS_below _ _ ys0.length (1) _ ys0_len (by omega) (by omega) L89.tl.tl.tl.ownInts).mono ?_
  rintro e w90 ⟨rfl, hb91⟩
  have L92 := L89.kept hb91
  clear L89 hb91
  go_wp2_with fail
  go_ret
  exact ⟨rfl, L92.below⟩

set_option maxRecDepth 100000 in
set_option maxHeartbeats 800000 in
theorem walk_big0 (aBlocks_a : Option Addr) (aBlocks_p : Nat) (aBlocks : List (List Int)) (w : World) (aBlocks_m : aBlocks.length ≤ 9223372036854775807) (aBlocks_h : ReadsM w aBlocks_a aBlocks.length aBlocks) (aBlocks_r : ∀ r ∈ aBlocks, r.length ≤ 9223372036854775807) (hbig : ¬ aBlocks.length + total aBlocks ≤ 1048576)  :
    Calls Try.prog 4 #[.slice aBlocks_a aBlocks.length aBlocks_p] w fun e w' => e = .returned (.bool true) ∧ Below w.heap.size w w' := by
  have L0 := Law.start w
  have aBlocks_z := Lib.hid (show szM (1048576) aBlocks = -1 by unfold szM; rw [if_pos (by omega)])
  go_enter Try.func4, Try.ntmps4
  go_wp2_with fail
  refine (szIntSS_any aBlocks_a aBlocks_p aBlocks (1048576) _ (by omega) aBlocks_r (by omega) (by omega) (L0.readsM aBlocks_h)).mono ?_
  rintro e v1 ⟨rfl, hb⟩
  rw [aBlocks_z.out]
  have L1 := L0.kept hb
  clear L0 hb
  go_wp2_with fail
  go_ret
  exact ⟨rfl, L1.below⟩

theorem walk_all (aBlocks_a : Option Addr) (aBlocks_p : Nat) (aBlocks : List (List Int)) (w : World) (aBlocks_m : aBlocks.length ≤ 9223372036854775807) (aBlocks_h : ReadsM w aBlocks_a aBlocks.length aBlocks) (aBlocks_r : ∀ r ∈ aBlocks, r.length ≤ 9223372036854775807) :
    Calls Try.prog 4 #[.slice aBlocks_a aBlocks.length aBlocks_p] w fun e w' => e = .returned (.bool true) ∧ Below w.heap.size w w' := by
  by_cases c0 : aBlocks.length + total aBlocks ≤ 1048576
  case neg => exact walk_big0 aBlocks_a aBlocks_p aBlocks w aBlocks_m aBlocks_h aBlocks_r  c0
  have hS : ∀ (w : World) (loaBlocks : Nat) (aBlocks_s : Value) (aBlocks_v : List Value), OwnM w loaBlocks aBlocks_s aBlocks_v aBlocks → Calls Try.prog 22 #[aBlocks_s] w (AnsL (rooksR aBlocks) w) := fun w loaBlocks aBlocks_s aBlocks_v OaBlocks => specRop_any aBlocks w (by omega) loaBlocks aBlocks_s aBlocks_v OaBlocks
  have hI : ∀ (w : World) (loaBlocks : Nat) (aBlocks_s : Value) (aBlocks_v : List Value), OwnM w loaBlocks aBlocks_s aBlocks_v aBlocks → Calls Try.prog 24 #[aBlocks_s] w (AnsL (rooksR aBlocks) w) := fun w loaBlocks aBlocks_s aBlocks_v OaBlocks => implRop_any aBlocks w (by omega) loaBlocks aBlocks_s aBlocks_v OaBlocks
  have hy := rooksR_len aBlocks
  generalize rooksR aBlocks = R at *
  obtain ⟨ys0, b1⟩ := R
  exact walk aBlocks_a aBlocks_p aBlocks ys0 b1 w  c0 aBlocks_h aBlocks_r hy hS hI

set_option maxRecDepth 100000 in
theorem contract (H : Type) (enc : TypeId × Value → H) (W : World) (base : Nat) (args : Array Value) (ds gs : List (DataW H)) (before : List MemPlace)
    (hval : ∀ (j : Nat) t v, Try.f4.params[j]? = some t → args[j]? = some v → Value.okWide Try.prog W .any base t v)
    (hW : DataW.Whole enc Try.prog Try.f4.params.toList Rows.fnExactRooksOfPartitionSpec.vars false W args.toList ds gs before) :
    Calls Try.prog 4 args W fun e W' => ∃ v, e = .returned v ∧ Rows.fnExactRooksOfPartitionSpec.post enc Try.prog Try.f4 false true false false W args v W' := by
  have hW' := hW
  obtain ⟨p, q, hA0, hV, rfl, hfz, hnd⟩ := hW
  have hA : DataW.TrodAll enc Try.prog W 0 (fun _ => true) true Try.f4.params.toList args.toList ds p := hA0
  rw [Try.params4] at hA hval
  obtain ⟨v0, d0, rfl, rfl, h0⟩ := trodAll_one hA
  obtain ⟨rfl, rfl⟩ := trodVars_none hV
  clear hA0
  simp only [List.append_nil] at hW'
  have hlt : ∀ x ∈ p, x.block < W.heap.size := fun x hx => by have := hW'.lt x (by simpa using hx); simpa using this
  have t0 := h0
  obtain ⟨aBlocks_a, aBlocks_n, aBlocks_p, rfl⟩ := okWide_slice Try.underlying23 (hval 0 23 v0 rfl rfl)
  obtain ⟨fu0, hf0⟩ := h0
  obtain ⟨aBlocks_m, aBlocks, aBlocks_h, aBlocks_r⟩ := readsM_of (by simpa [Value.cells] using hf0)
  obtain rfl := aBlocks_h.1
  refine (walk_all aBlocks_a aBlocks_p aBlocks W aBlocks_m aBlocks_h aBlocks_r).mono ?_
  rintro e W' ⟨rfl, hb⟩
  exact ⟨_, rfl, _, _, _, [], _, [], hW', trodAll_mk1 (shut_bool Try.underlying4 _), trodAll_mk1 (Below.trod Try.laidOut (by kernel_rfl) (of_decide_eq_true (by kernel_rfl)) t0 hb hlt), rfl, hb.frame _, fun h => by cases h⟩

set_option maxRecDepth 100000 in
theorem lifted (os : Os) (started : os.Started) (H : Type) (enc : TypeId × Value → H) :
    ReturnsInHanded {} Try.checked os 4 .any (Rows.fnExactRooksOfPartitionSpec.pre6 enc Try.prog Try.f4 Rows.fnExactRooksOfPartitionRow.domain false) (Rows.fnExactRooksOfPartitionSpec.post enc Try.prog Try.f4 false true false false) := by
  refine returnsInHanded_of_change (C := Try.checked) Try.own started (by kernel_rfl) Try.func4
    (ChangeSpec.witness6 (enc := enc) (C := Try.checked) false ⟨#[], #[.slice none 0 0], []⟩ 8 (by kernel_rfl) (by kernel_rfl) (by kernel_rfl) (by kernel_rfl)) ?_
  intro W base args ds gs before hval hW _ _
  exact contract H enc W base args ds gs before hval hW

theorem holds : Rows.FnExactRooksOfPartitionSaid :=
  OpenClaim.holds_of_wide 4 Try.f4 rfl rfl rfl rfl rfl rfl rfl ⟨rfl, rfl, rfl, rfl, rfl⟩ rfl rfl rfl rfl rfl (by kernel_rfl) Try.func4 (by kernel_rfl)
    (of_decide_eq_true (by kernel_rfl)) (by unfold Func.isWrapper; first | (rw [if_pos (by decide +kernel)]; kernel_rfl) | (rw [if_neg (by decide +kernel)]; exact ⟨rfl, rfl⟩))
    (fun os started H enc _ => lifted os started H enc)

#print axioms holds
end Go.Proofs.Ytddmommamcgelab.lRooksOfPartition
