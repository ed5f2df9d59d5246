/- 'FnExactLeastQueens' answers true for every input, and leaves it as it was. No condition. -/
import Derived.Test.YtmhlpaenfknofaaT2
import Derived.Test.YtmhlpaenfknofaaOpen
import Derived.Test.YtmhlpaenfknofaaUq
import Derived.Deep.RegionWith
import Derived.Deep.RegionHeld3
import Derived.Deep.DeepCutAuto
namespace Go.Proofs.Ytmhlpaenfknofaa.lLeastQueens
open Go.ChangeShapes Go.WideShapes Go.ChangeAt Go.RowKit Go.Joins

set_option maxRecDepth 100000 in
set_option maxHeartbeats 4000000 in
theorem walk (aQ_a : Option Addr) (aQ_p : Nat) (aQ : List Int) (ys0 : List Int) (b1 : Bool) (w : World) (aQ_f : aQ.length ≤ 1048576) (aQ_h : Reads w aQ_a aQ.length aQ) (ys0_len : ys0.length ≤ 1048576)
    (hS : ∀ (w : World) (loaQ : Nat) (aQ_s : Value), Own w loaQ aQ_s aQ → Calls Try.prog 44 #[aQ_s] w fun e w' => ∃ s0, e = .returned (.tuple #[s0, .bool b1]) ∧ Own w' w.heap.size s0 ys0 ∧ Below w.heap.size w w')
    (hI : ∀ (w : World) (loaQ : Nat) (aQ_s : Value), Own w loaQ aQ_s aQ → Calls Try.prog 45 #[aQ_s] w fun e w' => ∃ s0, e = .returned (.tuple #[s0, .bool b1]) ∧ Own w' w.heap.size s0 ys0 ∧ Below w.heap.size w w') :
    Calls Try.prog 14 #[.slice aQ_a aQ.length aQ_p] w fun e w' => e = .returned (.bool true) ∧ Below w.heap.size w w' := by
  have HS := Lib.hid hS; clear hS
  have HI := Lib.hid hI; clear hI
  have L0 := Law.start w
  have aQ_l : aQ.length ≤ 1048576 := aQ_f
  go_enter Try.func14, Try.ntmps14
  go_wp2_with fail
  refine (toIntS_any aQ_a aQ.length aQ_p aQ _ aQ_l (L0.reads aQ_h)).mono ?_
  rintro e w1 ⟨s2, rfl, O4, hb3⟩
  obtain ⟨a5, p6, rfl, _⟩ := O4.reads
  have L8 := L0.own hb3 O4
  clear L0 hb3 O4
  go_wp2_with fail
  refine (HS.out _ _ _ L8.ownInts).mono ?_
  rintro e w9 ⟨s11, rfl, O12, hb10⟩
  obtain ⟨a14, p15, rfl, _⟩ := O12.reads
  have L17 := L8.own hb10 O12
  clear L8 hb10 O12
  go_wp2_with fail
  refine (toIntS_any aQ_a aQ.length aQ_p aQ _ aQ_l (L17.reads aQ_h)).mono ?_
  rintro e w18 ⟨s19, rfl, O21, hb20⟩
  obtain ⟨a22, p23, rfl, _⟩ := O21.reads
  have L25 := L17.own hb20 O21
  clear L17 hb20 O21
  go_wp2_with fail
  refine (HI.out _ _ _ L25.ownInts).mono ?_
  rintro e w26 ⟨s28, rfl, O29, hb27⟩
  obtain ⟨a31, p32, rfl, _⟩ := O29.reads
  have L34 := L25.own hb27 O29
  clear L25 hb27 O29
  go_wp2_with fail
  refine (eqIntS_same ys0 _ _ _ _ _ ys0_len L34.ownInts L34.tl.tl.ownInts).mono ?_
  rintro e w35 ⟨rfl, hb36⟩
  have L37 := L34.kept hb36
  clear L34 hb36
  go_wp2_with fail
  refine (toIntS_any aQ_a aQ.length aQ_p aQ _ aQ_l (L37.reads aQ_h)).mono ?_
  rintro e w38 ⟨s39, rfl, O41, hb40⟩
  obtain ⟨a42, p43, rfl, _⟩ := O41.reads
  have L45 := L37.own hb40 O41
  clear L37 hb40 O41
  go_wp2_with fail
  refine (eqIntS_same aQ _ _ _ _ _ aQ_l L45.tl.tl.ownInts L45.ownInts).mono ?_
  rintro e w46 ⟨rfl, hb47⟩
  have L48 := L45.kept hb47
  clear L45 hb47
  go_wp2_with fail
  refine (markIntS_any _ _ aQ (1) _ aQ_l (by omega) (by omega) L48.tl.tl.ownInts).mono ?_
  rintro e w49 ⟨rfl, O50, hg51⟩
  have L52 := Law.mark (ts := [_, _]) L48 hg51 O50
  simp only [List.cons_append, List.nil_append] at L52
  clear L48 hg51 O50 
  go_wp2_with fail
  refine (eqIntS_same ys0 _ _ _ _ _ ys0_len L52.tl.ownInts L52.tl.tl.tl.ownInts).mono ?_
  rintro e w53 ⟨rfl, hb54⟩
  have L55 := L52.kept hb54
  clear L52 hb54
  go_wp2_with fail
  refine (markIntS_any _ _ ys0 (1) _ ys0_len (by omega) (by omega) L55.tl.ownInts).mono ?_
  rintro e w56 ⟨rfl, O57, hg58⟩
  have L59 := Law.mark (ts := [_]) L55 hg58 O57
  simp only [List.cons_append, List.nil_append] at L59
  clear L55 hg58 O57 
  go_wp2_with fail
  refine (heldIntS_below _ _ ys0.length (1) _ ys0_len (by omega) (by omega) L59.tl.ownInts).mono ?_
  rintro e w60 ⟨rfl, hb61⟩
  have L62 := L59.kept hb61
  clear L59 hb61
  go_wp2_with fail
  refine (toIntS_any aQ_a aQ.length aQ_p aQ _ aQ_l (L62.reads aQ_h)).mono ?_
  rintro e w63 ⟨s64, rfl, O66, hb65⟩
  obtain ⟨a67, p68, rfl, _⟩ := O66.reads
  have L70 := L62.own hb65 O66
  clear L62 hb65 O66
  go_wp2_with fail
  refine (HI.out _ _ _ L70.ownInts).mono ?_
  rintro e w71 ⟨s73, rfl, O74, hb72⟩
  obtain ⟨a76, p77, rfl, _⟩ := O74.reads
  have L79 := L70.own hb72 O74
  clear L70 hb72 O74
  go_wp2_with fail
  refine (eqIntS_same ys0 _ _ _ _ _ ys0_len L79.ownInts L79.tl.tl.tl.tl.tl.ownInts).mono ?_
  rintro e w80 ⟨rfl, hb81⟩
  have L82 := L79.kept hb81
  clear L79 hb81
  go_wp2_with fail
  refine (heldIntS_below _ _ ys0.length (1) _ ys0_len (by omega) (by omega) L82.tl.tl.tl.ownInts).mono ?_
  rintro e w83 ⟨rfl, hb84⟩
  have L85 := L82.kept hb84
  clear L82 hb84
  go_wp2_with fail
  go_ret
  exact ⟨rfl, L85.below⟩

set_option maxRecDepth 100000 in
set_option maxHeartbeats 800000 in
theorem walk_big0 (aQ_a : Option Addr) (aQ_p : Nat) (aQ : List Int) (w : World) (aQ_m : aQ.length ≤ 9223372036854775807) (hbig : ¬ aQ.length ≤ 1048576)  :
    Calls Try.prog 14 #[.slice aQ_a aQ.length aQ_p] w fun e w' => e = .returned (.bool true) ∧ Below w.heap.size w w' := by
  have L0 := Law.start w
  have hb2 : 1048576 < aQ.length := by omega
  clear hbig
  go_enter Try.func14, Try.ntmps14
  go_wp2_with fail
  go_ret
  exact ⟨rfl, L0.below⟩

theorem walk_all (aQ_a : Option Addr) (aQ_p : Nat) (aQ : List Int) (w : World) (aQ_m : aQ.length ≤ 9223372036854775807) (aQ_h : Reads w aQ_a aQ.length aQ) :
    Calls Try.prog 14 #[.slice aQ_a aQ.length aQ_p] w fun e w' => e = .returned (.bool true) ∧ Below w.heap.size w w' := by
  by_cases c0 : aQ.length ≤ 1048576
  case neg => exact walk_big0 aQ_a aQ_p aQ w aQ_m  c0
  have hS : ∀ (w : World) (loaQ : Nat) (aQ_s : Value), Own w loaQ aQ_s aQ → Calls Try.prog 44 #[aQ_s] w (AnsL (leaR aQ) w) := fun w loaQ aQ_s OaQ => specLea_any aQ w (by omega) loaQ aQ_s OaQ
  have hI : ∀ (w : World) (loaQ : Nat) (aQ_s : Value), Own w loaQ aQ_s aQ → Calls Try.prog 45 #[aQ_s] w (AnsL (leaR aQ) w) := fun w loaQ aQ_s OaQ => implLea_any aQ w (by omega) loaQ aQ_s OaQ
  have hy := leaR_len aQ
  generalize leaR aQ = R at *
  obtain ⟨ys0, b1⟩ := R
  exact walk aQ_a aQ_p aQ ys0 b1 w c0 aQ_h hy hS hI

set_option maxRecDepth 100000 in
theorem contract (H : Type) (enc : TypeId × Value → H) (W : World) (base : Nat) (args : Array Value) (ds gs : List (DataW H)) (before : List MemPlace)
    (hval : ∀ (j : Nat) t v, Try.f14.params[j]? = some t → args[j]? = some v → Value.okWide Try.prog W .any base t v)
    (hW : DataW.Whole enc Try.prog Try.f14.params.toList Rows.fnExactLeastQueensSpec.vars false W args.toList ds gs before) :
    Calls Try.prog 14 args W fun e W' => ∃ v, e = .returned v ∧ Rows.fnExactLeastQueensSpec.post enc Try.prog Try.f14 false true false false W args v W' := by
  have hW' := hW
  obtain ⟨p, q, hA0, hV, rfl, hfz, hnd⟩ := hW
  have hA : DataW.TrodAll enc Try.prog W 0 (fun _ => true) true Try.f14.params.toList args.toList ds p := hA0
  rw [Try.params14] at hA hval
  obtain ⟨v0, d0, rfl, rfl, h0⟩ := trodAll_one hA
  obtain ⟨rfl, rfl⟩ := trodVars_none hV
  clear hA0
  simp only [List.append_nil] at hW'
  have hlt : ∀ x ∈ p, x.block < W.heap.size := fun x hx => by have := hW'.lt x (by simpa using hx); simpa using this
  have t0 := h0
  obtain ⟨aQ_a, aQ_n, aQ_p, rfl⟩ := okWide_slice Try.underlying22 (hval 0 22 v0 rfl rfl)
  obtain ⟨fu0, hf0⟩ := h0
  obtain ⟨aQ_m, aQ, aQ_h⟩ := reads_of (by simpa [Value.cells] using hf0)
  obtain rfl := aQ_h.1
  refine (walk_all aQ_a aQ_p aQ W aQ_m aQ_h).mono ?_
  rintro e W' ⟨rfl, hb⟩
  exact ⟨_, rfl, _, _, _, [], _, [], hW', trodAll_mk1 (shut_bool Try.underlying4 _), trodAll_mk1 (Below.trod Try.laidOut (by kernel_rfl) (of_decide_eq_true (by kernel_rfl)) t0 hb hlt), rfl, hb.frame _, fun h => by cases h⟩

set_option maxRecDepth 100000 in
theorem lifted (os : Os) (started : os.Started) (H : Type) (enc : TypeId × Value → H) :
    ReturnsInHanded {} Try.checked os 14 .any (Rows.fnExactLeastQueensSpec.pre6 enc Try.prog Try.f14 Rows.fnExactLeastQueensRow.domain false) (Rows.fnExactLeastQueensSpec.post enc Try.prog Try.f14 false true false false) := by
  refine returnsInHanded_of_change (C := Try.checked) Try.own started (by kernel_rfl) Try.func14
    (ChangeSpec.witness6 (enc := enc) (C := Try.checked) false ⟨#[], #[.slice none 0 0], []⟩ 8 (by kernel_rfl) (by kernel_rfl) (by kernel_rfl) (by kernel_rfl)) ?_
  intro W base args ds gs before hval hW _ _
  exact contract H enc W base args ds gs before hval hW

theorem holds : Rows.FnExactLeastQueensSaid :=
  OpenClaim.holds_of_wide 14 Try.f14 rfl rfl rfl rfl rfl rfl rfl ⟨rfl, rfl, rfl, rfl, rfl⟩ rfl rfl rfl rfl rfl (by kernel_rfl) Try.func14 (by kernel_rfl)
    (of_decide_eq_true (by kernel_rfl)) (by unfold Func.isWrapper; first | (rw [if_pos (by decide +kernel)]; kernel_rfl) | (rw [if_neg (by decide +kernel)]; exact ⟨rfl, rfl⟩))
    (fun os started H enc _ => lifted os started H enc)

#print axioms holds
end Go.Proofs.Ytmhlpaenfknofaa.lLeastQueens
