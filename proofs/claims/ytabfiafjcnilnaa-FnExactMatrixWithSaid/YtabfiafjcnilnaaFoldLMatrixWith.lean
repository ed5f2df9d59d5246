import Derived.Test.YtabfiafjcnilnaaFold3
import Derived.Test.YtabfiafjcnilnaaFold26
import Derived.Deep.RegionWith
import Derived.Deep.RegionHeld3
import Derived.Deep.DeepCutAuto
namespace Go.Proofs.Ytabfiafjcnilnaa.lMatrixWith
open Go.ChangeShapes Go.WideShapes Go.ChangeAt Go.RowKit Go.Joins

set_option maxRecDepth 100000 in
set_option maxHeartbeats 4000000 in
theorem walk (aLengths_a : Option Addr) (aLengths_p : Nat) (aLengths : List Int) (aQ : Int) (aNumber : Int) (zz0 : List (List Int)) (b1 : Bool) (w : World) (aLengths_f : aLengths.length ≤ 1048576) (aLengths_h : Reads w aLengths_a aLengths.length aLengths) (zz0_len : zz0.length ≤ 1048576) (zz0_tot : total zz0 ≤ 1048576) (zz0_row : ∀ r ∈ zz0, r.length ≤ 1048576)
    (hS : ∀ (w : World) (loaLengths : Nat) (aLengths_s : Value), Own w loaLengths aLengths_s aLengths → Calls Try.prog 15 #[aLengths_s, .int .i64 aQ, .int .i64 aNumber] w fun e w' => ∃ s0, ∃ v0, e = .returned (.tuple #[s0, .bool b1]) ∧ OwnM w' w.heap.size s0 v0 zz0 ∧ Below w.heap.size w w')
    (hI : ∀ (w : World) (loaLengths : Nat) (aLengths_s : Value), Own w loaLengths aLengths_s aLengths → Calls Try.prog 16 #[aLengths_s, .int .i64 aQ, .int .i64 aNumber] w fun e w' => ∃ s0, ∃ v0, e = .returned (.tuple #[s0, .bool b1]) ∧ OwnM w' w.heap.size s0 v0 zz0 ∧ Below w.heap.size w w') :
    Calls Try.prog 4 #[.slice aLengths_a aLengths.length aLengths_p, .int .i64 aQ, .int .i64 aNumber] w fun e w' => e = .returned (.bool true) ∧ Below w.heap.size w w' := by
  have HS := Lib.hid hS; clear hS
  have HI := Lib.hid hI; clear hI
  have L0 := Law.start w
  have aLengths_l : aLengths.length ≤ 1048576 := aLengths_f
  go_enter Try.func4, Try.ntmps4
  go_wp2_with fail
  refine (toIntS_any aLengths_a aLengths.length aLengths_p aLengths _ aLengths_l (L0.reads aLengths_h)).mono ?_
  rintro e w1 ⟨s2, rfl, O4, hb3⟩
  obtain ⟨a5, p6, rfl, _⟩ := O4.reads
  have L8 := L0.own hb3 O4
  clear L0 hb3 O4
  go_wp2_with fail
  refine (HS.out _ _ _ L8.ownInts).mono ?_
  rintro e w9 ⟨s11, v14, rfl, O12, hb10⟩
  obtain ⟨a15, p16, rfl, _⟩ := O12.form
  have L18 := L8.addM hb10 O12
  clear L8 hb10 O12
  go_wp2_with fail
  refine (toIntS_any aLengths_a aLengths.length aLengths_p aLengths _ aLengths_l (L18.reads aLengths_h)).mono ?_
  rintro e w19 ⟨s20, rfl, O22, hb21⟩
  obtain ⟨a23, p24, rfl, _⟩ := O22.reads
  have L26 := L18.own hb21 O22
  clear L18 hb21 O22
  go_wp2_with fail
  refine (HI.out _ _ _ L26.ownInts).mono ?_
  rintro e w27 ⟨s29, v32, rfl, O30, hb28⟩
  obtain ⟨a33, p34, rfl, _⟩ := O30.form
  have L36 := L26.addM hb28 O30
  clear L26 hb28 O30
  go_wp2_with fail
  refine (eqIntSS_same zz0 _ _ _ _ _ _ _ zz0_len zz0_row L36.ownM L36.tl.tl.ownM).mono ?_
  rintro e w37 ⟨rfl, hb38⟩
  have L39 := L36.kept hb38
  clear L36 hb38
  go_wp2_with fail
  refine (toIntS_any aLengths_a aLengths.length aLengths_p aLengths _ aLengths_l (L39.reads aLengths_h)).mono ?_
  rintro e w40 ⟨s41, rfl, O43, hb42⟩
  obtain ⟨a44, p45, rfl, _⟩ := O43.reads
  have L47 := L39.own hb42 O43
  clear L39 hb42 O43
  go_wp2_with fail
  refine (eqIntS_same aLengths _ _ _ _ _ aLengths_l L47.tl.tl.ownInts L47.ownInts).mono ?_
  rintro e w48 ⟨rfl, hb49⟩
  have L50 := L47.kept hb49
  clear L47 hb49
  go_wp2_with fail
  refine (markIntS_any _ _ aLengths (1) _ aLengths_l (by omega) (by omega) L50.tl.tl.ownInts).mono ?_
  rintro e w51 ⟨rfl, O52, hg53⟩
  have L54 := Law.mark (ts := [_, _]) L50 hg53 O52
  simp only [List.cons_append, List.nil_append] at L54
  clear L50 hg53 O52 
  go_wp2_with fail
  refine (eqIntSS_same zz0 _ _ _ _ _ _ _ zz0_len zz0_row L54.tl.ownM L54.tl.tl.tl.ownM).mono ?_
  rintro e w55 ⟨rfl, hb56⟩
  have L57 := L54.kept hb56
  clear L54 hb56
  go_wp2_with fail
  refine (markIntSS_any zz0 _ _ _ (1) _ zz0_len zz0_tot (by omega) (by omega) L57.tl.ownM).mono ?_
  rintro e w58 ⟨rfl, O59, hg60⟩
  have L61 := Law.markM (ts := [_]) L57 hg60 O59
  simp only [List.cons_append, List.nil_append] at L61
  clear L57 hg60 O59 
  go_wp2_with fail
  refine (heldIntSS_any zz0 _ _ _ (1) _ zz0_len zz0_tot (by omega) (by omega) L61.tl.ownM).mono ?_
  rintro e w62 ⟨rfl, hb63⟩
  have L64 := L61.kept hb63
  clear L61 hb63
  go_wp2_with fail
  refine (toIntS_any aLengths_a aLengths.length aLengths_p aLengths _ aLengths_l (L64.reads aLengths_h)).mono ?_
  rintro e w65 ⟨s66, rfl, O68, hb67⟩
  obtain ⟨a69, p70, rfl, _⟩ := O68.reads
  have L72 := L64.own hb67 O68
  clear L64 hb67 O68
  go_wp2_with fail
  refine (HI.out _ _ _ L72.ownInts).mono ?_
  rintro e w73 ⟨s75, v78, rfl, O76, hb74⟩
  obtain ⟨a79, p80, rfl, _⟩ := O76.form
  have L82 := L72.addM hb74 O76
  clear L72 hb74 O76
  go_wp2_with fail
  refine (eqIntSS_same zz0 _ _ _ _ _ _ _ zz0_len zz0_row L82.ownM L82.tl.tl.tl.tl.tl.ownM).mono ?_
  rintro e w83 ⟨rfl, hb84⟩
  have L85 := L82.kept hb84
  clear L82 hb84
  go_wp2_with fail
  refine (heldIntSS_any zz0 _ _ _ (1) _ zz0_len zz0_tot (by omega) (by omega) L85.tl.tl.tl.ownM).mono ?_
  rintro e w86 ⟨rfl, hb87⟩
  have L88 := L85.kept hb87
  clear L85 hb87
  go_wp2_with fail
  go_ret
  exact ⟨rfl, L88.below⟩

set_option maxRecDepth 100000 in
set_option maxHeartbeats 800000 in
theorem walk_big0 (aLengths_a : Option Addr) (aLengths_p : Nat) (aLengths : List Int) (aQ : Int) (aNumber : Int) (w : World) (aLengths_m : aLengths.length ≤ 9223372036854775807) (hbig : ¬ aLengths.length ≤ 1048576)  :
    Calls Try.prog 4 #[.slice aLengths_a aLengths.length aLengths_p, .int .i64 aQ, .int .i64 aNumber] w fun e w' => e = .returned (.bool true) ∧ Below w.heap.size w w' := by
  have L0 := Law.start w
  have hb2 : 1048576 < aLengths.length := by omega
  clear hbig
  go_enter Try.func4, Try.ntmps4
  go_wp2_with fail
  go_ret
  exact ⟨rfl, L0.below⟩

theorem walk_all (aLengths_a : Option Addr) (aLengths_p : Nat) (aLengths : List Int) (aQ : Int) (aNumber : Int) (w : World) (aLengths_m : aLengths.length ≤ 9223372036854775807) (aLengths_h : Reads w aLengths_a aLengths.length aLengths) :
    Calls Try.prog 4 #[.slice aLengths_a aLengths.length aLengths_p, .int .i64 aQ, .int .i64 aNumber] w fun e w' => e = .returned (.bool true) ∧ Below w.heap.size w w' := by
  by_cases c0 : aLengths.length ≤ 1048576
  case neg => exact walk_big0 aLengths_a aLengths_p aLengths aQ aNumber w aLengths_m  c0
  have hS : ∀ (w : World) (loaLengths : Nat) (aLengths_s : Value), Own w loaLengths aLengths_s aLengths → Calls Try.prog 15 #[aLengths_s, .int .i64 aQ, .int .i64 aNumber] w (AnsM (mwR aLengths aQ aNumber) w) := fun w loaLengths aLengths_s OaLengths => specMw_any aLengths aQ aNumber w (by omega) loaLengths aLengths_s OaLengths
  have hI : ∀ (w : World) (loaLengths : Nat) (aLengths_s : Value), Own w loaLengths aLengths_s aLengths → Calls Try.prog 16 #[aLengths_s, .int .i64 aQ, .int .i64 aNumber] w (AnsM (mwR aLengths aQ aNumber) w) := fun w loaLengths aLengths_s OaLengths => implMw_any aLengths aQ aNumber w (by omega) loaLengths aLengths_s OaLengths
  have hy := mwR_len aLengths aQ aNumber
  generalize mwR aLengths aQ aNumber = R at *
  obtain ⟨zz0, b1⟩ := R
  exact walk aLengths_a aLengths_p aLengths aQ aNumber zz0 b1 w c0 aLengths_h hy.1 hy.2 (fun r hr => Nat.le_trans (total_le _ r hr) hy.2) hS hI

set_option maxRecDepth 100000 in
theorem contract (H : Type) (enc : TypeId × Value → H) (W : World) (base : Nat) (args : Array Value) (ds gs : List (DataW H)) (before : List MemPlace)
    (hval : ∀ (j : Nat) t v, Try.f4.params[j]? = some t → args[j]? = some v → Value.okWide Try.prog W .any base t v)
    (hW : DataW.Whole enc Try.prog Try.f4.params.toList Rows.fnExactMatrixWithSpec.vars false W args.toList ds gs before) :
    Calls Try.prog 4 args W fun e W' => ∃ v, e = .returned v ∧ Rows.fnExactMatrixWithSpec.post enc Try.prog Try.f4 false true false false W args v W' := by
  have hW' := hW
  obtain ⟨p, q, hA0, hV, rfl, hfz, hnd⟩ := hW
  have hA : DataW.TrodAll enc Try.prog W 0 (fun _ => true) true Try.f4.params.toList args.toList ds p := hA0
  rw [Try.params4] at hA hval
  obtain ⟨v0, v1, v2, d0, d1, d2, p0, p1, p2, rfl, rfl, rfl, h0, h1, h2⟩ := trodAll_three hA
  obtain ⟨rfl, rfl⟩ := trodVars_none hV
  clear hA0
  simp only [List.append_nil] at hW'
  have hlt : ∀ x ∈ p0 ++ (p1 ++ p2), x.block < W.heap.size := fun x hx => by have := hW'.lt x (by simpa using hx); simpa using this
  have t0 := h0
  obtain ⟨aLengths_a, aLengths_n, aLengths_p, rfl⟩ := okWide_slice Try.underlying22 (hval 0 22 v0 rfl rfl)
  obtain ⟨fu0, hf0⟩ := h0
  obtain ⟨aLengths_m, aLengths, aLengths_h⟩ := reads_of (by simpa [Value.cells] using hf0)
  obtain rfl := aLengths_h.1
  have t1 := h1
  obtain ⟨aQ, rfl, e1, f1, _⟩ := open_int Try.underlying3 (hval 1 3 v1 rfl rfl) h1
  have t2 := h2
  obtain ⟨aNumber, rfl, e2, f2, _⟩ := open_int Try.underlying3 (hval 2 3 v2 rfl rfl) h2
  refine (walk_all aLengths_a aLengths_p aLengths aQ aNumber W aLengths_m aLengths_h).mono ?_
  rintro e W' ⟨rfl, hb⟩
  exact ⟨_, rfl, _, _, _, [], _, [], hW', trodAll_mk1 (shut_bool Try.underlying4 _), trodAll_mk3 (Below.trod Try.laidOut (by kernel_rfl) (of_decide_eq_true (by kernel_rfl)) t0 hb (fun x hx => hlt x (by simp [hx]))) (Below.trod Try.laidOut (by kernel_rfl) (of_decide_eq_true (by kernel_rfl)) t1 hb (fun x hx => hlt x (by simp [hx]))) (Below.trod Try.laidOut (by kernel_rfl) (of_decide_eq_true (by kernel_rfl)) t2 hb (fun x hx => hlt x (by simp [hx]))), rfl, hb.frame _, fun h => by cases h⟩

set_option maxRecDepth 100000 in
theorem lifted (os : Os) (started : os.Started) (H : Type) (enc : TypeId × Value → H) :
    ReturnsInHanded {} Try.checked os 4 .any (Rows.fnExactMatrixWithSpec.pre6 enc Try.prog Try.f4 Rows.fnExactMatrixWithRow.domain false) (Rows.fnExactMatrixWithSpec.post enc Try.prog Try.f4 false true false false) := by
  refine returnsInHanded_of_change (C := Try.checked) Try.own started (by kernel_rfl) Try.func4
    (ChangeSpec.witness6 (enc := enc) (C := Try.checked) false ⟨#[], #[.slice none 0 0, .int .i64 0, .int .i64 0], []⟩ 8 (by kernel_rfl) (by kernel_rfl) (by kernel_rfl) (by kernel_rfl)) ?_
  intro W base args ds gs before hval hW _ _
  exact contract H enc W base args ds gs before hval hW

theorem holds : Rows.FnExactMatrixWithSaid :=
  OpenClaim.holds_of_wide 4 Try.f4 rfl rfl rfl rfl rfl rfl rfl ⟨rfl, rfl, rfl, rfl, rfl⟩ rfl rfl rfl rfl rfl (by kernel_rfl) Try.func4 (by kernel_rfl)
    (of_decide_eq_true (by kernel_rfl)) (by unfold Func.isWrapper; first | (rw [if_pos (by decide +kernel)]; kernel_rfl) | (rw [if_neg (by decide +kernel)]; exact ⟨rfl, rfl⟩))
    (fun os started H enc _ => lifted os started H enc)

#print axioms holds
end Go.Proofs.Ytabfiafjcnilnaa.lMatrixWith
