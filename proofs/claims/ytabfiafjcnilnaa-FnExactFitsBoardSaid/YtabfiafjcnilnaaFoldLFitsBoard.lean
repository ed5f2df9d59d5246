import Derived.Test.YtabfiafjcnilnaaFold3
import Derived.Test.YtabfiafjcnilnaaFold22
import Derived.Deep.RegionWith
import Derived.Deep.RegionHeld3
import Derived.Deep.DeepCutAuto
namespace Go.Proofs.Ytabfiafjcnilnaa.lFitsBoard
open Go.ChangeShapes Go.WideShapes Go.ChangeAt Go.RowKit Go.Joins

set_option maxRecDepth 100000 in
set_option maxHeartbeats 4000000 in
theorem walk (aLengths_a : Option Addr) (aLengths_p : Nat) (aLengths : List Int) (aRows_a : Option Addr) (aRows_p : Nat) (aRows : List (List Int)) (aQ : Int) (b0 : Bool) (b1 : Bool) (w : World) (aLengths_f : aLengths.length ≤ 1048576) (hfit : aRows.length + total aRows ≤ 1048576) (aLengths_h : Reads w aLengths_a aLengths.length aLengths) (aRows_h : ReadsM w aRows_a aRows.length aRows) (aRows_r : ∀ r ∈ aRows, r.length ≤ 9223372036854775807) 
    (hS : ∀ (w : World) (loaLengths : Nat) (aLengths_s : Value) (loaRows : Nat) (aRows_s : Value) (aRows_v : List Value), Own w loaLengths aLengths_s aLengths → OwnM w loaRows aRows_s aRows_v aRows → Calls Try.prog 9 #[aLengths_s, aRows_s, .int .i64 aQ] w fun e w' => e = .returned (.tuple #[.bool b0, .bool b1]) ∧ Below w.heap.size w w')
    (hI : ∀ (w : World) (loaLengths : Nat) (aLengths_s : Value) (loaRows : Nat) (aRows_s : Value) (aRows_v : List Value), Own w loaLengths aLengths_s aLengths → OwnM w loaRows aRows_s aRows_v aRows → Calls Try.prog 12 #[aLengths_s, aRows_s, .int .i64 aQ] w fun e w' => e = .returned (.tuple #[.bool b0, .bool b1]) ∧ Below w.heap.size w w') :
    Calls Try.prog 3 #[.slice aLengths_a aLengths.length aLengths_p, .slice aRows_a aRows.length aRows_p, .int .i64 aQ] w fun e w' => e = .returned (.bool true) ∧ Below w.heap.size w w' := by
  have HS := Lib.hid hS; clear hS
  have HI := Lib.hid hI; clear hI
  have L0 := Law.start w
  have aRows_z := Lib.hid (show szM (1048576) aRows = 1048576 - aRows.length - total aRows by unfold szM; rw [if_neg (by omega)])
  have aLengths_l : aLengths.length ≤ 1048576 := aLengths_f
  have aRows_l : aRows.length ≤ 1048576 := by omega
  have aRows_tot : total aRows ≤ 1048576 := by omega
  have aRows_row : ∀ r ∈ aRows, r.length ≤ 1048576 := fun r hr => Nat.le_trans (total_le _ r hr) aRows_tot
  go_enter Try.func3, Try.ntmps3
  go_wp2_with fail
  refine (szIntSS_any aRows_a aRows_p aRows (1048576) _ (by omega) aRows_r (by omega) (by omega) (L0.readsM aRows_h)).mono ?_
  rintro e w1 ⟨rfl, hb2⟩
  rw [aRows_z.out]
  have L3 := L0.kept hb2
  clear L0 hb2
  go_wp2_with fail
  refine (toIntS_any aLengths_a aLengths.length aLengths_p aLengths _ aLengths_l (L3.reads aLengths_h)).mono ?_
  rintro e w4 ⟨s5, rfl, O7, hb6⟩
  obtain ⟨a8, p9, rfl, _⟩ := O7.reads
  have L11 := L3.own hb6 O7
  clear L3 hb6 O7
  go_wp2_with fail
  refine (toIntSS_any aRows_a aRows_p aRows _ aRows_l aRows_row (L11.readsM aRows_h)).mono ?_
  rintro e w12 ⟨s13, v18, rfl, O15, hb14⟩
  obtain ⟨a16, p17, rfl, _⟩ := O15.form
  have L20 := L11.addM hb14 O15
  clear L11 hb14 O15
  go_wp2_with fail
  refine (HS.out _ _ _ _ _ _ L20.tl.ownInts L20.ownM).mono ?_
  rintro e w21 ⟨rfl, hb22⟩
  have L24 := L20.kept hb22
  clear L20 hb22
  go_wp2_with fail
  refine (toIntS_any aLengths_a aLengths.length aLengths_p aLengths _ aLengths_l (L24.reads aLengths_h)).mono ?_
  rintro e w25 ⟨s26, rfl, O28, hb27⟩
  obtain ⟨a29, p30, rfl, _⟩ := O28.reads
  have L32 := L24.own hb27 O28
  clear L24 hb27 O28
  go_wp2_with fail
  refine (toIntSS_any aRows_a aRows_p aRows _ aRows_l aRows_row (L32.readsM aRows_h)).mono ?_
  rintro e w33 ⟨s34, v39, rfl, O36, hb35⟩
  obtain ⟨a37, p38, rfl, _⟩ := O36.form
  have L41 := L32.addM hb35 O36
  clear L32 hb35 O36
  go_wp2_with fail
  refine (HI.out _ _ _ _ _ _ L41.tl.ownInts L41.ownM).mono ?_
  rintro e w42 ⟨rfl, hb43⟩
  have L45 := L41.kept hb43
  clear L41 hb43
  go_wp2_with fail
  refine (toIntS_any aLengths_a aLengths.length aLengths_p aLengths _ aLengths_l (L45.reads aLengths_h)).mono ?_
  rintro e w46 ⟨s47, rfl, O49, hb48⟩
  obtain ⟨a50, p51, rfl, _⟩ := O49.reads
  have L53 := L45.own hb48 O49
  clear L45 hb48 O49
  go_wp2_with fail
  refine (eqIntS_same aLengths _ _ _ _ _ aLengths_l L53.tl.tl.ownInts L53.ownInts).mono ?_
  rintro e w54 ⟨rfl, hb55⟩
  have L56 := L53.kept hb55
  clear L53 hb55
  go_wp2_with fail
  refine (toIntSS_any aRows_a aRows_p aRows _ aRows_l aRows_row (L56.readsM aRows_h)).mono ?_
  rintro e w57 ⟨s58, v63, rfl, O60, hb59⟩
  obtain ⟨a61, p62, rfl, _⟩ := O60.form
  have L65 := L56.addM hb59 O60
  clear L56 hb59 O60
  go_wp2_with fail
  refine (eqIntSS_same aRows _ _ _ _ _ _ _ aRows_l aRows_row L65.tl.tl.ownM L65.ownM).mono ?_
  rintro e w66 ⟨rfl, hb67⟩
  have L68 := L65.kept hb67
  clear L65 hb67
  go_wp2_with fail
  go_ret
  exact ⟨rfl, L68.below⟩

set_option maxRecDepth 100000 in
set_option maxHeartbeats 800000 in
theorem walk_big0 (aLengths_a : Option Addr) (aLengths_p : Nat) (aLengths : List Int) (aRows_a : Option Addr) (aRows_p : Nat) (aRows : List (List Int)) (aQ : Int) (w : World) (aLengths_m : aLengths.length ≤ 9223372036854775807) (hbig : ¬ aLengths.length ≤ 1048576)  :
    Calls Try.prog 3 #[.slice aLengths_a aLengths.length aLengths_p, .slice aRows_a aRows.length aRows_p, .int .i64 aQ] w fun e w' => e = .returned (.bool true) ∧ Below w.heap.size w w' := by
  have L0 := Law.start w
  have hb2 : 1048576 < aLengths.length := by omega
  clear hbig
  go_enter Try.func3, Try.ntmps3
  go_wp2_with fail
  go_ret
  exact ⟨rfl, L0.below⟩

set_option maxRecDepth 100000 in
set_option maxHeartbeats 800000 in
theorem walk_big1 (aLengths_a : Option Addr) (aLengths_p : Nat) (aLengths : List Int) (aRows_a : Option Addr) (aRows_p : Nat) (aRows : List (List Int)) (aQ : Int) (w : World) (aLengths_m : aLengths.length ≤ 9223372036854775807) (aRows_m : aRows.length ≤ 9223372036854775807) (aRows_h : ReadsM w aRows_a aRows.length aRows) (aRows_r : ∀ r ∈ aRows, r.length ≤ 9223372036854775807) (aLengths_f : aLengths.length ≤ 1048576) (hbig : ¬ aRows.length + total aRows ≤ 1048576)  :
    Calls Try.prog 3 #[.slice aLengths_a aLengths.length aLengths_p, .slice aRows_a aRows.length aRows_p, .int .i64 aQ] w fun e w' => e = .returned (.bool true) ∧ Below w.heap.size w w' := by
  have L0 := Law.start w
  have aRows_z := Lib.hid (show szM (1048576) aRows = -1 by unfold szM; rw [if_pos (by omega)])
  go_enter Try.func3, Try.ntmps3
  go_wp2_with fail
  refine (szIntSS_any aRows_a aRows_p aRows (1048576) _ (by omega) aRows_r (by omega) (by omega) (L0.readsM aRows_h)).mono ?_
  rintro e v1 ⟨rfl, hb⟩
  rw [aRows_z.out]
  have L1 := L0.kept hb
  clear L0 hb
  go_wp2_with fail
  go_ret
  exact ⟨rfl, L1.below⟩

theorem walk_all (aLengths_a : Option Addr) (aLengths_p : Nat) (aLengths : List Int) (aRows_a : Option Addr) (aRows_p : Nat) (aRows : List (List Int)) (aQ : Int) (w : World) (aLengths_m : aLengths.length ≤ 9223372036854775807) (aRows_m : aRows.length ≤ 9223372036854775807) (aLengths_h : Reads w aLengths_a aLengths.length aLengths) (aRows_h : ReadsM w aRows_a aRows.length aRows) (aRows_r : ∀ r ∈ aRows, r.length ≤ 9223372036854775807) :
    Calls Try.prog 3 #[.slice aLengths_a aLengths.length aLengths_p, .slice aRows_a aRows.length aRows_p, .int .i64 aQ] w fun e w' => e = .returned (.bool true) ∧ Below w.heap.size w w' := by
  by_cases c0 : aLengths.length ≤ 1048576
  case neg => exact walk_big0 aLengths_a aLengths_p aLengths aRows_a aRows_p aRows aQ w aLengths_m  c0
  by_cases c1 : aRows.length + total aRows ≤ 1048576
  case neg => exact walk_big1 aLengths_a aLengths_p aLengths aRows_a aRows_p aRows aQ w aLengths_m aRows_m aRows_h aRows_r c0 c1
  have hS : ∀ (w : World) (loaLengths : Nat) (aLengths_s : Value) (loaRows : Nat) (aRows_s : Value) (aRows_v : List Value), Own w loaLengths aLengths_s aLengths → OwnM w loaRows aRows_s aRows_v aRows → Calls Try.prog 9 #[aLengths_s, aRows_s, .int .i64 aQ] w (AnsOO (fitR aLengths aRows aQ) w) := fun w loaLengths aLengths_s loaRows aRows_s aRows_v OaLengths OaRows => lawS_fits aLengths aRows aQ w (by omega) (by omega) loaLengths aLengths_s loaRows aRows_s aRows_v OaLengths OaRows
  have hI : ∀ (w : World) (loaLengths : Nat) (aLengths_s : Value) (loaRows : Nat) (aRows_s : Value) (aRows_v : List Value), Own w loaLengths aLengths_s aLengths → OwnM w loaRows aRows_s aRows_v aRows → Calls Try.prog 12 #[aLengths_s, aRows_s, .int .i64 aQ] w (AnsOO (fitR aLengths aRows aQ) w) := fun w loaLengths aLengths_s loaRows aRows_s aRows_v OaLengths OaRows => lawI_fits aLengths aRows aQ w (by omega) (by omega) loaLengths aLengths_s loaRows aRows_s aRows_v OaLengths OaRows
  generalize fitR aLengths aRows aQ = R at *
  obtain ⟨b0, b1⟩ := R
  exact walk aLengths_a aLengths_p aLengths aRows_a aRows_p aRows aQ b0 b1 w c0 c1 aLengths_h aRows_h aRows_r  hS hI

set_option maxRecDepth 100000 in
theorem contract (H : Type) (enc : TypeId × Value → H) (W : World) (base : Nat) (args : Array Value) (ds gs : List (DataW H)) (before : List MemPlace)
    (hval : ∀ (j : Nat) t v, Try.f3.params[j]? = some t → args[j]? = some v → Value.okWide Try.prog W .any base t v)
    (hW : DataW.Whole enc Try.prog Try.f3.params.toList Rows.fnExactFitsBoardSpec.vars false W args.toList ds gs before) :
    Calls Try.prog 3 args W fun e W' => ∃ v, e = .returned v ∧ Rows.fnExactFitsBoardSpec.post enc Try.prog Try.f3 false true false false W args v W' := by
  have hW' := hW
  obtain ⟨p, q, hA0, hV, rfl, hfz, hnd⟩ := hW
  have hA : DataW.TrodAll enc Try.prog W 0 (fun _ => true) true Try.f3.params.toList args.toList ds p := hA0
  rw [Try.params3] at hA hval
  obtain ⟨v0, v1, v2, d0, d1, d2, p0, p1, p2, rfl, rfl, rfl, h0, h1, h2⟩ := trodAll_three hA
  obtain ⟨rfl, rfl⟩ := trodVars_none hV
  clear hA0
  simp only [List.append_nil] at hW'
  have hlt : ∀ x ∈ p0 ++ (p1 ++ p2), x.block < W.heap.size := fun x hx => by have := hW'.lt x (by simpa using hx); simpa using this
  have t0 := h0
  obtain ⟨aLengths_a, aLengths_n, aLengths_p, rfl⟩ := okWide_slice Try.underlying22 (hval 0 22 v0 rfl rfl)
  obtain ⟨fu0, hf0⟩ := h0
  obtain ⟨aLengths_m, aLengths, aLengths_h⟩ := reads_of (by simpa [Value.cells] using hf0)
  obtain rfl := aLengths_h.1
  have t1 := h1
  obtain ⟨aRows_a, aRows_n, aRows_p, rfl⟩ := okWide_slice Try.underlying23 (hval 1 23 v1 rfl rfl)
  obtain ⟨fu1, hf1⟩ := h1
  obtain ⟨aRows_m, aRows, aRows_h, aRows_r⟩ := readsM_of (by simpa [Value.cells] using hf1)
  obtain rfl := aRows_h.1
  have t2 := h2
  obtain ⟨aQ, rfl, e2, f2, _⟩ := open_int Try.underlying3 (hval 2 3 v2 rfl rfl) h2
  refine (walk_all aLengths_a aLengths_p aLengths aRows_a aRows_p aRows aQ W aLengths_m aRows_m aLengths_h aRows_h aRows_r).mono ?_
  rintro e W' ⟨rfl, hb⟩
  exact ⟨_, rfl, _, _, _, [], _, [], hW', trodAll_mk1 (shut_bool Try.underlying4 _), trodAll_mk3 (Below.trod Try.laidOut (by kernel_rfl) (of_decide_eq_true (by kernel_rfl)) t0 hb (fun x hx => hlt x (by simp [hx]))) (Below.trod Try.laidOut (by kernel_rfl) (of_decide_eq_true (by kernel_rfl)) t1 hb (fun x hx => hlt x (by simp [hx]))) (Below.trod Try.laidOut (by kernel_rfl) (of_decide_eq_true (by kernel_rfl)) t2 hb (fun x hx => hlt x (by simp [hx]))), rfl, hb.frame _, fun h => by cases h⟩

set_option maxRecDepth 100000 in
theorem lifted (os : Os) (started : os.Started) (H : Type) (enc : TypeId × Value → H) :
    ReturnsInHanded {} Try.checked os 3 .any (Rows.fnExactFitsBoardSpec.pre6 enc Try.prog Try.f3 Rows.fnExactFitsBoardRow.domain false) (Rows.fnExactFitsBoardSpec.post enc Try.prog Try.f3 false true false false) := by
  refine returnsInHanded_of_change (C := Try.checked) Try.own started (by kernel_rfl) Try.func3
    (ChangeSpec.witness6 (enc := enc) (C := Try.checked) false ⟨#[], #[.slice none 0 0, .slice none 0 0, .int .i64 0], []⟩ 8 (by kernel_rfl) (by kernel_rfl) (by kernel_rfl) (by kernel_rfl)) ?_
  intro W base args ds gs before hval hW _ _
  exact contract H enc W base args ds gs before hval hW

theorem holds : Rows.FnExactFitsBoardSaid :=
  OpenClaim.holds_of_wide 3 Try.f3 rfl rfl rfl rfl rfl rfl rfl ⟨rfl, rfl, rfl, rfl, rfl⟩ rfl rfl rfl rfl rfl (by kernel_rfl) Try.func3 (by kernel_rfl)
    (of_decide_eq_true (by kernel_rfl)) (by unfold Func.isWrapper; first | (rw [if_pos (by decide +kernel)]; kernel_rfl) | (rw [if_neg (by decide +kernel)]; exact ⟨rfl, rfl⟩))
    (fun os started H enc _ => lifted os started H enc)

#print axioms holds
end Go.Proofs.Ytabfiafjcnilnaa.lFitsBoard
