/- 'FnExactFullBoard' answers true for every input, and leaves it as it was. No condition. -/
import Derived.Test.YtakdiiccdkjjcaaT
import Derived.Test.YtakdiiccdkjjcaaOpen
import Derived.Test.YtakdiiccdkjjcaaF
import Derived.Deep.RegionWith
import Derived.Deep.DeepCutAuto
namespace Go.Proofs.Ytakdiiccdkjjcaa.lFullBoard
open Go.ChangeShapes Go.WideShapes Go.ChangeAt Go.RowKit Go.Joins

set_option maxHeartbeats 4000000 in
theorem walk (aRows : Int) (aColumns : Int) (rr0 cc0 : Int) (ys0 : List Int) (b1 : Bool) (w : World)  (ys0_len : ys0.length ≤ 1048576)
    (hS : ∀ (w : World), Calls Try.prog 45 #[.int .i64 aRows, .int .i64 aColumns] w fun e w' => ∃ s0, e = .returned (.tuple #[.agg #[.int .i64 rr0, .int .i64 cc0, s0], .bool b1]) ∧ Own w' w.heap.size s0 ys0 ∧ Below w.heap.size w w')
    (hI : ∀ (w : World), Calls Try.prog 46 #[.int .i64 aRows, .int .i64 aColumns] w fun e w' => ∃ s0, e = .returned (.tuple #[.agg #[.int .i64 rr0, .int .i64 cc0, s0], .bool b1]) ∧ Own w' w.heap.size s0 ys0 ∧ Below w.heap.size w w') :
    Calls Try.prog 11 #[.int .i64 aRows, .int .i64 aColumns] w fun e w' => e = .returned (.bool true) ∧ Below w.heap.size w w' := by
  have HS := Lib.hid hS; clear hS
  have HI := Lib.hid hI; clear hI
  have L0 := Law.start w
  go_enter Try.func11, Try.ntmps11
  go_wp2_with fail
  refine (HS.out _  ).mono ?_
  rintro e w1 ⟨s3, rfl, O4, hb2⟩
  obtain ⟨a6, p7, rfl, _⟩ := O4.reads
  have L9 := L0.own hb2 O4
  clear L0 hb2 O4
  have L10 := L9.box (.int .i64 rr0) (.int .i64 cc0) (.slice a6 ys0.length p7) 28
  clear L9 
  go_wp2_with fail
  refine (HI.out _  ).mono ?_
  rintro e w11 ⟨s13, rfl, O14, hb12⟩
  obtain ⟨a16, p17, rfl, _⟩ := O14.reads
  have L19 := L10.own hb12 O14
  clear L10 hb12 O14
  have ⟨_, k20, k21, k22, _⟩ := L19.tl.ownBox
  have L23 := L19.box (.int .i64 rr0) (.int .i64 cc0) (.slice a16 ys0.length p17) 28
  clear L19 
  go_wp2_with fail
  refine (eqBoard_same _ _ ys0 _ _ _ _ _ ys0_len L23.tl.ownInts L23.tl.tl.tl.ownInts).mono ?_
  rintro e w24 ⟨rfl, hb25⟩
  have L26 := L23.kept hb25
  clear L23 hb25 k20 k21 k22
  have ⟨_, k27, k28, k29, _⟩ := L26.ownBox
  go_wp2_with fail
  refine (markBoard_any _ _ _ ys0 (1) _ _ ys0_len (by omega) (by omega) L26.tl.ownInts).mono ?_
  rintro e w30 ⟨rfl, O31, hg32⟩
  have L33 := Law.mark (ts := [_]) L26 hg32 O31
  simp only [List.cons_append, List.nil_append] at L33
  clear L26 hg32 O31 k27 k28 k29
  have ⟨_, k34, k35, k36, _⟩ := L33.ownBox
  go_wp2_with fail
  refine (heldBoard_any _ _ _ ys0.length (1) _ _ ys0_len (by omega) (by omega) L33.tl.ownInts).mono ?_
  rintro e w37 ⟨rfl, hb38⟩
  have L39 := L33.kept hb38
  clear L33 hb38 k34 k35 k36
  go_wp2_with fail
  refine (HI.out _  ).mono ?_
  rintro e w40 ⟨s42, rfl, O43, hb41⟩
  obtain ⟨a45, p46, rfl, _⟩ := O43.reads
  have L48 := L39.own hb41 O43
  clear L39 hb41 O43
  have ⟨_, k49, k50, k51, _⟩ := L48.tl.tl.tl.ownBox
  have L52 := L48.box (.int .i64 rr0) (.int .i64 cc0) (.slice a45 ys0.length p46) 28
  clear L48 
  go_wp2_with fail
  refine (eqBoard_same _ _ ys0 _ _ _ _ _ ys0_len L52.tl.ownInts L52.tl.tl.tl.tl.tl.ownInts).mono ?_
  rintro e w53 ⟨rfl, hb54⟩
  have L55 := L52.kept hb54
  clear L52 hb54 k49 k50 k51
  have ⟨_, k56, k57, k58, _⟩ := L55.tl.tl.ownBox
  go_wp2_with fail
  refine (heldBoard_any _ _ _ ys0.length (1) _ _ ys0_len (by omega) (by omega) L55.tl.tl.tl.ownInts).mono ?_
  rintro e w59 ⟨rfl, hb60⟩
  have L61 := L55.kept hb60
  clear L55 hb60 k56 k57 k58
  go_wp2_with fail
  go_ret
  exact ⟨rfl, L61.below⟩

theorem walk_all (aRows : Int) (aColumns : Int) (w : World)   :
    Calls Try.prog 11 #[.int .i64 aRows, .int .i64 aColumns] w fun e w' => e = .returned (.bool true) ∧ Below w.heap.size w w' := by
  have hS : ∀ (w : World), Calls Try.prog 45 #[.int .i64 aRows, .int .i64 aColumns] w (AnsB (fullB aRows aColumns) w) := fun w   => specFull_any aRows aColumns w   
  have hI : ∀ (w : World), Calls Try.prog 46 #[.int .i64 aRows, .int .i64 aColumns] w (AnsB (fullB aRows aColumns) w) := fun w   => implFull_any aRows aColumns w   
  have hy := fullB_len aRows aColumns
  generalize fullB aRows aColumns = R at *
  obtain ⟨rr0, cc0, ys0, b1⟩ := R
  exact walk aRows aColumns rr0 cc0 ys0 b1 w   hy hS hI

set_option maxRecDepth 100000 in
theorem contract (H : Type) (enc : TypeId × Value → H) (W : World) (base : Nat) (args : Array Value) (ds gs : List (DataW H)) (before : List MemPlace)
    (hval : ∀ (j : Nat) t v, Try.f11.params[j]? = some t → args[j]? = some v → Value.okWide Try.prog W .any base t v)
    (hW : DataW.Whole enc Try.prog Try.f11.params.toList Rows.fnExactFullBoardSpec.vars false W args.toList ds gs before) :
    Calls Try.prog 11 args W fun e W' => ∃ v, e = .returned v ∧ Rows.fnExactFullBoardSpec.post enc Try.prog Try.f11 false true false false W args v W' := by
  have hW' := hW
  obtain ⟨p, q, hA0, hV, rfl, hfz, hnd⟩ := hW
  have hA : DataW.TrodAll enc Try.prog W 0 (fun _ => true) true Try.f11.params.toList args.toList ds p := hA0
  rw [Try.params11] at hA hval
  obtain ⟨v0, v1, d0, d1, p0, p1, rfl, rfl, rfl, h0, h1⟩ := trodAll_two hA
  obtain ⟨rfl, rfl⟩ := trodVars_none hV
  clear hA0
  simp only [List.append_nil] at hW'
  have hlt : ∀ x ∈ p0 ++ p1, x.block < W.heap.size := fun x hx => by have := hW'.lt x (by simpa using hx); simpa using this
  have t0 := h0
  obtain ⟨aRows, rfl, e0, f0, _⟩ := open_int Try.underlying3 (hval 0 3 v0 rfl rfl) h0
  have t1 := h1
  obtain ⟨aColumns, rfl, e1, f1, _⟩ := open_int Try.underlying3 (hval 1 3 v1 rfl rfl) h1
  refine (walk_all aRows aColumns W  ).mono ?_
  rintro e W' ⟨rfl, hb⟩
  exact ⟨_, rfl, _, _, _, [], _, [], hW', trodAll_mk1 (shut_bool Try.underlying4 _), trodAll_mk2 (Below.trod Try.laidOut (by kernel_rfl) (of_decide_eq_true (by kernel_rfl)) t0 hb (fun x hx => hlt x (by simp [hx]))) (Below.trod Try.laidOut (by kernel_rfl) (of_decide_eq_true (by kernel_rfl)) t1 hb (fun x hx => hlt x (by simp [hx]))), rfl, hb.frame _, fun h => by cases h⟩

set_option maxRecDepth 100000 in
theorem lifted (os : Os) (started : os.Started) (H : Type) (enc : TypeId × Value → H) :
    ReturnsInHanded {} Try.checked os 11 .any (Rows.fnExactFullBoardSpec.pre6 enc Try.prog Try.f11 Rows.fnExactFullBoardRow.domain false) (Rows.fnExactFullBoardSpec.post enc Try.prog Try.f11 false true false false) := by
  refine returnsInHanded_of_change (C := Try.checked) Try.own started (by kernel_rfl) Try.func11
    (ChangeSpec.witness6 (enc := enc) (C := Try.checked) false ⟨#[], #[.int .i64 0, .int .i64 0], []⟩ 8 (by kernel_rfl) (by kernel_rfl) (by kernel_rfl) (by kernel_rfl)) ?_
  intro W base args ds gs before hval hW _ _
  exact contract H enc W base args ds gs before hval hW

theorem holds : Rows.FnExactFullBoardSaid :=
  OpenClaim.holds_of_wide 11 Try.f11 rfl rfl rfl rfl rfl rfl rfl ⟨rfl, rfl, rfl, rfl, rfl⟩ rfl rfl rfl rfl rfl (by kernel_rfl) Try.func11 (by kernel_rfl)
    (of_decide_eq_true (by kernel_rfl)) (by unfold Func.isWrapper; first | (rw [if_pos (by decide +kernel)]; kernel_rfl) | (rw [if_neg (by decide +kernel)]; exact ⟨rfl, rfl⟩))
    (fun os started H enc _ => lifted os started H enc)

#print axioms holds
end Go.Proofs.Ytakdiiccdkjjcaa.lFullBoard
