/- 'FnExactFullBoard' answers true for every input, and leaves it as it was. No condition. -/
import Derived.Test.YtncbdmeagfadfaaF
import Derived.Test.YtncbdmeagfadfaaOpen
namespace Go.Proofs.Ytncbdmeagfadfaa.lFullBoard
open Go.ChangeShapes Go.WideShapes Go.ChangeAt Go.RowKit Go.Joins

set_option maxHeartbeats 1600000 in
theorem walk (r c rr cc : Int) (ys : List Int) (ok : Bool) (w : World) (hy : ys.length ≤ 1048576)
    (hS : ∀ w : World, Calls Try.prog 20 #[.int .i64 r, .int .i64 c] w fun e w' => ∃ s, e = .returned (.tuple #[.agg #[.int .i64 rr, .int .i64 cc, s], .bool ok]) ∧ Own w' w.heap.size s ys ∧ Below w.heap.size w w')
    (hI : ∀ w : World, Calls Try.prog 21 #[.int .i64 r, .int .i64 c] w fun e w' => ∃ s, e = .returned (.tuple #[.agg #[.int .i64 rr, .int .i64 cc, s], .bool ok]) ∧ Own w' w.heap.size s ys ∧ Below w.heap.size w w') :
    Calls Try.prog 4 #[.int .i64 r, .int .i64 c] w fun e w' => e = .returned (.bool true) ∧ Below w.heap.size w w' := by
  have HS := Lib.hid hS; clear hS
  have HI := Lib.hid hI; clear hI
  have E0 := Env.start w
  go_enter Try.func4, Try.ntmps4
  go_wp2_with fail
  refine (HS.out _).mono ?_
  rintro e w1 ⟨s1, rfl, hO, hb⟩
  obtain ⟨a1, p1, hs, _⟩ := hO.reads
  subst hs
  have E1 := (E0.own hb hO).box (.int .i64 rr) (.int .i64 cc) (.slice a1 ys.length p1) 27
  clear E0 hO hb
  go_wp2_with fail
  refine (HI.out _).mono ?_
  rintro e w2 ⟨s2, rfl, hO, hb⟩
  obtain ⟨a2, p2, hs, _⟩ := hO.reads
  subst hs
  have E2 := (E1.own hb hO)
  have ⟨_, k0, k1, k2, _⟩ := E2.b1
  have E3 := E2.box (.int .i64 rr) (.int .i64 cc) (.slice a2 ys.length p2) 27
  clear E1 E2 hO hb
  go_wp2_with fail
  refine (eqBoard_same rr cc ys _ _ _ _ _ hy E3.o1 E3.ot.o1).mono ?_
  rintro e w3 ⟨rfl, hb⟩
  have E4 := E3.kept hb
  clear E3 hb k0 k1 k2
  have ⟨_, k0, k1, k2, _⟩ := E4.b1
  have ⟨_, m0, m1, m2, _⟩ := E4.bt.b1
  go_wp2_with fail
  refine (markBoard_any rr cc _ ys 1 _ _ hy (by omega) (by omega) E4.o1).mono ?_
  rintro e w4 ⟨rfl, hO, hg⟩
  have E5 := E4.mark (os := []) hg hO
  rw [List.nil_append] at E5
  clear E4 hO hg k0 k1 k2 m0 m1 m2
  have ⟨_, k0, k1, k2, _⟩ := E5.b1
  go_wp2_with fail
  refine (heldBoard_any rr cc _ ys.length 1 _ _ hy (by omega) (by omega) E5.o1).mono ?_
  rintro e w5 ⟨rfl, hb⟩
  have E6 := E5.kept hb
  clear E5 hb k0 k1 k2
  go_wp2_with fail
  refine (HI.out _).mono ?_
  rintro e w6 ⟨s3, rfl, hO, hb⟩
  obtain ⟨a3, p3, hs, _⟩ := hO.reads
  subst hs
  have E7 := E6.own hb hO
  have ⟨_, k0, k1, k2, _⟩ := E7.bt.b1
  have E8 := E7.box (.int .i64 rr) (.int .i64 cc) (.slice a3 ys.length p3) 27
  clear E6 E7 hO hb
  go_wp2_with fail
  refine (eqBoard_same rr cc ys _ _ _ _ _ hy E8.o1 E8.ot.ot.o1).mono ?_
  rintro e w7 ⟨rfl, hb⟩
  have E9 := E8.kept hb
  clear E8 hb k0 k1 k2
  have ⟨_, k0, k1, k2, _⟩ := E9.bt.b1
  go_wp2_with fail
  refine (heldBoard_any rr cc _ ys.length 1 _ _ hy (by omega) (by omega) E9.ot.o1).mono ?_
  rintro e w8 ⟨rfl, hb⟩
  have E10 := E9.kept hb
  clear E9 hb k0 k1 k2
  go_wp2_with fail
  go_ret
  exact ⟨rfl, E10.below⟩

theorem fullB_len (r c : Int) : (fullB r c).xs.length ≤ 1048576 := by
  unfold fullB
  split
  · rename_i h
    rw [Bool.and_eq_true, inB_iff] at h
    simp; omega
  · simp [BR.zero]

theorem walk_all (r c : Int) (w : World) : Calls Try.prog 4 #[.int .i64 r, .int .i64 c] w fun e w' => e = .returned (.bool true) ∧ Below w.heap.size w w' := by
  have hS := specFull_any r c
  have hI := implFull_any r c
  have hy := fullB_len r c
  generalize fullB r c = R at *
  obtain ⟨rr, cc, ys, ok⟩ := R
  exact walk r c rr cc ys ok w hy hS hI

theorem contract (H : Type) (enc : TypeId × Value → H) (W : World) (base : Nat) (args : Array Value) (ds gs : List (DataW H)) (before : List MemPlace)
    (hval : ∀ (j : Nat) t v, Try.f4.params[j]? = some t → args[j]? = some v → Value.okWide Try.prog W .any base t v)
    (hW : DataW.Whole enc Try.prog Try.f4.params.toList Rows.fnExactFullBoardSpec.vars false W args.toList ds gs before) :
    Calls Try.prog 4 args W fun e W' => ∃ v, e = .returned v ∧ Rows.fnExactFullBoardSpec.post enc Try.prog Try.f4 false true false false W args v W' := by
  have hW' := hW
  obtain ⟨p, q, hA0, hV, rfl, hfz, hnd⟩ := hW
  have hA : DataW.TrodAll enc Try.prog W 0 (fun _ => true) true Try.f4.params.toList args.toList ds p := hA0
  rw [Try.params4] at hA hval
  obtain ⟨v0, v1, d0, d1, p0, p1, rfl, rfl, rfl, h0, h1⟩ := trodAll_two hA
  obtain ⟨rfl, rfl⟩ := trodVars_none hV
  have t0 := h0
  have t1 := h1
  obtain ⟨r, rfl, rfl, rfl, _⟩ := open_int Try.underlying3 (hval 0 3 v0 rfl rfl) h0
  obtain ⟨c, rfl, rfl, rfl, _⟩ := open_int Try.underlying3 (hval 1 3 v1 rfl rfl) h1
  clear hA0
  simp only [List.append_nil] at hW'
  have hlt : ∀ x ∈ ([] : List MemPlace), x.block < W.heap.size := fun x hx => by cases hx
  refine (walk_all r c W).mono ?_
  rintro e W' ⟨rfl, hb⟩
  exact ⟨_, rfl, _, _, _, [], _, [], hW', trodAll_mk1 (shut_bool Try.underlying4 _), trodAll_mk2 (Below.trod Try.laidOut (by kernel_rfl) (of_decide_eq_true (by kernel_rfl)) t0 hb hlt) (Below.trod Try.laidOut (by kernel_rfl) (of_decide_eq_true (by kernel_rfl)) t1 hb hlt), rfl, hb.frame _, fun h => by cases h⟩

set_option maxRecDepth 100000 in
theorem lifted (os : Os) (started : os.Started) (H : Type) (enc : TypeId × Value → H) :
    ReturnsInHanded {} Try.checked os 4 .any (Rows.fnExactFullBoardSpec.pre6 enc Try.prog Try.f4 Rows.fnExactFullBoardRow.domain false) (Rows.fnExactFullBoardSpec.post enc Try.prog Try.f4 false true false false) := by
  refine returnsInHanded_of_change (C := Try.checked) Try.own started (by kernel_rfl) Try.func4
    (ChangeSpec.witness6 (enc := enc) (C := Try.checked) false ⟨#[], #[.int .i64 0, .int .i64 0], []⟩ 8 (by kernel_rfl) (by kernel_rfl) (by kernel_rfl) (by kernel_rfl)) ?_
  intro W base args ds gs before hval hW _ _
  exact contract H enc W base args ds gs before hval hW

theorem holds : Rows.FnExactFullBoardSaid :=
  OpenClaim.holds_of_wide 4 Try.f4 rfl rfl rfl rfl rfl rfl rfl ⟨rfl, rfl, rfl, rfl, rfl⟩ rfl rfl rfl rfl rfl (by kernel_rfl) Try.func4 (by kernel_rfl)
    (of_decide_eq_true (by kernel_rfl)) (by unfold Func.isWrapper; first | (rw [if_pos (by decide +kernel)]; kernel_rfl) | (rw [if_neg (by decide +kernel)]; exact ⟨rfl, rfl⟩))
    (fun os started H enc _ => lifted os started H enc)

#print axioms holds
end Go.Proofs.Ytncbdmeagfadfaa.lFullBoard
