/- 'FnExactIsBoard' answers true for every input, and leaves it as it was. No condition. -/
import Derived.Test.YtncbdmeagfadfaaS
import Derived.Test.YtncbdmeagfadfaaOpen
import Derived.Deep.RegionWith
namespace Go.Proofs.Ytncbdmeagfadfaa.lIsBoard
open Go.ChangeShapes Go.WideShapes Go.ChangeAt Go.RowKit Go.Joins

set_option maxHeartbeats 800000 in
theorem walk_big (r c : Int) (a : Option Addr) (cap : Nat) (zs : List Int) (w : World) (hl : zs.length ≤ 9223372036854775807) (h : ¬ zs.length ≤ 1048576) (hr : Reads w a zs.length zs) :
    Calls Try.prog 3 #[.agg #[.int .i64 r, .int .i64 c, .slice a zs.length cap]] w fun e w' => e = .returned (.bool true) ∧ Below w.heap.size w w' := by
  have hs0 := St.start w r c a cap zs hr
  have hz := Lib.hid (show szN 1048576 zs.length = -1 by unfold szN; rw [if_pos (by omega)])
  go_enter Try.func3, Try.ntmps3
  go_wp2_with (go_at_call 15; refine (szBoard_any r c a zs.length cap _ _ hl (by omega) (by omega)).mono ?_; rintro e w1 ⟨rfl, hb⟩; rw [hz.out])
  go_ret
  exact ⟨rfl, below_on hs0.below hb⟩

set_option maxHeartbeats 800000 in
theorem walk (r c : Int) (a : Option Addr) (cap : Nat) (zs : List Int) (w : World) (h : zs.length ≤ 1048576) (hr : Reads w a zs.length zs) :
    Calls Try.prog 3 #[.agg #[.int .i64 r, .int .i64 c, .slice a zs.length cap]] w fun e w' => e = .returned (.bool true) ∧ Below w.heap.size w w' := by
  have S0 := St.start w r c a cap zs hr
  have hz := Lib.hid (show szN 1048576 zs.length = 1048576 - zs.length by unfold szN; rw [if_neg (by omega)])
  go_enter Try.func3, Try.ntmps3
  go_wp2_with fail
  refine (szBoard_any r c a zs.length cap _ _ (by omega) (by omega) (by omega)).mono ?_
  rintro e w1 ⟨rfl, hb⟩
  rw [hz.out]
  have S1 := S0.kept hb
  clear S0 hb
  obtain ⟨_, k0, k1, k2⟩ := S1.box
  go_wp2_with fail
  refine (toBoard_any r c a zs.length cap zs _ h S1.reads).mono ?_
  rintro e w2 ⟨v2, rfl, ⟨s2, rfl, O2⟩, hb⟩
  have S2 := S1.kept hb
  clear S1 hb k0 k1 k2
  obtain ⟨a2, cap2, rfl, R2⟩ := O2.reads
  go_wp2_with fail
  refine (specIsBoard_any r c a2 cap2 zs _ h R2).mono ?_
  rintro e w3 ⟨rfl, hb⟩
  have S3 := S2.kept hb
  clear S2 hb O2 R2
  obtain ⟨_, k0, k1, k2⟩ := S3.box
  go_wp2_with fail
  refine (toBoard_any r c a zs.length cap zs _ h S3.reads).mono ?_
  rintro e w4 ⟨v4, rfl, ⟨s4, rfl, O4⟩, hb⟩
  have S4 := S3.kept hb
  clear S3 hb k0 k1 k2
  obtain ⟨a4, cap4, rfl, R4⟩ := O4.reads
  go_wp2_with fail
  have hb := below_new (w := w4) (.cells #[.int .i64 r, .int .i64 c, .slice a4 zs.length cap4] 27)
  have S5 := S4.kept hb
  have X5 := Box.new w4 (.int .i64 r) (.int .i64 c) (.slice a4 zs.length cap4) 27
  have O5 := O4.kept hb
  have R5 := R4.kept hb
  clear S4 O4 R4 hb
  refine (implIsBoard_any r c a4 cap4 zs _ h R5).mono ?_
  rintro e w6 ⟨rfl, hb⟩
  have S6 := S5.kept hb
  have X6 := X5.kept hb
  have O6 := O5.kept hb
  clear S5 X5 O5 R5 hb
  obtain ⟨_, k0, k1, k2⟩ := S6.box
  have ⟨_, m0, m1, m2⟩ := X6
  go_wp2
  have hd := (below_drewN (Below.refl w6.heap.size w6) 1)
  go_region_with (first
    | (go_at_call 17; refine (toBoard_any r c a zs.length cap zs _ h (S6.reads.kept hd)).mono ?_; rintro e w7 ⟨v7, rfl, ⟨s7, rfl, O7⟩, hb⟩; obtain ⟨a7, cap7, rfl, R7⟩ := O7.reads; obtain ⟨_, q0, q1, q2⟩ := (X6.kept hd).kept hb)
    | (go_at_call 19; refine (eqBoard_same r c zs _ _ _ _ _ h ((O6.kept hd).kept hb) O7).mono ?_; rintro e w8 ⟨rfl, hb8⟩))
  all_goals go_wp2
  all_goals go_ret
  all_goals exact ⟨rfl, below_on (below_on (below_on S6.below hd) hb) hb8⟩

theorem contract (H : Type) (enc : TypeId × Value → H) (W : World) (base : Nat) (args : Array Value) (ds gs : List (DataW H)) (before : List MemPlace)
    (hval : ∀ (j : Nat) t v, Try.f3.params[j]? = some t → args[j]? = some v → Value.okWide Try.prog W .any base t v)
    (hW : DataW.Whole enc Try.prog Try.f3.params.toList Rows.fnExactIsBoardSpec.vars false W args.toList ds gs before) :
    Calls Try.prog 3 args W fun e W' => ∃ v, e = .returned v ∧ Rows.fnExactIsBoardSpec.post enc Try.prog Try.f3 false true false false W args v W' := by
  have hW' := hW
  obtain ⟨p, q, hA0, hV, rfl, hfz, hnd⟩ := hW
  have hA : DataW.TrodAll enc Try.prog W 0 (fun _ => true) true Try.f3.params.toList args.toList ds p := hA0
  rw [Try.params3] at hA hval
  obtain ⟨v0, d0, rfl, rfl, h0⟩ := trodAll_one hA
  obtain ⟨rfl, rfl⟩ := trodVars_none hV
  obtain ⟨r, c, a, len, cap, zs, rfl, hl, hr⟩ := open_board (hval 0 24 v0 rfl rfl) h0
  clear hA0
  simp only [List.append_nil] at hW'
  have hlt : ∀ x ∈ p, x.block < W.heap.size := fun x hx => by simpa using hW'.lt x hx
  obtain rfl := hr.1
  have fin : ∀ (e : Ending) (W' : World), (e = .returned (.bool true) ∧ Below W.heap.size W W') → ∃ v, e = .returned v ∧ Rows.fnExactIsBoardSpec.post enc Try.prog Try.f3 false true false false W #[.agg #[.int .i64 r, .int .i64 c, .slice a zs.length cap]] v W' := by
    rintro e W' ⟨rfl, hb⟩
    exact ⟨_, rfl, _, _, _, [], p, [], hW', trodAll_mk1 (shut_bool Try.underlying4 _), trodAll_mk1 (Below.trod Try.laidOut (by kernel_rfl) (of_decide_eq_true (by kernel_rfl)) h0 hb hlt), rfl, hb.frame _, fun h => by cases h⟩
  by_cases hbig : zs.length ≤ 1048576
  · exact (walk r c a cap zs W hbig hr).mono fin
  · exact (walk_big r c a cap zs W hl hbig hr).mono fin

set_option maxRecDepth 100000 in
theorem lifted (os : Os) (started : os.Started) (H : Type) (enc : TypeId × Value → H) :
    ReturnsInHanded {} Try.checked os 3 .any (Rows.fnExactIsBoardSpec.pre6 enc Try.prog Try.f3 Rows.fnExactIsBoardRow.domain false) (Rows.fnExactIsBoardSpec.post enc Try.prog Try.f3 false true false false) := by
  refine returnsInHanded_of_change (C := Try.checked) Try.own started (by kernel_rfl) Try.func3
    (ChangeSpec.witness6 (enc := enc) (C := Try.checked) false ⟨#[], #[.agg #[.int .i64 0, .int .i64 0, .slice none 0 0]], []⟩ 8 (by kernel_rfl) (by kernel_rfl) (by kernel_rfl) (by kernel_rfl)) ?_
  intro W base args ds gs before hval hW _ _
  exact contract H enc W base args ds gs before hval hW

theorem holds : Rows.FnExactIsBoardSaid :=
  OpenClaim.holds_of_wide 3 Try.f3 rfl rfl rfl rfl rfl rfl rfl ⟨rfl, rfl, rfl, rfl, rfl⟩ rfl rfl rfl rfl rfl (by kernel_rfl) Try.func3 (by kernel_rfl)
    (of_decide_eq_true (by kernel_rfl)) (by unfold Func.isWrapper; first | (rw [if_pos (by decide +kernel)]; kernel_rfl) | (rw [if_neg (by decide +kernel)]; exact ⟨rfl, rfl⟩))
    (fun os started H enc _ => lifted os started H enc)

#print axioms holds
end Go.Proofs.Ytncbdmeagfadfaa.lIsBoard
