/- 'FnExactCountGoingOn' answers true for every input, and leaves it as it was. No condition. -/
import Derived.Test.YtmhlpaenfknofaaT2
import Derived.Test.YtmhlpaenfknofaaOpen
import Derived.Test.YtmhlpaenfknofaaUj
import Derived.Deep.RegionWith
import Derived.Deep.RegionHeld3
import Derived.Deep.DeepCutAuto
namespace Go.Proofs.Ytmhlpaenfknofaa.lCountGoingOn
open Go.ChangeShapes Go.WideShapes Go.ChangeAt Go.RowKit Go.Joins

set_option maxRecDepth 100000 in
set_option maxHeartbeats 4000000 in
theorem walk (aN : Int) (aQ_a : Option Addr) (aQ_p : Nat) (aQ : List Int) (y0 : Int) (b1 : Bool) (w : World) (aQ_f : aQ.length ≤ 1048576) (aQ_h : Reads w aQ_a aQ.length aQ) 
    (hS : ∀ (w : World) (loaQ : Nat) (aQ_s : Value), Own w loaQ aQ_s aQ → Calls Try.prog 34 #[.int .i64 aN, aQ_s] w fun e w' => e = .returned (.tuple #[.int .i64 y0, .bool b1]) ∧ Below w.heap.size w w')
    (hI : ∀ (w : World) (loaQ : Nat) (aQ_s : Value), Own w loaQ aQ_s aQ → Calls Try.prog 35 #[.int .i64 aN, aQ_s] w fun e w' => e = .returned (.tuple #[.int .i64 y0, .bool b1]) ∧ Below w.heap.size w w') :
    Calls Try.prog 9 #[.int .i64 aN, .slice aQ_a aQ.length aQ_p] w fun e w' => e = .returned (.bool true) ∧ Below w.heap.size w w' := by
  have HS := Lib.hid hS; clear hS
  have HI := Lib.hid hI; clear hI
  have L0 := Law.start w
  have aQ_l : aQ.length ≤ 1048576 := aQ_f
  go_enter Try.func9, Try.ntmps9
  go_wp2_with fail
  refine (toIntS_any aQ_a aQ.length aQ_p aQ _ aQ_l (L0.reads aQ_h)).mono ?_
  rintro e w1 ⟨s2, rfl, O4, hb3⟩
  obtain ⟨a5, p6, rfl, _⟩ := O4.reads
  have L8 := L0.own hb3 O4
  clear L0 hb3 O4
  go_wp2_with fail
  refine (HS.out _ _ _ L8.ownInts).mono ?_
  rintro e w9 ⟨rfl, hb10⟩
  have L12 := L8.kept hb10
  clear L8 hb10
  go_wp2_with fail
  refine (toIntS_any aQ_a aQ.length aQ_p aQ _ aQ_l (L12.reads aQ_h)).mono ?_
  rintro e w13 ⟨s14, rfl, O16, hb15⟩
  obtain ⟨a17, p18, rfl, _⟩ := O16.reads
  have L20 := L12.own hb15 O16
  clear L12 hb15 O16
  go_wp2_with fail
  refine (HI.out _ _ _ L20.ownInts).mono ?_
  rintro e w21 ⟨rfl, hb22⟩
  have L24 := L20.kept hb22
  clear L20 hb22
  go_wp2_with fail
  refine (toIntS_any aQ_a aQ.length aQ_p aQ _ aQ_l (L24.reads aQ_h)).mono ?_
  rintro e w25 ⟨s26, rfl, O28, hb27⟩
  obtain ⟨a29, p30, rfl, _⟩ := O28.reads
  have L32 := L24.own hb27 O28
  clear L24 hb27 O28
  go_wp2_with fail
  refine (eqIntS_same aQ _ _ _ _ _ aQ_l L32.tl.ownInts L32.ownInts).mono ?_
  rintro e w33 ⟨rfl, hb34⟩
  have L35 := L32.kept hb34
  clear L32 hb34
  go_wp2_with fail
  go_ret
  exact ⟨rfl, L35.below⟩

set_option maxRecDepth 100000 in
set_option maxHeartbeats 800000 in
theorem walk_big0 (aN : Int) (aQ_a : Option Addr) (aQ_p : Nat) (aQ : List Int) (w : World) (aQ_m : aQ.length ≤ 9223372036854775807) (hbig : ¬ aQ.length ≤ 1048576)  :
    Calls Try.prog 9 #[.int .i64 aN, .slice aQ_a aQ.length aQ_p] w fun e w' => e = .returned (.bool true) ∧ Below w.heap.size w w' := by
  have L0 := Law.start w
  have hb2 : 1048576 < aQ.length := by omega
  clear hbig
  go_enter Try.func9, Try.ntmps9
  go_wp2_with fail
  go_ret
  exact ⟨rfl, L0.below⟩

theorem walk_all (aN : Int) (aQ_a : Option Addr) (aQ_p : Nat) (aQ : List Int) (w : World) (aQ_m : aQ.length ≤ 9223372036854775807) (aQ_h : Reads w aQ_a aQ.length aQ) :
    Calls Try.prog 9 #[.int .i64 aN, .slice aQ_a aQ.length aQ_p] w fun e w' => e = .returned (.bool true) ∧ Below w.heap.size w w' := by
  by_cases c0 : aQ.length ≤ 1048576
  case neg => exact walk_big0 aN aQ_a aQ_p aQ w aQ_m  c0
  have hS : ∀ (w : World) (loaQ : Nat) (aQ_s : Value), Own w loaQ aQ_s aQ → Calls Try.prog 34 #[.int .i64 aN, aQ_s] w (AnsIO (goiR aN aQ) w) := fun w loaQ aQ_s OaQ => specGoi_any aN aQ w (by omega) loaQ aQ_s OaQ
  have hI : ∀ (w : World) (loaQ : Nat) (aQ_s : Value), Own w loaQ aQ_s aQ → Calls Try.prog 35 #[.int .i64 aN, aQ_s] w (AnsIO (goiR aN aQ) w) := fun w loaQ aQ_s OaQ => implGoi_any aN aQ w (by omega) loaQ aQ_s OaQ
  generalize goiR aN aQ = R at *
  obtain ⟨y0, b1⟩ := R
  exact walk aN aQ_a aQ_p aQ y0 b1 w c0 aQ_h  hS hI

set_option maxRecDepth 100000 in
theorem contract (H : Type) (enc : TypeId × Value → H) (W : World) (base : Nat) (args : Array Value) (ds gs : List (DataW H)) (before : List MemPlace)
    (hval : ∀ (j : Nat) t v, Try.f9.params[j]? = some t → args[j]? = some v → Value.okWide Try.prog W .any base t v)
    (hW : DataW.Whole enc Try.prog Try.f9.params.toList Rows.fnExactCountGoingOnSpec.vars false W args.toList ds gs before) :
    Calls Try.prog 9 args W fun e W' => ∃ v, e = .returned v ∧ Rows.fnExactCountGoingOnSpec.post enc Try.prog Try.f9 false true false false W args v W' := by
  have hW' := hW
  obtain ⟨p, q, hA0, hV, rfl, hfz, hnd⟩ := hW
  have hA : DataW.TrodAll enc Try.prog W 0 (fun _ => true) true Try.f9.params.toList args.toList ds p := hA0
  rw [Try.params9] at hA hval
  obtain ⟨v0, v1, d0, d1, p0, p1, rfl, rfl, rfl, h0, h1⟩ := trodAll_two hA
  obtain ⟨rfl, rfl⟩ := trodVars_none hV
  clear hA0
  simp only [List.append_nil] at hW'
  have hlt : ∀ x ∈ p0 ++ p1, x.block < W.heap.size := fun x hx => by have := hW'.lt x (by simpa using hx); simpa using this
  have t0 := h0
  obtain ⟨aN, rfl, e0, f0, _⟩ := open_int Try.underlying3 (hval 0 3 v0 rfl rfl) h0
  have t1 := h1
  obtain ⟨aQ_a, aQ_n, aQ_p, rfl⟩ := okWide_slice Try.underlying22 (hval 1 22 v1 rfl rfl)
  obtain ⟨fu1, hf1⟩ := h1
  obtain ⟨aQ_m, aQ, aQ_h⟩ := reads_of (by simpa [Value.cells] using hf1)
  obtain rfl := aQ_h.1
  refine (walk_all aN aQ_a aQ_p aQ W aQ_m aQ_h).mono ?_
  rintro e W' ⟨rfl, hb⟩
  exact ⟨_, rfl, _, _, _, [], _, [], hW', trodAll_mk1 (shut_bool Try.underlying4 _), trodAll_mk2 (Below.trod Try.laidOut (by kernel_rfl) (of_decide_eq_true (by kernel_rfl)) t0 hb (fun x hx => hlt x (by simp [hx]))) (Below.trod Try.laidOut (by kernel_rfl) (of_decide_eq_true (by kernel_rfl)) t1 hb (fun x hx => hlt x (by simp [hx]))), rfl, hb.frame _, fun h => by cases h⟩

set_option maxRecDepth 100000 in
theorem lifted (os : Os) (started : os.Started) (H : Type) (enc : TypeId × Value → H) :
    ReturnsInHanded {} Try.checked os 9 .any (Rows.fnExactCountGoingOnSpec.pre6 enc Try.prog Try.f9 Rows.fnExactCountGoingOnRow.domain false) (Rows.fnExactCountGoingOnSpec.post enc Try.prog Try.f9 false true false false) := by
  refine returnsInHanded_of_change (C := Try.checked) Try.own started (by kernel_rfl) Try.func9
    (ChangeSpec.witness6 (enc := enc) (C := Try.checked) false ⟨#[], #[.int .i64 0, .slice none 0 0], []⟩ 8 (by kernel_rfl) (by kernel_rfl) (by kernel_rfl) (by kernel_rfl)) ?_
  intro W base args ds gs before hval hW _ _
  exact contract H enc W base args ds gs before hval hW

theorem holds : Rows.FnExactCountGoingOnSaid :=
  OpenClaim.holds_of_wide 9 Try.f9 rfl rfl rfl rfl rfl rfl rfl ⟨rfl, rfl, rfl, rfl, rfl⟩ rfl rfl rfl rfl rfl (by kernel_rfl) Try.func9 (by kernel_rfl)
    (of_decide_eq_true (by kernel_rfl)) (by unfold Func.isWrapper; first | (rw [if_pos (by decide +kernel)]; kernel_rfl) | (rw [if_neg (by decide +kernel)]; exact ⟨rfl, rfl⟩))
    (fun os started H enc _ => lifted os started H enc)

#print axioms holds
end Go.Proofs.Ytmhlpaenfknofaa.lCountGoingOn
