/- 'FnExactAreAlike' answers true for every input, and leaves it as it was. No condition. -/
import Derived.Test.YtjmefcebldifaaaT2
import Derived.Test.YtjmefcebldifaaaOpen
import Derived.Test.YtjmefcebldifaaaAm
import Derived.Deep.RegionWith
import Derived.Deep.RegionHeld3
import Derived.Deep.DeepCutAuto
namespace Go.Proofs.Ytjmefcebldifaaa.lAreAlike
open Go.ChangeShapes Go.WideShapes Go.ChangeAt Go.RowKit Go.Joins

set_option maxRecDepth 100000 in
set_option maxHeartbeats 4000000 in
theorem walk (aA_r aA_c : Int) (aA_a : Option Addr) (aA_p : Nat) (aA : List Int) (aB_r aB_c : Int) (aB_a : Option Addr) (aB_p : Nat) (aB : List Int) (b0 : Bool) (b1 : Bool) (w : World) (hfit : aA.length + aB.length ≤ 1048576) (aA_h : Reads w aA_a aA.length aA) (aB_h : Reads w aB_a aB.length aB) 
    (hS : ∀ (w : World) (loaA : Nat) (aA_s : Value) (loaB : Nat) (aB_s : Value), Own w loaA aA_s aA → Own w loaB aB_s aB → Calls Try.prog 35 #[.agg #[.int .i64 aA_r, .int .i64 aA_c, aA_s], .agg #[.int .i64 aB_r, .int .i64 aB_c, aB_s]] w fun e w' => e = .returned (.tuple #[.bool b0, .bool b1]) ∧ Below w.heap.size w w')
    (hI : ∀ (w : World) (loaA : Nat) (aA_s : Value) (loaB : Nat) (aB_s : Value), Own w loaA aA_s aA → Own w loaB aB_s aB → Calls Try.prog 36 #[.agg #[.int .i64 aA_r, .int .i64 aA_c, aA_s], .agg #[.int .i64 aB_r, .int .i64 aB_c, aB_s]] w fun e w' => e = .returned (.tuple #[.bool b0, .bool b1]) ∧ Below w.heap.size w w') :
    Calls Try.prog 9 #[.agg #[.int .i64 aA_r, .int .i64 aA_c, .slice aA_a aA.length aA_p], .agg #[.int .i64 aB_r, .int .i64 aB_c, .slice aB_a aB.length aB_p]] w fun e w' => e = .returned (.bool true) ∧ Below w.heap.size w w' := by
  have HS := Lib.hid hS; clear hS
  have HI := Lib.hid hI; clear hI
  have L0 := Law.start w
  have L1 := L0.box (.int .i64 aA_r) (.int .i64 aA_c) (.slice aA_a aA.length aA_p) 24
  clear L0 
  have L2 := L1.box (.int .i64 aB_r) (.int .i64 aB_c) (.slice aB_a aB.length aB_p) 24
  clear L1 
  simp only [World.size_alloc] at L2
  have aA_z := Lib.hid (show szN (1048576) aA.length = 1048576 - aA.length by unfold szN; rw [if_neg (by omega)])
  have aB_z := Lib.hid (show szN (1048576 - aA.length) aB.length = 1048576 - aA.length - aB.length by unfold szN; rw [if_neg (by omega)])
  have aA_l : aA.length ≤ 1048576 := by omega
  have aB_l : aB.length ≤ 1048576 := by omega
  go_enter Try.func9, Try.ntmps9
  have ⟨_, k3, k4, k5, _⟩ := L2.tl.ownBox
  go_wp2_with fail
  refine (szBoard_any aA_r aA_c aA_a aA.length aA_p (1048576) _ (by omega) (by omega) (by omega)).mono ?_
  rintro e w6 ⟨rfl, hb7⟩
  rw [aA_z.out]
  have L8 := L2.kept hb7
  clear L2 hb7 k3 k4 k5
  have ⟨_, k9, k10, k11, _⟩ := L8.ownBox
  go_wp2_with fail
  refine (szBoard_any aB_r aB_c aB_a aB.length aB_p (1048576 - aA.length) _ (by omega) (by omega) (by omega)).mono ?_
  rintro e w12 ⟨rfl, hb13⟩
  rw [aB_z.out]
  have L14 := L8.kept hb13
  clear L8 hb13 k9 k10 k11
  have ⟨_, k16, k17, k18, _⟩ := L14.tl.ownBox
  have ⟨_, k19, k20, k21, _⟩ := L14.ownBox
  go_upto_region 8 with (fail)
  generalize w12 = w15 at *
  have D0 := (Law.start w15).drew
  have aA_x := Lib.hid (L14.reads aA_h)
  have aB_x := Lib.hid (L14.reads aB_h)
  have k0_0 := cell_later D0.below k16; have k0_1 := cell_later D0.below k17; have k0_2 := cell_later D0.below k18; have k1_0 := cell_later D0.below k19; have k1_1 := cell_later D0.below k20; have k1_2 := cell_later D0.below k21
  go_cut [6, 7] (fun t6 t7 w' => t6 = .bool b0 ∧ t7 = .bool b1 ∧ Law w15 [] w')
  case first =>
    go_region_held3 (fun w' => w'.cell? ⟨w.heap.size, 0, none⟩ = some (.int .i64 aA_r) ∧ w'.cell? ⟨w.heap.size, 1, none⟩ = some (.int .i64 aA_c) ∧ w'.cell? ⟨w.heap.size, 2, none⟩ = some (.slice aA_a aA.length aA_p) ∧ w'.cell? ⟨w.heap.size + 1, 0, none⟩ = some (.int .i64 aB_r) ∧ w'.cell? ⟨w.heap.size + 1, 1, none⟩ = some (.int .i64 aB_c) ∧ w'.cell? ⟨w.heap.size + 1, 2, none⟩ = some (.slice aB_a aB.length aB_p)) (first | (repeat' apply And.intro) <;> first | with_reducible assumption | (refine cell_later (below_new _) ?_; with_reducible assumption) | (refine cell_later (below_new _).drew ?_; with_reducible assumption) | assumption | (refine cell_later (below_new _) ?_; assumption) | (refine cell_later (below_new _).drew ?_; assumption)) ((first | (go_at_call 35; first | ((with_reducible change Calls _ _ _ wd2 _); refine (HS.out _ _ _ _ _ (D2.ownOf (s := .slice ad1 aA.length pd1) (xs := aA) (by simp)) (D2.ownOf (s := .slice ad2 aB.length pd2) (xs := aB) (by simp))).mono ?_; rintro e wd3 ⟨rfl, hbD⟩; have D3 := D2.kept hbD; have i0_0 := cell_later D3.below k16; have i0_1 := cell_later D3.below k17; have i0_2 := cell_later D3.below k18; have i1_0 := cell_later D3.below k19; have i1_1 := cell_later D3.below k20; have i1_2 := cell_later D3.below k21)) | (go_at_call 17; first | ((with_reducible change Calls _ _ _ wd1 _); refine (toBoard_any aB_r aB_c aB_a aB.length aB_p aB _ aB_l (aB_x.out.kept D1.below)).mono ?_; rintro e wd2 ⟨_, rfl, ⟨sd2, rfl, OD⟩, hbD⟩; obtain ⟨ad2, pd2, rfl, _⟩ := OD.reads; have D2 := D1.own hbD OD; have m2_0_0 := cell_later D2.below k16; have m2_0_1 := cell_later D2.below k17; have m2_0_2 := cell_later D2.below k18; have m2_1_0 := cell_later D2.below k19; have m2_1_1 := cell_later D2.below k20; have m2_1_2 := cell_later D2.below k21)) | (go_at_call 17; first | ((with_reducible change Calls _ _ _ (World.drew w15) _); refine (toBoard_any aA_r aA_c aA_a aA.length aA_p aA _ aA_l (aA_x.out.kept D0.below)).mono ?_; rintro e wd1 ⟨_, rfl, ⟨sd1, rfl, OD⟩, hbD⟩; obtain ⟨ad1, pd1, rfl, _⟩ := OD.reads; have D1 := D0.own hbD OD; have m1_0_0 := cell_later D1.below k16; have m1_0_1 := cell_later D1.below k17; have m1_0_2 := cell_later D1.below k18; have m1_1_0 := cell_later D1.below k19; have m1_1_1 := cell_later D1.below k20; have m1_1_2 := cell_later D1.below k21))))
    all_goals
      go_wp2_with fail
      go_meet
      exact ⟨rfl, rfl, D3.sub (by repeat (first | exact List.Sublist.refl _ | apply List.Sublist.cons_cons | apply List.Sublist.cons))⟩
  obtain ⟨rfl, rfl, L22⟩ := hcut
  generalize wc = w23 at *
  have L24 := L14.join L22
  clear L14 L22 D0 k16 k17 k18 k19 k20 k21 k0_0 k0_1 k0_2 k1_0 k1_1 k1_2 aA_x aB_x
  simp only [List.nil_append] at L24
  have ⟨_, k25, k26, k27, _⟩ := L24.tl.ownBox
  go_wp2_with fail
  refine (toBoard_any aA_r aA_c aA_a aA.length aA_p aA _ aA_l (L24.reads aA_h)).mono ?_
  rintro e w28 ⟨_, rfl, ⟨s29, rfl, O31⟩, hb30⟩
  obtain ⟨a32, p33, rfl, _⟩ := O31.reads
  have L35 := L24.own hb30 O31
  clear L24 hb30 O31 k25 k26 k27
  have L36 := L35.box (.int .i64 aA_r) (.int .i64 aA_c) (.slice a32 aA.length p33) 28
  clear L35 
  have ⟨_, k37, k38, k39, _⟩ := L36.tl.tl.ownBox
  go_wp2_with fail
  refine (toBoard_any aB_r aB_c aB_a aB.length aB_p aB _ aB_l (L36.reads aB_h)).mono ?_
  rintro e w40 ⟨_, rfl, ⟨s41, rfl, O43⟩, hb42⟩
  obtain ⟨a44, p45, rfl, _⟩ := O43.reads
  have L47 := L36.own hb42 O43
  clear L36 hb42 O43 k37 k38 k39
  have L48 := L47.box (.int .i64 aB_r) (.int .i64 aB_c) (.slice a44 aB.length p45) 28
  clear L47 
  have ⟨_, k49, k50, k51, _⟩ := L48.tl.tl.ownBox
  have ⟨_, k52, k53, k54, _⟩ := L48.ownBox
  go_wp2_with fail
  refine (HI.out _ _ _ _ _ L48.tl.tl.tl.ownInts L48.tl.ownInts).mono ?_
  rintro e w55 ⟨rfl, hb56⟩
  have L58 := L48.kept hb56
  clear L48 hb56
  clear k49 k50 k51 k52 k53 k54
  have ⟨_, k59, k60, k61, _⟩ := L58.tl.tl.tl.tl.tl.ownBox
  have ⟨_, k62, k63, k64, _⟩ := L58.tl.tl.ownBox
  go_upto_region 14 with (fail)
  go_cut [52] (fun t w' => t = .bool false ∧ Below w55.heap.size w55 w')
  case first =>
    have hd : Below w55.heap.size w55 w55.drew := (Below.refl _ _).drew
    have Ld := L58.kept hd
    go_region_with (first | (go_at_call 17; refine (toBoard_any aA_r aA_c aA_a aA.length aA_p aA _ aA_l (Ld.reads aA_h)).mono ?_; rintro e w65 ⟨_, rfl, ⟨s66, rfl, O67⟩, hb68⟩; obtain ⟨a69, p70, rfl, _⟩ := O67.reads; have ⟨_, q0, q1, q2, _⟩ := (Ld.kept hb68).tl.tl.ownBox) | (go_at_call 20; refine (eqBoard_same _ _ aA _ _ _ _ _ aA_l (Ld.kept hb68).tl.tl.tl.ownInts O67).mono ?_; rintro e w71 ⟨rfl, hb72⟩))
    all_goals (go_wp2_with fail; go_meet; exact ⟨rfl, below_on (below_on hd hb68) hb72⟩)
  obtain ⟨rfl, hb73⟩ := hcut
  have L74 := L58.kept hb73
  clear L58 hb73 k59 k60 k61 k62 k63 k64
  generalize wc = w75 at *
  have ⟨_, k76, k77, k78, _⟩ := L74.tl.tl.tl.tl.ownBox
  have ⟨_, k79, k80, k81, _⟩ := L74.ownBox
  go_upto_region 16 with (fail)
  go_cut [57] (fun t w' => t = .bool false ∧ Below w75.heap.size w75 w')
  case first =>
    have hd : Below w75.heap.size w75 w75.drew := (Below.refl _ _).drew
    have Ld := L74.kept hd
    go_region_with (first | (go_at_call 17; refine (toBoard_any aB_r aB_c aB_a aB.length aB_p aB _ aB_l (Ld.reads aB_h)).mono ?_; rintro e w82 ⟨_, rfl, ⟨s83, rfl, O84⟩, hb85⟩; obtain ⟨a86, p87, rfl, _⟩ := O84.reads; have ⟨_, q0, q1, q2, _⟩ := (Ld.kept hb85).ownBox) | (go_at_call 20; refine (eqBoard_same _ _ aB _ _ _ _ _ aB_l (Ld.kept hb85).tl.ownInts O84).mono ?_; rintro e w88 ⟨rfl, hb89⟩))
    all_goals (go_wp2_with fail; go_meet; exact ⟨rfl, below_on (below_on hd hb85) hb89⟩)
  obtain ⟨rfl, hb90⟩ := hcut
  have L91 := L74.kept hb90
  clear L74 hb90 k76 k77 k78 k79 k80 k81
  generalize wc = w92 at *
  go_wp2_with fail
  go_ret
  exact ⟨rfl, L91.below⟩

set_option maxRecDepth 100000 in
set_option maxHeartbeats 800000 in
theorem walk_big0 (aA_r aA_c : Int) (aA_a : Option Addr) (aA_p : Nat) (aA : List Int) (aB_r aB_c : Int) (aB_a : Option Addr) (aB_p : Nat) (aB : List Int) (w : World) (aA_m : aA.length ≤ 9223372036854775807) (hbig : ¬ aA.length ≤ 1048576)  :
    Calls Try.prog 9 #[.agg #[.int .i64 aA_r, .int .i64 aA_c, .slice aA_a aA.length aA_p], .agg #[.int .i64 aB_r, .int .i64 aB_c, .slice aB_a aB.length aB_p]] w fun e w' => e = .returned (.bool true) ∧ Below w.heap.size w w' := by
  have L0 := Law.start w
  have L1 := L0.box (.int .i64 aA_r) (.int .i64 aA_c) (.slice aA_a aA.length aA_p) 24
  have L2 := L1.box (.int .i64 aB_r) (.int .i64 aB_c) (.slice aB_a aB.length aB_p) 24
  simp only [World.size_alloc] at L2
  have aA_z := Lib.hid (show szN (1048576) aA.length = -1 by unfold szN; rw [if_pos (by omega)])
  go_enter Try.func9, Try.ntmps9
  have ⟨_, k0, k1, k2, _⟩ := L2.tl.ownBox
  go_wp2_with fail
  refine (szBoard_any aA_r aA_c aA_a aA.length aA_p (1048576) _ (by omega) (by omega) (by omega)).mono ?_
  rintro e v3 ⟨rfl, hb⟩
  rw [aA_z.out]
  have L3 := L2.kept hb
  clear L2 hb k0 k1 k2
  go_wp2_with fail
  go_ret
  exact ⟨rfl, L3.below⟩

set_option maxRecDepth 100000 in
set_option maxHeartbeats 800000 in
theorem walk_big1 (aA_r aA_c : Int) (aA_a : Option Addr) (aA_p : Nat) (aA : List Int) (aB_r aB_c : Int) (aB_a : Option Addr) (aB_p : Nat) (aB : List Int) (w : World) (aA_m : aA.length ≤ 9223372036854775807) (aB_m : aB.length ≤ 9223372036854775807) (hp : aA.length ≤ 1048576) (hbig : ¬ aA.length + aB.length ≤ 1048576)  :
    Calls Try.prog 9 #[.agg #[.int .i64 aA_r, .int .i64 aA_c, .slice aA_a aA.length aA_p], .agg #[.int .i64 aB_r, .int .i64 aB_c, .slice aB_a aB.length aB_p]] w fun e w' => e = .returned (.bool true) ∧ Below w.heap.size w w' := by
  have L0 := Law.start w
  have L1 := L0.box (.int .i64 aA_r) (.int .i64 aA_c) (.slice aA_a aA.length aA_p) 24
  have L2 := L1.box (.int .i64 aB_r) (.int .i64 aB_c) (.slice aB_a aB.length aB_p) 24
  simp only [World.size_alloc] at L2
  have aA_z := Lib.hid (show szN (1048576) aA.length = 1048576 - aA.length by unfold szN; rw [if_neg (by omega)])
  have aB_z := Lib.hid (show szN (1048576 - aA.length) aB.length = -1 by unfold szN; rw [if_pos (by omega)])
  go_enter Try.func9, Try.ntmps9
  have ⟨_, k0, k1, k2, _⟩ := L2.tl.ownBox
  go_wp2_with fail
  refine (szBoard_any aA_r aA_c aA_a aA.length aA_p (1048576) _ (by omega) (by omega) (by omega)).mono ?_
  rintro e v3 ⟨rfl, hb⟩
  rw [aA_z.out]
  have L3 := L2.kept hb
  clear L2 hb k0 k1 k2
  have ⟨_, k0, k1, k2, _⟩ := L3.ownBox
  go_wp2_with fail
  refine (szBoard_any aB_r aB_c aB_a aB.length aB_p (1048576 - aA.length) _ (by omega) (by omega) (by omega)).mono ?_
  rintro e v4 ⟨rfl, hb⟩
  rw [aB_z.out]
  have L4 := L3.kept hb
  clear L3 hb k0 k1 k2
  go_wp2_with fail
  go_ret
  exact ⟨rfl, L4.below⟩

theorem walk_all (aA_r aA_c : Int) (aA_a : Option Addr) (aA_p : Nat) (aA : List Int) (aB_r aB_c : Int) (aB_a : Option Addr) (aB_p : Nat) (aB : List Int) (w : World) (aA_m : aA.length ≤ 9223372036854775807) (aB_m : aB.length ≤ 9223372036854775807) (aA_h : Reads w aA_a aA.length aA) (aB_h : Reads w aB_a aB.length aB) :
    Calls Try.prog 9 #[.agg #[.int .i64 aA_r, .int .i64 aA_c, .slice aA_a aA.length aA_p], .agg #[.int .i64 aB_r, .int .i64 aB_c, .slice aB_a aB.length aB_p]] w fun e w' => e = .returned (.bool true) ∧ Below w.heap.size w w' := by
  by_cases c0 : aA.length ≤ 1048576
  case neg => exact walk_big0 aA_r aA_c aA_a aA_p aA aB_r aB_c aB_a aB_p aB w aA_m  c0
  by_cases c1 : aA.length + aB.length ≤ 1048576
  case neg => exact walk_big1 aA_r aA_c aA_a aA_p aA aB_r aB_c aB_a aB_p aB w aA_m aB_m  c0 c1
  have hS : ∀ (w : World) (loaA : Nat) (aA_s : Value) (loaB : Nat) (aB_s : Value), Own w loaA aA_s aA → Own w loaB aB_s aB → Calls Try.prog 35 #[.agg #[.int .i64 aA_r, .int .i64 aA_c, aA_s], .agg #[.int .i64 aB_r, .int .i64 aB_c, aB_s]] w (AnsOO (alikeB aA_r aA_c aA aB_r aB_c aB) w) := fun w loaA aA_s loaB aB_s OaA OaB => specAlike_any aA_r aA_c aA aB_r aB_c aB w (by omega) (by omega) loaA aA_s loaB aB_s OaA OaB
  have hI : ∀ (w : World) (loaA : Nat) (aA_s : Value) (loaB : Nat) (aB_s : Value), Own w loaA aA_s aA → Own w loaB aB_s aB → Calls Try.prog 36 #[.agg #[.int .i64 aA_r, .int .i64 aA_c, aA_s], .agg #[.int .i64 aB_r, .int .i64 aB_c, aB_s]] w (AnsOO (alikeB aA_r aA_c aA aB_r aB_c aB) w) := fun w loaA aA_s loaB aB_s OaA OaB => implAlike_any aA_r aA_c aA aB_r aB_c aB w (by omega) (by omega) loaA aA_s loaB aB_s OaA OaB
  generalize alikeB aA_r aA_c aA aB_r aB_c aB = R at *
  obtain ⟨b0, b1⟩ := R
  exact walk aA_r aA_c aA_a aA_p aA aB_r aB_c aB_a aB_p aB b0 b1 w  c1 aA_h aB_h  hS hI

set_option maxRecDepth 100000 in
theorem contract (H : Type) (enc : TypeId × Value → H) (W : World) (base : Nat) (args : Array Value) (ds gs : List (DataW H)) (before : List MemPlace)
    (hval : ∀ (j : Nat) t v, Try.f9.params[j]? = some t → args[j]? = some v → Value.okWide Try.prog W .any base t v)
    (hW : DataW.Whole enc Try.prog Try.f9.params.toList Rows.fnExactAreAlikeSpec.vars false W args.toList ds gs before) :
    Calls Try.prog 9 args W fun e W' => ∃ v, e = .returned v ∧ Rows.fnExactAreAlikeSpec.post enc Try.prog Try.f9 false true false false W args v W' := by
  have hW' := hW
  obtain ⟨p, q, hA0, hV, rfl, hfz, hnd⟩ := hW
  have hA : DataW.TrodAll enc Try.prog W 0 (fun _ => true) true Try.f9.params.toList args.toList ds p := hA0
  rw [Try.params9] at hA hval
  obtain ⟨v0, v1, d0, d1, p0, p1, rfl, rfl, rfl, h0, h1⟩ := trodAll_two hA
  obtain ⟨rfl, rfl⟩ := trodVars_none hV
  clear hA0
  simp only [List.append_nil] at hW'
  have hlt : ∀ x ∈ p0 ++ p1, x.block < W.heap.size := fun x hx => by have := hW'.lt x (by simpa using hx); simpa using this
  have t0 := h0
  obtain ⟨aA_r, aA_c, aA_a, aA_n, aA_p, aA, rfl, aA_m, aA_h⟩ := open_board (hval 0 24 v0 rfl rfl) h0
  obtain rfl := aA_h.1
  have t1 := h1
  obtain ⟨aB_r, aB_c, aB_a, aB_n, aB_p, aB, rfl, aB_m, aB_h⟩ := open_board (hval 1 24 v1 rfl rfl) h1
  obtain rfl := aB_h.1
  refine (walk_all aA_r aA_c aA_a aA_p aA aB_r aB_c aB_a aB_p aB W aA_m aB_m aA_h aB_h).mono ?_
  rintro e W' ⟨rfl, hb⟩
  exact ⟨_, rfl, _, _, _, [], _, [], hW', trodAll_mk1 (shut_bool Try.underlying4 _), trodAll_mk2 (Below.trod Try.laidOut (by kernel_rfl) (of_decide_eq_true (by kernel_rfl)) t0 hb (fun x hx => hlt x (by simp [hx]))) (Below.trod Try.laidOut (by kernel_rfl) (of_decide_eq_true (by kernel_rfl)) t1 hb (fun x hx => hlt x (by simp [hx]))), rfl, hb.frame _, fun h => by cases h⟩

set_option maxRecDepth 100000 in
theorem lifted (os : Os) (started : os.Started) (H : Type) (enc : TypeId × Value → H) :
    ReturnsInHanded {} Try.checked os 9 .any (Rows.fnExactAreAlikeSpec.pre6 enc Try.prog Try.f9 Rows.fnExactAreAlikeRow.domain false) (Rows.fnExactAreAlikeSpec.post enc Try.prog Try.f9 false true false false) := by
  refine returnsInHanded_of_change (C := Try.checked) Try.own started (by kernel_rfl) Try.func9
    (ChangeSpec.witness6 (enc := enc) (C := Try.checked) false ⟨#[], #[.agg #[.int .i64 0, .int .i64 0, .slice none 0 0], .agg #[.int .i64 0, .int .i64 0, .slice none 0 0]], []⟩ 8 (by kernel_rfl) (by kernel_rfl) (by kernel_rfl) (by kernel_rfl)) ?_
  intro W base args ds gs before hval hW _ _
  exact contract H enc W base args ds gs before hval hW

theorem holds : Rows.FnExactAreAlikeSaid :=
  OpenClaim.holds_of_wide 9 Try.f9 rfl rfl rfl rfl rfl rfl rfl ⟨rfl, rfl, rfl, rfl, rfl⟩ rfl rfl rfl rfl rfl (by kernel_rfl) Try.func9 (by kernel_rfl)
    (of_decide_eq_true (by kernel_rfl)) (by unfold Func.isWrapper; first | (rw [if_pos (by decide +kernel)]; kernel_rfl) | (rw [if_neg (by decide +kernel)]; exact ⟨rfl, rfl⟩))
    (fun os started H enc _ => lifted os started H enc)

#print axioms holds
end Go.Proofs.Ytjmefcebldifaaa.lAreAlike
