import Derived.Test.YtdimbnkgomfojabFold4
import Derived.Test.YtdimbnkgomfojabFold5
import Derived.Test.YtdimbnkgomfojabFold14
import Derived.Test.YtdimbnkgomfojabFold30
import Derived.Deep.RegionWith
import Derived.Deep.RegionHeld3
import Derived.Deep.DeepCutAuto
namespace Go.Proofs.Ytdimbnkgomfojab.lIsCover
open Go.ChangeShapes Go.WideShapes Go.ChangeAt Go.RowKit Go.Joins

set_option maxRecDepth 100000 in
set_option maxHeartbeats 4000000 in
theorem walk (aA_r aA_c : Int) (aA_a : Option Addr) (aA_p : Nat) (aA : List Int) (aB_a : Option Addr) (aB_p : Nat) (aB : List Int) (aC_a : Option Addr) (aC_p : Nat) (aC : List Int) (b0 : Bool) (b1 : Bool) (w : World) (hfit : aA.length + aB.length + aC.length ≤ 1048576) (aA_h : Reads w aA_a aA.length aA) (aB_h : Reads w aB_a aB.length aB) (aC_h : Reads w aC_a aC.length aC) 
    (hS : ∀ (w : World) (loaA : Nat) (aA_s : Value) (loaB : Nat) (aB_s : Value) (loaC : Nat) (aC_s : Value), Own w loaA aA_s aA → Own w loaB aB_s aB → Own w loaC aC_s aC → Calls Try.prog 30 #[.agg #[.int .i64 aA_r, .int .i64 aA_c, aA_s], .agg #[aB_s, aC_s]] w fun e w' => e = .returned (.tuple #[.bool b0, .bool b1]) ∧ Below w.heap.size w w')
    (hI : ∀ (w : World) (loaA : Nat) (aA_s : Value) (loaB : Nat) (aB_s : Value) (loaC : Nat) (aC_s : Value), Own w loaA aA_s aA → Own w loaB aB_s aB → Own w loaC aC_s aC → Calls Try.prog 32 #[.agg #[.int .i64 aA_r, .int .i64 aA_c, aA_s], .agg #[aB_s, aC_s]] w fun e w' => e = .returned (.tuple #[.bool b0, .bool b1]) ∧ Below w.heap.size w w') :
    Calls Try.prog 5 #[.agg #[.int .i64 aA_r, .int .i64 aA_c, .slice aA_a aA.length aA_p], .agg #[.slice aB_a aB.length aB_p, .slice aC_a aC.length aC_p]] w fun e w' => e = .returned (.bool true) ∧ Below w.heap.size w w' := by
  have HS := Lib.hid hS; clear hS
  have HI := Lib.hid hI; clear hI
  have L0 := Law.start w
  have L1 := L0.box (.int .i64 aA_r) (.int .i64 aA_c) (.slice aA_a aA.length aA_p) 24
  clear L0 
  have L2 := L1.has [.slice aB_a aB.length aB_p, .slice aC_a aC.length aC_p] 41
  clear L1 
  simp only [World.size_alloc] at L2
  have aA_z := Lib.hid (show szN (1048576) aA.length = 1048576 - aA.length by unfold szN; rw [if_neg (by omega)])
  have aB_z := Lib.hid (show szL (1048576 - aA.length) aB.length aC.length = 1048576 - aA.length - aB.length - aC.length by
    have e : szN (1048576 - aA.length) aB.length = 1048576 - aA.length - aB.length := by unfold szN; rw [if_neg (by omega)]
    rw [szL, e, if_neg (by omega)]
    unfold szN
    rw [if_neg (by omega)])
  have aC_l : aC.length ≤ 1048576 := by omega
  have aA_l : aA.length ≤ 1048576 := by omega
  have aB_l : aB.length ≤ 1048576 := by omega
  go_enter Try.func5, Try.ntmps5
  have ⟨_, k3, k4, k5, _⟩ := L2.tl.ownBox
  go_wp2_with fail
  refine (szBoard_any aA_r aA_c aA_a aA.length aA_p (1048576) _ (by omega) (by omega) (by omega)).mono ?_
  rintro e w6 ⟨rfl, hb7⟩
  rw [aA_z.out]
  have L8 := L2.kept hb7
  clear L2 hb7 k3 k4 k5
  have ⟨k9, k10, _⟩ := L8.ownHas.two
  go_wp2_with fail
  refine (szLines_any aB_a aB.length aB_p aC_a aC.length aC_p (1048576 - aA.length) _ (by omega) (by omega) (by omega) (by omega)).mono ?_
  rintro e w12 ⟨rfl, hb13⟩
  rw [aB_z.out]
  have L14 := L8.kept hb13
  clear L8 hb13 k9 k10
  have ⟨_, k16, k17, k18, _⟩ := L14.tl.ownBox
  have ⟨k19, k20, _⟩ := L14.ownHas.two
  go_upto_region 8 with (fail)
  generalize w12 = w15 at *
  have D0 := (Law.start w15).drew
  have aA_x := Lib.hid (L14.reads aA_h)
  have aB_x := Lib.hid (L14.reads aB_h)
  have aC_x := Lib.hid (L14.reads aC_h)
  have k0_0 := cell_later D0.below k16; have k0_1 := cell_later D0.below k17; have k0_2 := cell_later D0.below k18; have k1_0 := cell_later D0.below k19; have k1_1 := cell_later D0.below k20
  go_cut [6, 7] (fun t6 t7 w' => t6 = .bool b0 ∧ t7 = .bool b1 ∧ Law w15 [] w')
  case first =>
    go_region_held3 (fun w' => w'.cell? ⟨w.heap.size, 0, none⟩ = some (.int .i64 aA_r) ∧ w'.cell? ⟨w.heap.size, 1, none⟩ = some (.int .i64 aA_c) ∧ w'.cell? ⟨w.heap.size, 2, none⟩ = some (.slice aA_a aA.length aA_p) ∧ w'.cell? ⟨w.heap.size + 1, 0, none⟩ = some (.slice aB_a aB.length aB_p) ∧ w'.cell? ⟨w.heap.size + 1, 1, none⟩ = some (.slice aC_a aC.length aC_p)) (first | (repeat' apply And.intro) <;> first | with_reducible assumption | (refine cell_later (below_new _) ?_; with_reducible assumption) | (refine cell_later (below_new _).drew ?_; with_reducible assumption) | assumption | (refine cell_later (below_new _) ?_; assumption) | (refine cell_later (below_new _).drew ?_; assumption)) ((first | (go_at_call 30; first | ((with_reducible change Calls _ _ _ wd2 _); refine (HS.out _ _ _ _ _ _ _ (D2.ownOf (s := .slice ad1 aA.length pd1) (xs := aA) (by simp)) (D2.ownOf (s := .slice ad2 aB.length pd2) (xs := aB) (by simp)) (D2.ownOf (s := .slice ad3 aC.length pd3) (xs := aC) (by simp))).mono ?_; rintro e wd3 ⟨rfl, hbD⟩; have D3 := D2.kept hbD; have i0_0 := cell_later D3.below k16; have i0_1 := cell_later D3.below k17; have i0_2 := cell_later D3.below k18; have i1_0 := cell_later D3.below k19; have i1_1 := cell_later D3.below k20)) | (go_at_call 31; first | ((with_reducible change Calls _ _ _ wd1 _); refine (toLines_any aB_a aB_p aC_a aC_p aB aC _ aB_l aC_l (aB_x.out.kept D1.below) (aC_x.out.kept D1.below)).mono ?_; rintro e wd2 ⟨_, rfl, ⟨sd2, sd3, rfl, OD, OD3, hdd⟩, hbD⟩; obtain ⟨ad2, pd2, rfl, _⟩ := OD.reads; obtain ⟨ad3, pd3, rfl, _⟩ := OD3.reads; have D2 := D1.own2 hbD OD OD3 hdd; have m2_0_0 := cell_later D2.below k16; have m2_0_1 := cell_later D2.below k17; have m2_0_2 := cell_later D2.below k18; have m2_1_0 := cell_later D2.below k19; have m2_1_1 := cell_later D2.below k20)) | (go_at_call 17; first | ((with_reducible change Calls _ _ _ (World.drew w15) _); refine (toBoard_any aA_r aA_c aA_a aA.length aA_p aA _ aA_l (aA_x.out.kept D0.below)).mono ?_; rintro e wd1 ⟨_, rfl, ⟨sd1, rfl, OD⟩, hbD⟩; obtain ⟨ad1, pd1, rfl, _⟩ := OD.reads; have D1 := D0.own hbD OD; have m1_0_0 := cell_later D1.below k16; have m1_0_1 := cell_later D1.below k17; have m1_0_2 := cell_later D1.below k18; have m1_1_0 := cell_later D1.below k19; have m1_1_1 := cell_later D1.below k20))))
    all_goals
      go_wp2_with fail
      go_meet
      exact ⟨rfl, rfl, D3.sub (by repeat (first | exact List.Sublist.refl _ | apply List.Sublist.cons_cons | apply List.Sublist.cons))⟩
  obtain ⟨rfl, rfl, L22⟩ := hcut
  generalize wc = w23 at *
  have L24 := L14.join L22
  clear L14 L22 D0 k16 k17 k18 k19 k20 k0_0 k0_1 k0_2 k1_0 k1_1 aA_x aB_x aC_x
  simp only [List.nil_append] at L24
  have ⟨_, k25, k26, k27, _⟩ := L24.tl.ownBox
  go_wp2_with fail
  refine (toBoard_any aA_r aA_c aA_a aA.length aA_p aA _ aA_l (L24.reads aA_h)).mono ?_
  rintro e w28 ⟨_, rfl, ⟨s29, rfl, O31⟩, hb30⟩
  obtain ⟨a32, p33, rfl, _⟩ := O31.reads
  have L35 := L24.own hb30 O31
  clear L24 hb30 O31 k25 k26 k27
  have L36 := L35.box (.int .i64 aA_r) (.int .i64 aA_c) (.slice a32 aA.length p33) 28
  clear L35 
  have ⟨k37, k38, _⟩ := L36.tl.tl.ownHas.two
  go_wp2_with fail
  refine (toLines_any aB_a aB_p aC_a aC_p aB aC _ aB_l aC_l (L36.reads aB_h) (L36.reads aC_h)).mono ?_
  rintro e w40 ⟨_, rfl, ⟨s41, s42, rfl, O43, O44, hd43⟩, hb42⟩
  obtain ⟨a44, p45, rfl, _⟩ := O43.reads
  obtain ⟨a46, p47, rfl, _⟩ := O44.reads
  have L47 := L36.own2 hb42 O43 O44 hd43
  clear L36 hb42 O43 O44 hd43 k37 k38
  have L48 := L47.has [.slice a44 aB.length p45, .slice a46 aC.length p47] 45
  clear L47 
  have ⟨_, k49, k50, k51, _⟩ := L48.tl.tl.tl.ownBox
  have ⟨k52, k53, _⟩ := L48.ownHas.two
  go_wp2_with fail
  refine (HI.out _ _ _ _ _ _ _ L48.tl.tl.tl.tl.ownInts L48.tl.ownInts L48.tl.tl.ownInts).mono ?_
  rintro e w55 ⟨rfl, hb56⟩
  have L58 := L48.kept hb56
  clear L48 hb56
  clear k49 k50 k51 k52 k53
  have ⟨_, k59, k60, k61, _⟩ := L58.tl.tl.tl.tl.tl.tl.ownBox
  have ⟨_, k62, k63, k64, _⟩ := L58.tl.tl.tl.ownBox
  go_upto_region 14 with (fail)
  go_cut [52] (fun t w' => t = .bool false ∧ Below w55.heap.size w55 w')
  case first =>
    have hd : Below w55.heap.size w55 w55.drew := (Below.refl _ _).drew
    have Ld := L58.kept hd
    go_region_with (first | (go_at_call 17; refine (toBoard_any aA_r aA_c aA_a aA.length aA_p aA _ aA_l (Ld.reads aA_h)).mono ?_; rintro e w65 ⟨_, rfl, ⟨s66, rfl, O67⟩, hb68⟩; obtain ⟨a69, p70, rfl, _⟩ := O67.reads; have ⟨_, q0, q1, q2, _⟩ := (Ld.kept hb68).tl.tl.tl.ownBox) | (go_at_call 20; refine (eqBoard_same _ _ aA _ _ _ _ _ aA_l (Ld.kept hb68).tl.tl.tl.tl.ownInts O67).mono ?_; rintro e w71 ⟨rfl, hb72⟩))
    all_goals (go_wp2_with fail; go_meet; exact ⟨rfl, below_on (below_on hd hb68) hb72⟩)
  obtain ⟨rfl, hb73⟩ := hcut
  have L74 := L58.kept hb73
  clear L58 hb73 k59 k60 k61 k62 k63 k64
  generalize wc = w75 at *
  have ⟨k76, k77, _⟩ := L74.tl.tl.tl.tl.tl.ownHas.two
  have ⟨k79, k80, _⟩ := L74.ownHas.two
  go_upto_region 16 with (fail)
  go_cut [57] (fun t w' => t = .bool false ∧ Below w75.heap.size w75 w')
  case first =>
    have hd : Below w75.heap.size w75 w75.drew := (Below.refl _ _).drew
    have Ld := L74.kept hd
    go_region_with (first | (go_at_call 31; refine (toLines_any aB_a aB_p aC_a aC_p aB aC _ aB_l aC_l (Ld.reads aB_h) (Ld.reads aC_h)).mono ?_; rintro e w82 ⟨_, rfl, ⟨s83, s84, rfl, O84, O85, _⟩, hb85⟩; obtain ⟨a86, p87, rfl, _⟩ := O84.reads; obtain ⟨a88, p89, rfl, _⟩ := O85.reads; have ⟨q0, q1, _⟩ := (Ld.kept hb85).ownHas.two) | (go_at_call 33; refine (eqLines_same aB aC _ _ _ _ _ _ _ _ _ aB_l aC_l (Ld.kept hb85).tl.ownInts (Ld.kept hb85).tl.tl.ownInts O84 O85).mono ?_; rintro e w88 ⟨rfl, hb89⟩))
    all_goals (go_wp2_with fail; go_meet; exact ⟨rfl, below_on (below_on hd hb85) hb89⟩)
  obtain ⟨rfl, hb90⟩ := hcut
  have L91 := L74.kept hb90
  clear L74 hb90 k76 k77 k79 k80
  generalize wc = w92 at *
  go_wp2_with fail
  go_ret
  exact ⟨rfl, L91.below⟩

set_option maxRecDepth 100000 in
set_option maxHeartbeats 800000 in
theorem walk_big0 (aA_r aA_c : Int) (aA_a : Option Addr) (aA_p : Nat) (aA : List Int) (aB_a : Option Addr) (aB_p : Nat) (aB : List Int) (aC_a : Option Addr) (aC_p : Nat) (aC : List Int) (w : World) (aA_m : aA.length ≤ 9223372036854775807) (hbig : ¬ aA.length ≤ 1048576)  :
    Calls Try.prog 5 #[.agg #[.int .i64 aA_r, .int .i64 aA_c, .slice aA_a aA.length aA_p], .agg #[.slice aB_a aB.length aB_p, .slice aC_a aC.length aC_p]] w fun e w' => e = .returned (.bool true) ∧ Below w.heap.size w w' := by
  have L0 := Law.start w
  have L1 := L0.box (.int .i64 aA_r) (.int .i64 aA_c) (.slice aA_a aA.length aA_p) 24
  have L2 := L1.has [.slice aB_a aB.length aB_p, .slice aC_a aC.length aC_p] 41
  simp only [World.size_alloc] at L2
  have aA_z := Lib.hid (show szN (1048576) aA.length = -1 by unfold szN; rw [if_pos (by omega)])
  go_enter Try.func5, Try.ntmps5
  have ⟨_, k0, k1, k2, _⟩ := L2.tl.ownBox
  go_wp2_with fail
  refine (szBoard_any aA_r aA_c aA_a aA.length aA_p (1048576) _ (by omega) (by omega) (by omega)).mono ?_
  rintro e v3 ⟨rfl, hb⟩
  rw [aA_z.out]
  have L3 := L2.kept hb
  clear L2 hb k0 k1 k2
  go_wp2_with fail
  go_ret
  exact ⟨rfl, L3.below⟩

set_option maxRecDepth 100000 in
set_option maxHeartbeats 800000 in
theorem walk_big1 (aA_r aA_c : Int) (aA_a : Option Addr) (aA_p : Nat) (aA : List Int) (aB_a : Option Addr) (aB_p : Nat) (aB : List Int) (aC_a : Option Addr) (aC_p : Nat) (aC : List Int) (w : World) (aA_m : aA.length ≤ 9223372036854775807) (aB_m : aB.length ≤ 9223372036854775807) (aC_m : aC.length ≤ 9223372036854775807) (hp : aA.length ≤ 1048576) (hbig : ¬ aA.length + aB.length + aC.length ≤ 1048576)  :
    Calls Try.prog 5 #[.agg #[.int .i64 aA_r, .int .i64 aA_c, .slice aA_a aA.length aA_p], .agg #[.slice aB_a aB.length aB_p, .slice aC_a aC.length aC_p]] w fun e w' => e = .returned (.bool true) ∧ Below w.heap.size w w' := by
  have L0 := Law.start w
  have L1 := L0.box (.int .i64 aA_r) (.int .i64 aA_c) (.slice aA_a aA.length aA_p) 24
  have L2 := L1.has [.slice aB_a aB.length aB_p, .slice aC_a aC.length aC_p] 41
  simp only [World.size_alloc] at L2
  have aA_z := Lib.hid (show szN (1048576) aA.length = 1048576 - aA.length by unfold szN; rw [if_neg (by omega)])
  have aB_z := Lib.hid (show szL (1048576 - aA.length) aB.length aC.length = -1 by
    by_cases h : aA.length + aB.length ≤ 1048576
    · have e : szN (1048576 - aA.length) aB.length = 1048576 - aA.length - aB.length := by unfold szN; rw [if_neg (by omega)]
      rw [szL, e, if_neg (by omega)]
      unfold szN
      rw [if_pos (by omega)]
    · have e : szN (1048576 - aA.length) aB.length = -1 := by unfold szN; rw [if_pos (by omega)]
      rw [szL, e, if_pos (by decide)])
  go_enter Try.func5, Try.ntmps5
  have ⟨_, k0, k1, k2, _⟩ := L2.tl.ownBox
  go_wp2_with fail
  refine (szBoard_any aA_r aA_c aA_a aA.length aA_p (1048576) _ (by omega) (by omega) (by omega)).mono ?_
  rintro e v3 ⟨rfl, hb⟩
  rw [aA_z.out]
  have L3 := L2.kept hb
  clear L2 hb k0 k1 k2
  have ⟨k0, k1, _⟩ := L3.ownHas.two
  go_wp2_with fail
  refine (szLines_any aB_a aB.length aB_p aC_a aC.length aC_p (1048576 - aA.length) _ (by omega) (by omega) (by omega) (by omega)).mono ?_
  rintro e v4 ⟨rfl, hb⟩
  rw [aB_z.out]
  have L4 := L3.kept hb
  clear L3 hb k0 k1
  go_wp2_with fail
  go_ret
  exact ⟨rfl, L4.below⟩

theorem walk_all (aA_r aA_c : Int) (aA_a : Option Addr) (aA_p : Nat) (aA : List Int) (aB_a : Option Addr) (aB_p : Nat) (aB : List Int) (aC_a : Option Addr) (aC_p : Nat) (aC : List Int) (w : World) (aA_m : aA.length ≤ 9223372036854775807) (aB_m : aB.length ≤ 9223372036854775807) (aC_m : aC.length ≤ 9223372036854775807) (aA_h : Reads w aA_a aA.length aA) (aB_h : Reads w aB_a aB.length aB) (aC_h : Reads w aC_a aC.length aC) :
    Calls Try.prog 5 #[.agg #[.int .i64 aA_r, .int .i64 aA_c, .slice aA_a aA.length aA_p], .agg #[.slice aB_a aB.length aB_p, .slice aC_a aC.length aC_p]] w fun e w' => e = .returned (.bool true) ∧ Below w.heap.size w w' := by
  by_cases c0 : aA.length ≤ 1048576
  case neg => exact walk_big0 aA_r aA_c aA_a aA_p aA aB_a aB_p aB aC_a aC_p aC w aA_m c0
  by_cases c1 : aA.length + aB.length + aC.length ≤ 1048576
  case neg => exact walk_big1 aA_r aA_c aA_a aA_p aA aB_a aB_p aB aC_a aC_p aC w aA_m aB_m aC_m c0 c1
  have hS : ∀ (w : World) (loaA : Nat) (aA_s : Value) (loaB : Nat) (aB_s : Value) (loaC : Nat) (aC_s : Value), Own w loaA aA_s aA → Own w loaB aB_s aB → Own w loaC aC_s aC → Calls Try.prog 30 #[.agg #[.int .i64 aA_r, .int .i64 aA_c, aA_s], .agg #[aB_s, aC_s]] w (AnsOO (coverR aA_r aA_c aA aB aC) w) := fun w loaA aA_s loaB aB_s loaC aC_s OaA OaB OaC => specCov_any aA_r aA_c aA aB aC w (by omega) (by omega) (by omega) loaA aA_s loaB aB_s loaC aC_s OaA OaB OaC
  have hI : ∀ (w : World) (loaA : Nat) (aA_s : Value) (loaB : Nat) (aB_s : Value) (loaC : Nat) (aC_s : Value), Own w loaA aA_s aA → Own w loaB aB_s aB → Own w loaC aC_s aC → Calls Try.prog 32 #[.agg #[.int .i64 aA_r, .int .i64 aA_c, aA_s], .agg #[aB_s, aC_s]] w (AnsOO (coverR aA_r aA_c aA aB aC) w) := fun w loaA aA_s loaB aB_s loaC aC_s OaA OaB OaC => implCov_any aA_r aA_c aA aB aC w (by omega) (by omega) (by omega) loaA aA_s loaB aB_s loaC aC_s OaA OaB OaC
  generalize coverR aA_r aA_c aA aB aC = R at *
  obtain ⟨b0, b1⟩ := R
  exact walk aA_r aA_c aA_a aA_p aA aB_a aB_p aB aC_a aC_p aC b0 b1 w c1 aA_h aB_h aC_h hS hI

set_option maxRecDepth 100000 in
theorem contract (H : Type) (enc : TypeId × Value → H) (W : World) (base : Nat) (args : Array Value) (ds gs : List (DataW H)) (before : List MemPlace)
    (hval : ∀ (j : Nat) t v, Try.f5.params[j]? = some t → args[j]? = some v → Value.okWide Try.prog W .any base t v)
    (hW : DataW.Whole enc Try.prog Try.f5.params.toList Rows.fnExactIsCoverSpec.vars false W args.toList ds gs before) :
    Calls Try.prog 5 args W fun e W' => ∃ v, e = .returned v ∧ Rows.fnExactIsCoverSpec.post enc Try.prog Try.f5 false true false false W args v W' := by
  have hW' := hW
  obtain ⟨p, q, hA0, hV, rfl, hfz, hnd⟩ := hW
  have hA : DataW.TrodAll enc Try.prog W 0 (fun _ => true) true Try.f5.params.toList args.toList ds p := hA0
  rw [Try.params5] at hA hval
  obtain ⟨v0, v1, d0, d1, p0, p1, rfl, rfl, rfl, h0, h1⟩ := trodAll_two hA
  obtain ⟨rfl, rfl⟩ := trodVars_none hV
  clear hA0
  simp only [List.append_nil] at hW'
  have hlt : ∀ x ∈ p0 ++ p1, x.block < W.heap.size := fun x hx => by have := hW'.lt x (by simpa using hx); simpa using this
  have t0 := h0
  obtain ⟨aA_r, aA_c, aA_a, aA_n, aA_p, aA, rfl, aA_m, aA_h⟩ := open_board (hval 0 24 v0 rfl rfl) h0
  obtain rfl := aA_h.1
  have t1 := h1
  obtain ⟨aB_a, aB_n, aB_p, aB, aC_a, aC_n, aC_p, aC, rfl, aB_m, aB_h, aC_m, aC_h⟩ := open_lines (hval 1 41 v1 rfl rfl) h1
  obtain rfl := aB_h.1
  obtain rfl := aC_h.1
  refine (walk_all aA_r aA_c aA_a aA_p aA aB_a aB_p aB aC_a aC_p aC W aA_m aB_m aC_m aA_h aB_h aC_h).mono ?_
  rintro e W' ⟨rfl, hb⟩
  exact ⟨_, rfl, _, _, _, [], _, [], hW', trodAll_mk1 (shut_bool Try.underlying4 _), trodAll_mk2 (Below.trod Try.laidOut (by kernel_rfl) (of_decide_eq_true (by kernel_rfl)) t0 hb (fun x hx => hlt x (by simp [hx]))) (Below.trod Try.laidOut (by kernel_rfl) (of_decide_eq_true (by kernel_rfl)) t1 hb (fun x hx => hlt x (by simp [hx]))), rfl, hb.frame _, fun h => by cases h⟩

set_option maxRecDepth 100000 in
theorem lifted (os : Os) (started : os.Started) (H : Type) (enc : TypeId × Value → H) :
    ReturnsInHanded {} Try.checked os 5 .any (Rows.fnExactIsCoverSpec.pre6 enc Try.prog Try.f5 Rows.fnExactIsCoverRow.domain false) (Rows.fnExactIsCoverSpec.post enc Try.prog Try.f5 false true false false) := by
  refine returnsInHanded_of_change (C := Try.checked) Try.own started (by kernel_rfl) Try.func5
    (ChangeSpec.witness6 (enc := enc) (C := Try.checked) false ⟨#[], #[.agg #[.int .i64 0, .int .i64 0, .slice none 0 0], .agg #[.slice none 0 0, .slice none 0 0]], []⟩ 8 (by kernel_rfl) (by kernel_rfl) (by kernel_rfl) (by kernel_rfl)) ?_
  intro W base args ds gs before hval hW _ _
  exact contract H enc W base args ds gs before hval hW

theorem holds : Rows.FnExactIsCoverSaid :=
  OpenClaim.holds_of_wide 5 Try.f5 rfl rfl rfl rfl rfl rfl rfl ⟨rfl, rfl, rfl, rfl, rfl⟩ rfl rfl rfl rfl rfl (by kernel_rfl) Try.func5 (by kernel_rfl)
    (of_decide_eq_true (by kernel_rfl)) (by unfold Func.isWrapper; first | (rw [if_pos (by decide +kernel)]; kernel_rfl) | (rw [if_neg (by decide +kernel)]; exact ⟨rfl, rfl⟩))
    (fun os started H enc _ => lifted os started H enc)

#print axioms holds
end Go.Proofs.Ytdimbnkgomfojab.lIsCover
