/- 'FnExactStackBoards' answers true for every input, and leaves it as it was. No condition. -/
import Derived.Test.YtncbdmeagfadfabT2
import Derived.Test.YtncbdmeagfadfabOpen
import Derived.Test.YtncbdmeagfadfabY2
import Derived.Deep.RegionWith
import Derived.Deep.RegionHeld3
import Derived.Deep.DeepCutAuto
namespace Go.Proofs.Ytncbdmeagfadfab.lStackBoards
open Go.ChangeShapes Go.WideShapes Go.ChangeAt Go.RowKit Go.Joins

set_option maxRecDepth 100000 in
set_option maxHeartbeats 4000000 in
theorem walk (aA_r aA_c : Int) (aA_a : Option Addr) (aA_p : Nat) (aA : List Int) (aB_r aB_c : Int) (aB_a : Option Addr) (aB_p : Nat) (aB : List Int) (rr0 cc0 : Int) (ys0 : List Int) (b1 : Bool) (w : World) (hfit : aA.length + aB.length ≤ 1048576) (aA_h : Reads w aA_a aA.length aA) (aB_h : Reads w aB_a aB.length aB) (ys0_len : ys0.length ≤ 1048576)
    (hS : ∀ (w : World) (loaA : Nat) (aA_s : Value) (loaB : Nat) (aB_s : Value), Own w loaA aA_s aA → Own w loaB aB_s aB → Calls Try.prog 21 #[.agg #[.int .i64 aA_r, .int .i64 aA_c, aA_s], .agg #[.int .i64 aB_r, .int .i64 aB_c, aB_s]] w fun e w' => ∃ s0, e = .returned (.tuple #[.agg #[.int .i64 rr0, .int .i64 cc0, s0], .bool b1]) ∧ Own w' w.heap.size s0 ys0 ∧ Below w.heap.size w w')
    (hI : ∀ (w : World) (loaA : Nat) (aA_s : Value) (loaB : Nat) (aB_s : Value), Own w loaA aA_s aA → Own w loaB aB_s aB → Calls Try.prog 22 #[.agg #[.int .i64 aA_r, .int .i64 aA_c, aA_s], .agg #[.int .i64 aB_r, .int .i64 aB_c, aB_s]] w fun e w' => ∃ s0, e = .returned (.tuple #[.agg #[.int .i64 rr0, .int .i64 cc0, s0], .bool b1]) ∧ Own w' w.heap.size s0 ys0 ∧ Below w.heap.size w w') :
    Calls Try.prog 6 #[.agg #[.int .i64 aA_r, .int .i64 aA_c, .slice aA_a aA.length aA_p], .agg #[.int .i64 aB_r, .int .i64 aB_c, .slice aB_a aB.length aB_p]] w fun e w' => e = .returned (.bool true) ∧ Below w.heap.size w w' := by
  have HS := Lib.hid hS; clear hS
  have HI := Lib.hid hI; clear hI
  have L0 := Law.start w
  have L1 := L0.box (.int .i64 aA_r) (.int .i64 aA_c) (.slice aA_a aA.length aA_p) 24
  clear L0 
  have L2 := L1.box (.int .i64 aB_r) (.int .i64 aB_c) (.slice aB_a aB.length aB_p) 24
  clear L1 
  simp only [World.size_alloc] at L2
  have aA_z := Lib.hid (show szN (1048576) aA.length = 1048576 - aA.length by unfold szN; rw [if_neg (by omega)])
  have aB_z := Lib.hid (show szN (1048576 - aA.length) aB.length = 1048576 - aA.length - aB.length by unfold szN; rw [if_neg (by omega)])
  have aA_l : aA.length ≤ 1048576 := by omega
  have aB_l : aB.length ≤ 1048576 := by omega
  go_enter Try.func6, Try.ntmps6
  have ⟨_, k3, k4, k5, _⟩ := L2.tl.ownBox
  go_wp2_with fail
  refine (szBoard_any aA_r aA_c aA_a aA.length aA_p (1048576) _ (by omega) (by omega) (by omega)).mono ?_
  rintro e w6 ⟨rfl, hb7⟩
  rw [aA_z.out]
  have L8 := L2.kept hb7
  clear L2 hb7 k3 k4 k5
  have ⟨_, k9, k10, k11, _⟩ := L8.ownBox
  go_wp2_with fail
  refine (szBoard_any aB_r aB_c aB_a aB.length aB_p (1048576 - aA.length) _ (by omega) (by omega) (by omega)).mono ?_
  rintro e w12 ⟨rfl, hb13⟩
  rw [aB_z.out]
  have L14 := L8.kept hb13
  clear L8 hb13 k9 k10 k11
  have ⟨_, k16, k17, k18, _⟩ := L14.tl.ownBox
  have ⟨_, k19, k20, k21, _⟩ := L14.ownBox
  go_upto_region 8 with (fail)
  generalize w12 = w15 at *
  have D0 := (Law.start w15).drew
  have aA_x := Lib.hid (L14.reads aA_h)
  have aB_x := Lib.hid (L14.reads aB_h)
  have k0_0 := cell_later D0.below k16; have k0_1 := cell_later D0.below k17; have k0_2 := cell_later D0.below k18; have k1_0 := cell_later D0.below k19; have k1_1 := cell_later D0.below k20; have k1_2 := cell_later D0.below k21
  go_cut [6, 7] (fun t6 t7 w' => ∃ nn aa pp, t6 = .pointer (some ⟨nn, 0, none⟩) ∧ t7 = .bool b1 ∧ Law w15 [tOwn (.slice aa ys0.length pp) ys0, tBox nn (.int .i64 rr0) (.int .i64 cc0) (.slice aa ys0.length pp)] w')
  case first =>
    go_region_held3 (fun w' => w'.cell? ⟨w.heap.size, 0, none⟩ = some (.int .i64 aA_r) ∧ w'.cell? ⟨w.heap.size, 1, none⟩ = some (.int .i64 aA_c) ∧ w'.cell? ⟨w.heap.size, 2, none⟩ = some (.slice aA_a aA.length aA_p) ∧ w'.cell? ⟨w.heap.size + 1, 0, none⟩ = some (.int .i64 aB_r) ∧ w'.cell? ⟨w.heap.size + 1, 1, none⟩ = some (.int .i64 aB_c) ∧ w'.cell? ⟨w.heap.size + 1, 2, none⟩ = some (.slice aB_a aB.length aB_p)) (first | (repeat' apply And.intro) <;> first | with_reducible assumption | (refine cell_later (below_new _) ?_; with_reducible assumption) | (refine cell_later (below_new _).drew ?_; with_reducible assumption) | assumption | (refine cell_later (below_new _) ?_; assumption) | (refine cell_later (below_new _).drew ?_; assumption)) ((first | (go_at_call 21; first | ((with_reducible change Calls _ _ _ wd2 _); refine (HS.out _ _ _ _ _ (D2.ownOf (s := .slice ad1 aA.length pd1) (xs := aA) (by simp)) (D2.ownOf (s := .slice ad2 aB.length pd2) (xs := aB) (by simp))).mono ?_; rintro e wd3 ⟨sd0, rfl, OD, hbD⟩; obtain ⟨ad0, pd0, rfl, _⟩ := OD.reads; have D3 := D2.own hbD OD; have i0_0 := cell_later D3.below k16; have i0_1 := cell_later D3.below k17; have i0_2 := cell_later D3.below k18; have i1_0 := cell_later D3.below k19; have i1_1 := cell_later D3.below k20; have i1_2 := cell_later D3.below k21) | ((with_reducible change Calls _ _ _ wd2 _); refine (HS.out _ _ _ _ _ (D2_0.ownOf (s := .slice ad1 aA.length pd1) (xs := aA) (by simp)) (D2_0.ownOf (s := .slice ad2 aB.length pd2) (xs := aB) (by simp))).mono ?_; rintro e wd3 ⟨sd0, rfl, OD, hbD⟩; obtain ⟨ad0, pd0, rfl, _⟩ := OD.reads; have D3_0 := D2_0.own hbD OD; have i0_0 := cell_later D3_0.below k16; have i0_1 := cell_later D3_0.below k17; have i0_2 := cell_later D3_0.below k18; have i1_0 := cell_later D3_0.below k19; have i1_1 := cell_later D3_0.below k20; have i1_2 := cell_later D3_0.below k21; have ⟨zl, z0, z1, z2, zf⟩ := D3_0.boxOf (n := w15.heap.size) (x := .int .i64 0) (y := .int .i64 0) (z := .slice none 0 0) (by simp); have Ds := Law.setBox (ts := [_, _, _]) D3_0 (.int .i64 rr0) (.int .i64 cc0) (.slice ad0 ys0.length pd0); have q0_0 := cell_later Ds.below k16; have q0_1 := cell_later Ds.below k17; have q0_2 := cell_later Ds.below k18; have q1_0 := cell_later Ds.below k19; have q1_1 := cell_later Ds.below k20; have q1_2 := cell_later Ds.below k21) | ((with_reducible change Calls _ _ _ wd2 _); refine (HS.out _ _ _ _ _ (D2_1.ownOf (s := .slice ad1 aA.length pd1) (xs := aA) (by simp)) (D2_1.ownOf (s := .slice ad2 aB.length pd2) (xs := aB) (by simp))).mono ?_; rintro e wd3 ⟨sd0, rfl, OD, hbD⟩; obtain ⟨ad0, pd0, rfl, _⟩ := OD.reads; have D3_1 := D2_1.own hbD OD; have i0_0 := cell_later D3_1.below k16; have i0_1 := cell_later D3_1.below k17; have i0_2 := cell_later D3_1.below k18; have i1_0 := cell_later D3_1.below k19; have i1_1 := cell_later D3_1.below k20; have i1_2 := cell_later D3_1.below k21; have ⟨zl, z0, z1, z2, zf⟩ := D3_1.boxOf (n := wd1.heap.size) (x := .int .i64 0) (y := .int .i64 0) (z := .slice none 0 0) (by simp); have Ds := Law.setBox (ts := [_, _]) D3_1 (.int .i64 rr0) (.int .i64 cc0) (.slice ad0 ys0.length pd0); have q0_0 := cell_later Ds.below k16; have q0_1 := cell_later Ds.below k17; have q0_2 := cell_later Ds.below k18; have q1_0 := cell_later Ds.below k19; have q1_1 := cell_later Ds.below k20; have q1_2 := cell_later Ds.below k21) | ((with_reducible change Calls _ _ _ (World.alloc wd2 _) _); have Dz := D2.box (.int .i64 0) (.int .i64 0) (.slice none 0 0) 26; refine (HS.out _ _ _ _ _ (Dz.ownOf (s := .slice ad1 aA.length pd1) (xs := aA) (by simp)) (Dz.ownOf (s := .slice ad2 aB.length pd2) (xs := aB) (by simp))).mono ?_; rintro e wd3 ⟨sd0, rfl, OD, hbD⟩; obtain ⟨ad0, pd0, rfl, _⟩ := OD.reads; have D3_2 := Dz.own hbD OD; have i0_0 := cell_later D3_2.below k16; have i0_1 := cell_later D3_2.below k17; have i0_2 := cell_later D3_2.below k18; have i1_0 := cell_later D3_2.below k19; have i1_1 := cell_later D3_2.below k20; have i1_2 := cell_later D3_2.below k21; have ⟨zl, z0, z1, z2, zf⟩ := D3_2.boxOf (n := wd2.heap.size) (x := .int .i64 0) (y := .int .i64 0) (z := .slice none 0 0) (by simp); have Ds := Law.setBox (ts := [_]) D3_2 (.int .i64 rr0) (.int .i64 cc0) (.slice ad0 ys0.length pd0); have q0_0 := cell_later Ds.below k16; have q0_1 := cell_later Ds.below k17; have q0_2 := cell_later Ds.below k18; have q1_0 := cell_later Ds.below k19; have q1_1 := cell_later Ds.below k20; have q1_2 := cell_later Ds.below k21)) | (go_at_call 12; first | ((with_reducible change Calls _ _ _ wd1 _); refine (toBoard_any aB_r aB_c aB_a aB.length aB_p aB _ aB_l (aB_x.out.kept D1.below)).mono ?_; rintro e wd2 ⟨_, rfl, ⟨sd2, rfl, OD⟩, hbD⟩; obtain ⟨ad2, pd2, rfl, _⟩ := OD.reads; have D2 := D1.own hbD OD; have m2_0_0 := cell_later D2.below k16; have m2_0_1 := cell_later D2.below k17; have m2_0_2 := cell_later D2.below k18; have m2_1_0 := cell_later D2.below k19; have m2_1_1 := cell_later D2.below k20; have m2_1_2 := cell_later D2.below k21) | ((with_reducible change Calls _ _ _ wd1 _); refine (toBoard_any aB_r aB_c aB_a aB.length aB_p aB _ aB_l (aB_x.out.kept D1_0.below)).mono ?_; rintro e wd2 ⟨_, rfl, ⟨sd2, rfl, OD⟩, hbD⟩; obtain ⟨ad2, pd2, rfl, _⟩ := OD.reads; have D2_0 := D1_0.own hbD OD; have m2_0_0 := cell_later D2_0.below k16; have m2_0_1 := cell_later D2_0.below k17; have m2_0_2 := cell_later D2_0.below k18; have m2_1_0 := cell_later D2_0.below k19; have m2_1_1 := cell_later D2_0.below k20; have m2_1_2 := cell_later D2_0.below k21) | ((with_reducible change Calls _ _ _ (World.alloc wd1 _) _); have Dz := D1.box (.int .i64 0) (.int .i64 0) (.slice none 0 0) 26; refine (toBoard_any aB_r aB_c aB_a aB.length aB_p aB _ aB_l (aB_x.out.kept Dz.below)).mono ?_; rintro e wd2 ⟨_, rfl, ⟨sd2, rfl, OD⟩, hbD⟩; obtain ⟨ad2, pd2, rfl, _⟩ := OD.reads; have D2_1 := Dz.own hbD OD; have m2_0_0 := cell_later D2_1.below k16; have m2_0_1 := cell_later D2_1.below k17; have m2_0_2 := cell_later D2_1.below k18; have m2_1_0 := cell_later D2_1.below k19; have m2_1_1 := cell_later D2_1.below k20; have m2_1_2 := cell_later D2_1.below k21)) | (go_at_call 12; first | ((with_reducible change Calls _ _ _ (World.drew w15) _); refine (toBoard_any aA_r aA_c aA_a aA.length aA_p aA _ aA_l (aA_x.out.kept D0.below)).mono ?_; rintro e wd1 ⟨_, rfl, ⟨sd1, rfl, OD⟩, hbD⟩; obtain ⟨ad1, pd1, rfl, _⟩ := OD.reads; have D1 := D0.own hbD OD; have m1_0_0 := cell_later D1.below k16; have m1_0_1 := cell_later D1.below k17; have m1_0_2 := cell_later D1.below k18; have m1_1_0 := cell_later D1.below k19; have m1_1_1 := cell_later D1.below k20; have m1_1_2 := cell_later D1.below k21) | ((with_reducible change Calls _ _ _ (World.drew (World.alloc w15 _)) _); have Dz := D0.box (.int .i64 0) (.int .i64 0) (.slice none 0 0) 26; refine (toBoard_any aA_r aA_c aA_a aA.length aA_p aA _ aA_l (aA_x.out.kept Dz.below)).mono ?_; rintro e wd1 ⟨_, rfl, ⟨sd1, rfl, OD⟩, hbD⟩; obtain ⟨ad1, pd1, rfl, _⟩ := OD.reads; have D1_0 := Dz.own hbD OD; have m1_0_0 := cell_later D1_0.below k16; have m1_0_1 := cell_later D1_0.below k17; have m1_0_2 := cell_later D1_0.below k18; have m1_1_0 := cell_later D1_0.below k19; have m1_1_1 := cell_later D1_0.below k20; have m1_1_2 := cell_later D1_0.below k21))))
    all_goals
      go_wp2_with fail
      go_meet
      first
        | exact ⟨_, _, _, rfl, rfl, Ds.sub (by repeat (first | exact List.Sublist.refl _ | apply List.Sublist.cons_cons | apply List.Sublist.cons))⟩
        | exact ⟨_, _, _, rfl, rfl, (Law.swap (D3.box _ _ _ _)).sub (by repeat (first | exact List.Sublist.refl _ | apply List.Sublist.cons_cons | apply List.Sublist.cons))⟩
  obtain ⟨nn22, aa23, pp24, rfl, rfl, L25⟩ := hcut
  generalize wc = w26 at *
  have L27 := L14.join L25
  clear L14 L25 D0 k16 k17 k18 k19 k20 k21 k0_0 k0_1 k0_2 k1_0 k1_1 k1_2 aA_x aB_x
  simp only [List.cons_append, List.nil_append] at L27
  have ⟨_, k29, k30, k31, _⟩ := L27.tl.tl.tl.ownBox
  go_wp2_with fail
  refine (toBoard_any aA_r aA_c aA_a aA.length aA_p aA _ aA_l (L27.reads aA_h)).mono ?_
  rintro e w32 ⟨_, rfl, ⟨s33, rfl, O35⟩, hb34⟩
  obtain ⟨a36, p37, rfl, _⟩ := O35.reads
  have L39 := L27.own hb34 O35
  clear L27 hb34 O35 k29 k30 k31
  have L40 := L39.box (.int .i64 aA_r) (.int .i64 aA_c) (.slice a36 aA.length p37) 26
  clear L39 
  have ⟨_, k41, k42, k43, _⟩ := L40.tl.tl.tl.tl.ownBox
  go_wp2_with fail
  refine (toBoard_any aB_r aB_c aB_a aB.length aB_p aB _ aB_l (L40.reads aB_h)).mono ?_
  rintro e w44 ⟨_, rfl, ⟨s45, rfl, O47⟩, hb46⟩
  obtain ⟨a48, p49, rfl, _⟩ := O47.reads
  have L51 := L40.own hb46 O47
  clear L40 hb46 O47 k41 k42 k43
  have L52 := L51.box (.int .i64 aB_r) (.int .i64 aB_c) (.slice a48 aB.length p49) 26
  clear L51 
  have ⟨_, k53, k54, k55, _⟩ := L52.tl.tl.ownBox
  have ⟨_, k56, k57, k58, _⟩ := L52.ownBox
  go_wp2_with fail
  refine (HI.out _ _ _ _ _ L52.tl.tl.tl.ownInts L52.tl.ownInts).mono ?_
  rintro e w59 ⟨s61, rfl, O62, hb60⟩
  obtain ⟨a64, p65, rfl, _⟩ := O62.reads
  have L67 := L52.own hb60 O62
  clear L52 hb60 O62
  clear k53 k54 k55 k56 k57 k58
  have ⟨_, k68, k69, k70, _⟩ := L67.tl.tl.tl.tl.tl.tl.ownBox
  have L71 := L67.box (.int .i64 rr0) (.int .i64 cc0) (.slice a64 ys0.length p65) 26
  clear L67 
  go_wp2_with fail
  refine (eqBoard_same _ _ ys0 _ _ _ _ _ ys0_len L71.tl.ownInts L71.tl.tl.tl.tl.tl.tl.ownInts).mono ?_
  rintro e w72 ⟨rfl, hb73⟩
  have L74 := L71.kept hb73
  clear L71 hb73 k68 k69 k70
  have ⟨_, k75, k76, k77, _⟩ := L74.tl.tl.tl.tl.tl.tl.tl.tl.tl.ownBox
  have ⟨_, k78, k79, k80, _⟩ := L74.tl.tl.tl.tl.ownBox
  go_upto_region 14 with (fail)
  go_cut [58] (fun t w' => t = .bool false ∧ Below w72.heap.size w72 w')
  case first =>
    have hd : Below w72.heap.size w72 w72.drew := (Below.refl _ _).drew
    have Ld := L74.kept hd
    go_region_with (first | (go_at_call 12; refine (toBoard_any aA_r aA_c aA_a aA.length aA_p aA _ aA_l (Ld.reads aA_h)).mono ?_; rintro e w81 ⟨_, rfl, ⟨s82, rfl, O83⟩, hb84⟩; obtain ⟨a85, p86, rfl, _⟩ := O83.reads; have ⟨_, q0, q1, q2, _⟩ := (Ld.kept hb84).tl.tl.tl.tl.ownBox) | (go_at_call 14; refine (eqBoard_same _ _ aA _ _ _ _ _ aA_l (Ld.kept hb84).tl.tl.tl.tl.tl.ownInts O83).mono ?_; rintro e w87 ⟨rfl, hb88⟩))
    all_goals (go_wp2_with fail; go_meet; exact ⟨rfl, below_on (below_on hd hb84) hb88⟩)
  obtain ⟨rfl, hb89⟩ := hcut
  have L90 := L74.kept hb89
  clear L74 hb89 k75 k76 k77 k78 k79 k80
  generalize wc = w91 at *
  have ⟨_, k92, k93, k94, _⟩ := L90.tl.tl.tl.tl.tl.tl.tl.tl.ownBox
  have ⟨_, k95, k96, k97, _⟩ := L90.tl.tl.ownBox
  go_upto_region 16 with (fail)
  go_cut [63] (fun t w' => t = .bool false ∧ Below w91.heap.size w91 w')
  case first =>
    have hd : Below w91.heap.size w91 w91.drew := (Below.refl _ _).drew
    have Ld := L90.kept hd
    go_region_with (first | (go_at_call 12; refine (toBoard_any aB_r aB_c aB_a aB.length aB_p aB _ aB_l (Ld.reads aB_h)).mono ?_; rintro e w98 ⟨_, rfl, ⟨s99, rfl, O100⟩, hb101⟩; obtain ⟨a102, p103, rfl, _⟩ := O100.reads; have ⟨_, q0, q1, q2, _⟩ := (Ld.kept hb101).tl.tl.ownBox) | (go_at_call 14; refine (eqBoard_same _ _ aB _ _ _ _ _ aB_l (Ld.kept hb101).tl.tl.tl.ownInts O100).mono ?_; rintro e w104 ⟨rfl, hb105⟩))
    all_goals (go_wp2_with fail; go_meet; exact ⟨rfl, below_on (below_on hd hb101) hb105⟩)
  obtain ⟨rfl, hb106⟩ := hcut
  have L107 := L90.kept hb106
  clear L90 hb106 k92 k93 k94 k95 k96 k97
  generalize wc = w108 at *
  have ⟨_, k109, k110, k111, _⟩ := L107.tl.tl.tl.tl.ownBox
  go_wp2_with fail
  refine (markBoard_any _ _ _ aA (1) _ _ aA_l (by omega) (by omega) L107.tl.tl.tl.tl.tl.ownInts).mono ?_
  rintro e w112 ⟨rfl, O113, hg114⟩
  have L115 := Law.mark (ts := [_, _, _, _, _]) L107 hg114 O113
  simp only [List.cons_append, List.nil_append] at L115
  clear L107 hg114 O113 k109 k110 k111
  have ⟨_, k116, k117, k118, _⟩ := L115.tl.tl.ownBox
  go_wp2_with fail
  refine (markBoard_any _ _ _ aB (1 + aA.length) _ _ aB_l (by omega) (by omega) L115.tl.tl.tl.ownInts).mono ?_
  rintro e w119 ⟨rfl, O120, hg121⟩
  have L122 := Law.mark (ts := [_, _, _]) L115 hg121 O120
  simp only [List.cons_append, List.nil_append] at L122
  clear L115 hg121 O120 k116 k117 k118
  have ⟨_, k123, k124, k125, _⟩ := L122.ownBox
  have ⟨_, k126, k127, k128, _⟩ := L122.tl.tl.tl.tl.tl.tl.tl.ownBox
  go_wp2_with fail
  refine (eqBoard_same _ _ ys0 _ _ _ _ _ ys0_len L122.tl.ownInts L122.tl.tl.tl.tl.tl.tl.ownInts).mono ?_
  rintro e w129 ⟨rfl, hb130⟩
  have L131 := L122.kept hb130
  clear L122 hb130 k123 k124 k125 k126 k127 k128
  have ⟨_, k132, k133, k134, _⟩ := L131.ownBox
  go_wp2_with fail
  refine (markBoard_any _ _ _ ys0 (1) _ _ ys0_len (by omega) (by omega) L131.tl.ownInts).mono ?_
  rintro e w135 ⟨rfl, O136, hg137⟩
  have L138 := Law.mark (ts := [_]) L131 hg137 O136
  simp only [List.cons_append, List.nil_append] at L138
  clear L131 hg137 O136 k132 k133 k134
  have ⟨_, k139, k140, k141, _⟩ := L138.ownBox
  go_wp2_with fail
  refine (heldBoard_any _ _ _ ys0.length (1) _ _ ys0_len (by omega) (by omega) L138.tl.ownInts).mono ?_
  rintro e w142 ⟨rfl, hb143⟩
  have L144 := L138.kept hb143
  clear L138 hb143 k139 k140 k141
  have ⟨_, k146, k147, k148, _⟩ := L144.tl.tl.tl.tl.tl.tl.tl.tl.tl.ownBox
  have ⟨_, k149, k150, k151, _⟩ := L144.tl.tl.tl.tl.tl.tl.tl.tl.ownBox
  go_upto_region 31 with (fail)
  generalize w142 = w145 at *
  have D0 := (Law.start w145).drew
  have aA_x := Lib.hid (L144.reads aA_h)
  have aB_x := Lib.hid (L144.reads aB_h)
  have k0_0 := cell_later D0.below k146; have k0_1 := cell_later D0.below k147; have k0_2 := cell_later D0.below k148; have k1_0 := cell_later D0.below k149; have k1_1 := cell_later D0.below k150; have k1_2 := cell_later D0.below k151
  go_cut [15, 16] (fun t15 t16 w' => ∃ nn aa pp, t15 = .pointer (some ⟨nn, 0, none⟩) ∧ t16 = .bool b1 ∧ Law w145 [tOwn (.slice aa ys0.length pp) ys0, tBox nn (.int .i64 rr0) (.int .i64 cc0) (.slice aa ys0.length pp)] w')
  case first =>
    go_region_held3 (fun w' => w'.cell? ⟨w.heap.size, 0, none⟩ = some (.int .i64 aA_r) ∧ w'.cell? ⟨w.heap.size, 1, none⟩ = some (.int .i64 aA_c) ∧ w'.cell? ⟨w.heap.size, 2, none⟩ = some (.slice aA_a aA.length aA_p) ∧ w'.cell? ⟨w.heap.size + 1, 0, none⟩ = some (.int .i64 aB_r) ∧ w'.cell? ⟨w.heap.size + 1, 1, none⟩ = some (.int .i64 aB_c) ∧ w'.cell? ⟨w.heap.size + 1, 2, none⟩ = some (.slice aB_a aB.length aB_p)) (first | (repeat' apply And.intro) <;> first | with_reducible assumption | (refine cell_later (below_new _) ?_; with_reducible assumption) | (refine cell_later (below_new _).drew ?_; with_reducible assumption) | assumption | (refine cell_later (below_new _) ?_; assumption) | (refine cell_later (below_new _).drew ?_; assumption)) ((first | (go_at_call 22; first | ((with_reducible change Calls _ _ _ wd2 _); refine (HI.out _ _ _ _ _ (D2.ownOf (s := .slice ad1 aA.length pd1) (xs := aA) (by simp)) (D2.ownOf (s := .slice ad2 aB.length pd2) (xs := aB) (by simp))).mono ?_; rintro e wd3 ⟨sd0, rfl, OD, hbD⟩; obtain ⟨ad0, pd0, rfl, _⟩ := OD.reads; have D3 := D2.own hbD OD; have i0_0 := cell_later D3.below k146; have i0_1 := cell_later D3.below k147; have i0_2 := cell_later D3.below k148; have i1_0 := cell_later D3.below k149; have i1_1 := cell_later D3.below k150; have i1_2 := cell_later D3.below k151) | ((with_reducible change Calls _ _ _ wd2 _); refine (HI.out _ _ _ _ _ (D2_0.ownOf (s := .slice ad1 aA.length pd1) (xs := aA) (by simp)) (D2_0.ownOf (s := .slice ad2 aB.length pd2) (xs := aB) (by simp))).mono ?_; rintro e wd3 ⟨sd0, rfl, OD, hbD⟩; obtain ⟨ad0, pd0, rfl, _⟩ := OD.reads; have D3_0 := D2_0.own hbD OD; have i0_0 := cell_later D3_0.below k146; have i0_1 := cell_later D3_0.below k147; have i0_2 := cell_later D3_0.below k148; have i1_0 := cell_later D3_0.below k149; have i1_1 := cell_later D3_0.below k150; have i1_2 := cell_later D3_0.below k151; have ⟨zl, z0, z1, z2, zf⟩ := D3_0.boxOf (n := w145.heap.size) (x := .int .i64 0) (y := .int .i64 0) (z := .slice none 0 0) (by simp); have Ds := Law.setBox (ts := [_, _, _]) D3_0 (.int .i64 rr0) (.int .i64 cc0) (.slice ad0 ys0.length pd0); have q0_0 := cell_later Ds.below k146; have q0_1 := cell_later Ds.below k147; have q0_2 := cell_later Ds.below k148; have q1_0 := cell_later Ds.below k149; have q1_1 := cell_later Ds.below k150; have q1_2 := cell_later Ds.below k151) | ((with_reducible change Calls _ _ _ wd2 _); refine (HI.out _ _ _ _ _ (D2_1.ownOf (s := .slice ad1 aA.length pd1) (xs := aA) (by simp)) (D2_1.ownOf (s := .slice ad2 aB.length pd2) (xs := aB) (by simp))).mono ?_; rintro e wd3 ⟨sd0, rfl, OD, hbD⟩; obtain ⟨ad0, pd0, rfl, _⟩ := OD.reads; have D3_1 := D2_1.own hbD OD; have i0_0 := cell_later D3_1.below k146; have i0_1 := cell_later D3_1.below k147; have i0_2 := cell_later D3_1.below k148; have i1_0 := cell_later D3_1.below k149; have i1_1 := cell_later D3_1.below k150; have i1_2 := cell_later D3_1.below k151; have ⟨zl, z0, z1, z2, zf⟩ := D3_1.boxOf (n := wd1.heap.size) (x := .int .i64 0) (y := .int .i64 0) (z := .slice none 0 0) (by simp); have Ds := Law.setBox (ts := [_, _]) D3_1 (.int .i64 rr0) (.int .i64 cc0) (.slice ad0 ys0.length pd0); have q0_0 := cell_later Ds.below k146; have q0_1 := cell_later Ds.below k147; have q0_2 := cell_later Ds.below k148; have q1_0 := cell_later Ds.below k149; have q1_1 := cell_later Ds.below k150; have q1_2 := cell_later Ds.below k151) | ((with_reducible change Calls _ _ _ (World.alloc wd2 _) _); have Dz := D2.box (.int .i64 0) (.int .i64 0) (.slice none 0 0) 26; refine (HI.out _ _ _ _ _ (Dz.ownOf (s := .slice ad1 aA.length pd1) (xs := aA) (by simp)) (Dz.ownOf (s := .slice ad2 aB.length pd2) (xs := aB) (by simp))).mono ?_; rintro e wd3 ⟨sd0, rfl, OD, hbD⟩; obtain ⟨ad0, pd0, rfl, _⟩ := OD.reads; have D3_2 := Dz.own hbD OD; have i0_0 := cell_later D3_2.below k146; have i0_1 := cell_later D3_2.below k147; have i0_2 := cell_later D3_2.below k148; have i1_0 := cell_later D3_2.below k149; have i1_1 := cell_later D3_2.below k150; have i1_2 := cell_later D3_2.below k151; have ⟨zl, z0, z1, z2, zf⟩ := D3_2.boxOf (n := wd2.heap.size) (x := .int .i64 0) (y := .int .i64 0) (z := .slice none 0 0) (by simp); have Ds := Law.setBox (ts := [_]) D3_2 (.int .i64 rr0) (.int .i64 cc0) (.slice ad0 ys0.length pd0); have q0_0 := cell_later Ds.below k146; have q0_1 := cell_later Ds.below k147; have q0_2 := cell_later Ds.below k148; have q1_0 := cell_later Ds.below k149; have q1_1 := cell_later Ds.below k150; have q1_2 := cell_later Ds.below k151)) | (go_at_call 12; first | ((with_reducible change Calls _ _ _ wd1 _); refine (toBoard_any aB_r aB_c aB_a aB.length aB_p aB _ aB_l (aB_x.out.kept D1.below)).mono ?_; rintro e wd2 ⟨_, rfl, ⟨sd2, rfl, OD⟩, hbD⟩; obtain ⟨ad2, pd2, rfl, _⟩ := OD.reads; have D2 := D1.own hbD OD; have m2_0_0 := cell_later D2.below k146; have m2_0_1 := cell_later D2.below k147; have m2_0_2 := cell_later D2.below k148; have m2_1_0 := cell_later D2.below k149; have m2_1_1 := cell_later D2.below k150; have m2_1_2 := cell_later D2.below k151) | ((with_reducible change Calls _ _ _ wd1 _); refine (toBoard_any aB_r aB_c aB_a aB.length aB_p aB _ aB_l (aB_x.out.kept D1_0.below)).mono ?_; rintro e wd2 ⟨_, rfl, ⟨sd2, rfl, OD⟩, hbD⟩; obtain ⟨ad2, pd2, rfl, _⟩ := OD.reads; have D2_0 := D1_0.own hbD OD; have m2_0_0 := cell_later D2_0.below k146; have m2_0_1 := cell_later D2_0.below k147; have m2_0_2 := cell_later D2_0.below k148; have m2_1_0 := cell_later D2_0.below k149; have m2_1_1 := cell_later D2_0.below k150; have m2_1_2 := cell_later D2_0.below k151) | ((with_reducible change Calls _ _ _ (World.alloc wd1 _) _); have Dz := D1.box (.int .i64 0) (.int .i64 0) (.slice none 0 0) 26; refine (toBoard_any aB_r aB_c aB_a aB.length aB_p aB _ aB_l (aB_x.out.kept Dz.below)).mono ?_; rintro e wd2 ⟨_, rfl, ⟨sd2, rfl, OD⟩, hbD⟩; obtain ⟨ad2, pd2, rfl, _⟩ := OD.reads; have D2_1 := Dz.own hbD OD; have m2_0_0 := cell_later D2_1.below k146; have m2_0_1 := cell_later D2_1.below k147; have m2_0_2 := cell_later D2_1.below k148; have m2_1_0 := cell_later D2_1.below k149; have m2_1_1 := cell_later D2_1.below k150; have m2_1_2 := cell_later D2_1.below k151)) | (go_at_call 12; first | ((with_reducible change Calls _ _ _ (World.drew w145) _); refine (toBoard_any aA_r aA_c aA_a aA.length aA_p aA _ aA_l (aA_x.out.kept D0.below)).mono ?_; rintro e wd1 ⟨_, rfl, ⟨sd1, rfl, OD⟩, hbD⟩; obtain ⟨ad1, pd1, rfl, _⟩ := OD.reads; have D1 := D0.own hbD OD; have m1_0_0 := cell_later D1.below k146; have m1_0_1 := cell_later D1.below k147; have m1_0_2 := cell_later D1.below k148; have m1_1_0 := cell_later D1.below k149; have m1_1_1 := cell_later D1.below k150; have m1_1_2 := cell_later D1.below k151) | ((with_reducible change Calls _ _ _ (World.drew (World.alloc w145 _)) _); have Dz := D0.box (.int .i64 0) (.int .i64 0) (.slice none 0 0) 26; refine (toBoard_any aA_r aA_c aA_a aA.length aA_p aA _ aA_l (aA_x.out.kept Dz.below)).mono ?_; rintro e wd1 ⟨_, rfl, ⟨sd1, rfl, OD⟩, hbD⟩; obtain ⟨ad1, pd1, rfl, _⟩ := OD.reads; have D1_0 := Dz.own hbD OD; have m1_0_0 := cell_later D1_0.below k146; have m1_0_1 := cell_later D1_0.below k147; have m1_0_2 := cell_later D1_0.below k148; have m1_1_0 := cell_later D1_0.below k149; have m1_1_1 := cell_later D1_0.below k150; have m1_1_2 := cell_later D1_0.below k151))))
    all_goals
      go_wp2_with fail
      go_meet
      first
        | exact ⟨_, _, _, rfl, rfl, Ds.sub (by repeat (first | exact List.Sublist.refl _ | apply List.Sublist.cons_cons | apply List.Sublist.cons))⟩
        | exact ⟨_, _, _, rfl, rfl, (Law.swap (D3.box _ _ _ _)).sub (by repeat (first | exact List.Sublist.refl _ | apply List.Sublist.cons_cons | apply List.Sublist.cons))⟩
  obtain ⟨nn152, aa153, pp154, rfl, rfl, L155⟩ := hcut
  generalize wc = w156 at *
  have L157 := L144.join L155
  clear L144 L155 D0 k146 k147 k148 k149 k150 k151 k0_0 k0_1 k0_2 k1_0 k1_1 k1_2 aA_x aB_x
  simp only [List.cons_append, List.nil_append] at L157
  have ⟨_, k159, k160, k161, _⟩ := L157.tl.ownBox
  have ⟨_, k162, k163, k164, _⟩ := L157.tl.tl.tl.tl.tl.tl.tl.tl.tl.ownBox
  go_wp2_with fail
  refine (eqBoard_same _ _ ys0 _ _ _ _ _ ys0_len L157.ownInts L157.tl.tl.tl.tl.tl.tl.tl.tl.ownInts).mono ?_
  rintro e w165 ⟨rfl, hb166⟩
  have L167 := L157.kept hb166
  clear L157 hb166 k159 k160 k161 k162 k163 k164
  have ⟨_, k168, k169, k170, _⟩ := L167.tl.tl.ownBox
  go_wp2_with fail
  refine (heldBoard_any _ _ _ ys0.length (1) _ _ ys0_len (by omega) (by omega) L167.tl.tl.tl.ownInts).mono ?_
  rintro e w171 ⟨rfl, hb172⟩
  have L173 := L167.kept hb172
  clear L167 hb172 k168 k169 k170
  go_wp2_with fail
  go_ret
  exact ⟨rfl, L173.below⟩

set_option maxRecDepth 100000 in
set_option maxHeartbeats 800000 in
theorem walk_big0 (aA_r aA_c : Int) (aA_a : Option Addr) (aA_p : Nat) (aA : List Int) (aB_r aB_c : Int) (aB_a : Option Addr) (aB_p : Nat) (aB : List Int) (w : World) (aA_m : aA.length ≤ 9223372036854775807) (hbig : ¬ aA.length ≤ 1048576)  :
    Calls Try.prog 6 #[.agg #[.int .i64 aA_r, .int .i64 aA_c, .slice aA_a aA.length aA_p], .agg #[.int .i64 aB_r, .int .i64 aB_c, .slice aB_a aB.length aB_p]] w fun e w' => e = .returned (.bool true) ∧ Below w.heap.size w w' := by
  have L0 := Law.start w
  have L1 := L0.box (.int .i64 aA_r) (.int .i64 aA_c) (.slice aA_a aA.length aA_p) 24
  have L2 := L1.box (.int .i64 aB_r) (.int .i64 aB_c) (.slice aB_a aB.length aB_p) 24
  simp only [World.size_alloc] at L2
  have aA_z := Lib.hid (show szN (1048576) aA.length = -1 by unfold szN; rw [if_pos (by omega)])
  go_enter Try.func6, Try.ntmps6
  have ⟨_, k0, k1, k2, _⟩ := L2.tl.ownBox
  go_wp2_with fail
  refine (szBoard_any aA_r aA_c aA_a aA.length aA_p (1048576) _ (by omega) (by omega) (by omega)).mono ?_
  rintro e v3 ⟨rfl, hb⟩
  rw [aA_z.out]
  have L3 := L2.kept hb
  clear L2 hb k0 k1 k2
  go_wp2_with fail
  go_ret
  exact ⟨rfl, L3.below⟩

set_option maxRecDepth 100000 in
set_option maxHeartbeats 800000 in
theorem walk_big1 (aA_r aA_c : Int) (aA_a : Option Addr) (aA_p : Nat) (aA : List Int) (aB_r aB_c : Int) (aB_a : Option Addr) (aB_p : Nat) (aB : List Int) (w : World) (aA_m : aA.length ≤ 9223372036854775807) (aB_m : aB.length ≤ 9223372036854775807) (hp : aA.length ≤ 1048576) (hbig : ¬ aA.length + aB.length ≤ 1048576)  :
    Calls Try.prog 6 #[.agg #[.int .i64 aA_r, .int .i64 aA_c, .slice aA_a aA.length aA_p], .agg #[.int .i64 aB_r, .int .i64 aB_c, .slice aB_a aB.length aB_p]] w fun e w' => e = .returned (.bool true) ∧ Below w.heap.size w w' := by
  have L0 := Law.start w
  have L1 := L0.box (.int .i64 aA_r) (.int .i64 aA_c) (.slice aA_a aA.length aA_p) 24
  have L2 := L1.box (.int .i64 aB_r) (.int .i64 aB_c) (.slice aB_a aB.length aB_p) 24
  simp only [World.size_alloc] at L2
  have aA_z := Lib.hid (show szN (1048576) aA.length = 1048576 - aA.length by unfold szN; rw [if_neg (by omega)])
  have aB_z := Lib.hid (show szN (1048576 - aA.length) aB.length = -1 by unfold szN; rw [if_pos (by omega)])
  go_enter Try.func6, Try.ntmps6
  have ⟨_, k0, k1, k2, _⟩ := L2.tl.ownBox
  go_wp2_with fail
  refine (szBoard_any aA_r aA_c aA_a aA.length aA_p (1048576) _ (by omega) (by omega) (by omega)).mono ?_
  rintro e v3 ⟨rfl, hb⟩
  rw [aA_z.out]
  have L3 := L2.kept hb
  clear L2 hb k0 k1 k2
  have ⟨_, k0, k1, k2, _⟩ := L3.ownBox
  go_wp2_with fail
  refine (szBoard_any aB_r aB_c aB_a aB.length aB_p (1048576 - aA.length) _ (by omega) (by omega) (by omega)).mono ?_
  rintro e v4 ⟨rfl, hb⟩
  rw [aB_z.out]
  have L4 := L3.kept hb
  clear L3 hb k0 k1 k2
  go_wp2_with fail
  go_ret
  exact ⟨rfl, L4.below⟩

theorem walk_all (aA_r aA_c : Int) (aA_a : Option Addr) (aA_p : Nat) (aA : List Int) (aB_r aB_c : Int) (aB_a : Option Addr) (aB_p : Nat) (aB : List Int) (w : World) (aA_m : aA.length ≤ 9223372036854775807) (aB_m : aB.length ≤ 9223372036854775807) (aA_h : Reads w aA_a aA.length aA) (aB_h : Reads w aB_a aB.length aB) :
    Calls Try.prog 6 #[.agg #[.int .i64 aA_r, .int .i64 aA_c, .slice aA_a aA.length aA_p], .agg #[.int .i64 aB_r, .int .i64 aB_c, .slice aB_a aB.length aB_p]] w fun e w' => e = .returned (.bool true) ∧ Below w.heap.size w w' := by
  by_cases c0 : aA.length ≤ 1048576
  case neg => exact walk_big0 aA_r aA_c aA_a aA_p aA aB_r aB_c aB_a aB_p aB w aA_m  c0
  by_cases c1 : aA.length + aB.length ≤ 1048576
  case neg => exact walk_big1 aA_r aA_c aA_a aA_p aA aB_r aB_c aB_a aB_p aB w aA_m aB_m c0 c1
  have hS : ∀ (w : World) (loaA : Nat) (aA_s : Value) (loaB : Nat) (aB_s : Value), Own w loaA aA_s aA → Own w loaB aB_s aB → Calls Try.prog 21 #[.agg #[.int .i64 aA_r, .int .i64 aA_c, aA_s], .agg #[.int .i64 aB_r, .int .i64 aB_c, aB_s]] w (AnsB (stackB aA_r aA_c aA aB_r aB_c aB) w) := fun w loaA aA_s loaB aB_s OaA OaB => specStack_any aA_r aA_c aA aB_r aB_c aB w (by omega) (by omega) loaA aA_s loaB aB_s OaA OaB
  have hI : ∀ (w : World) (loaA : Nat) (aA_s : Value) (loaB : Nat) (aB_s : Value), Own w loaA aA_s aA → Own w loaB aB_s aB → Calls Try.prog 22 #[.agg #[.int .i64 aA_r, .int .i64 aA_c, aA_s], .agg #[.int .i64 aB_r, .int .i64 aB_c, aB_s]] w (AnsB (stackB aA_r aA_c aA aB_r aB_c aB) w) := fun w loaA aA_s loaB aB_s OaA OaB => implStack_any aA_r aA_c aA aB_r aB_c aB w (by omega) (by omega) loaA aA_s loaB aB_s OaA OaB
  have hy := stackB_len aA_r aA_c aA aB_r aB_c aB
  generalize stackB aA_r aA_c aA aB_r aB_c aB = R at *
  obtain ⟨rr0, cc0, ys0, b1⟩ := R
  exact walk aA_r aA_c aA_a aA_p aA aB_r aB_c aB_a aB_p aB rr0 cc0 ys0 b1 w c1 aA_h aB_h hy hS hI

theorem contract (H : Type) (enc : TypeId × Value → H) (W : World) (base : Nat) (args : Array Value) (ds gs : List (DataW H)) (before : List MemPlace)
    (hval : ∀ (j : Nat) t v, Try.f6.params[j]? = some t → args[j]? = some v → Value.okWide Try.prog W .any base t v)
    (hW : DataW.Whole enc Try.prog Try.f6.params.toList Rows.fnExactStackBoardsSpec.vars false W args.toList ds gs before) :
    Calls Try.prog 6 args W fun e W' => ∃ v, e = .returned v ∧ Rows.fnExactStackBoardsSpec.post enc Try.prog Try.f6 false true false false W args v W' := by
  have hW' := hW
  obtain ⟨p, q, hA0, hV, rfl, hfz, hnd⟩ := hW
  have hA : DataW.TrodAll enc Try.prog W 0 (fun _ => true) true Try.f6.params.toList args.toList ds p := hA0
  rw [Try.params6] at hA hval
  obtain ⟨v0, v1, d0, d1, p0, p1, rfl, rfl, rfl, h0, h1⟩ := trodAll_two hA
  obtain ⟨rfl, rfl⟩ := trodVars_none hV
  clear hA0
  simp only [List.append_nil] at hW'
  have hlt : ∀ x ∈ p0 ++ p1, x.block < W.heap.size := fun x hx => by have := hW'.lt x (by simpa using hx); simpa using this
  have t0 := h0
  obtain ⟨aA_r, aA_c, aA_a, aA_n, aA_p, aA, rfl, aA_m, aA_h⟩ := open_board (hval 0 24 v0 rfl rfl) h0
  obtain rfl := aA_h.1
  have t1 := h1
  obtain ⟨aB_r, aB_c, aB_a, aB_n, aB_p, aB, rfl, aB_m, aB_h⟩ := open_board (hval 1 24 v1 rfl rfl) h1
  obtain rfl := aB_h.1
  refine (walk_all aA_r aA_c aA_a aA_p aA aB_r aB_c aB_a aB_p aB W aA_m aB_m aA_h aB_h).mono ?_
  rintro e W' ⟨rfl, hb⟩
  exact ⟨_, rfl, _, _, _, [], _, [], hW', trodAll_mk1 (shut_bool Try.underlying4 _), trodAll_mk2 (Below.trod Try.laidOut (by kernel_rfl) (of_decide_eq_true (by kernel_rfl)) t0 hb (fun x hx => hlt x (by simp [hx]))) (Below.trod Try.laidOut (by kernel_rfl) (of_decide_eq_true (by kernel_rfl)) t1 hb (fun x hx => hlt x (by simp [hx]))), rfl, hb.frame _, fun h => by cases h⟩

set_option maxRecDepth 100000 in
theorem lifted (os : Os) (started : os.Started) (H : Type) (enc : TypeId × Value → H) :
    ReturnsInHanded {} Try.checked os 6 .any (Rows.fnExactStackBoardsSpec.pre6 enc Try.prog Try.f6 Rows.fnExactStackBoardsRow.domain false) (Rows.fnExactStackBoardsSpec.post enc Try.prog Try.f6 false true false false) := by
  refine returnsInHanded_of_change (C := Try.checked) Try.own started (by kernel_rfl) Try.func6
    (ChangeSpec.witness6 (enc := enc) (C := Try.checked) false ⟨#[], #[.agg #[.int .i64 0, .int .i64 0, .slice none 0 0], .agg #[.int .i64 0, .int .i64 0, .slice none 0 0]], []⟩ 8 (by kernel_rfl) (by kernel_rfl) (by kernel_rfl) (by kernel_rfl)) ?_
  intro W base args ds gs before hval hW _ _
  exact contract H enc W base args ds gs before hval hW

theorem holds : Rows.FnExactStackBoardsSaid :=
  OpenClaim.holds_of_wide 6 Try.f6 rfl rfl rfl rfl rfl rfl rfl ⟨rfl, rfl, rfl, rfl, rfl⟩ rfl rfl rfl rfl rfl (by kernel_rfl) Try.func6 (by kernel_rfl)
    (of_decide_eq_true (by kernel_rfl)) (by unfold Func.isWrapper; first | (rw [if_pos (by decide +kernel)]; kernel_rfl) | (rw [if_neg (by decide +kernel)]; exact ⟨rfl, rfl⟩))
    (fun os started H enc _ => lifted os started H enc)

#print axioms holds
end Go.Proofs.Ytncbdmeagfadfab.lStackBoards
