/- 'FnExactFollowWay' answers true for every input, and leaves it as it was. No condition. -/
import Derived.Test.YtdimbnkgomfojabT2
import Derived.Test.YtdimbnkgomfojabOpen
import Derived.Test.YtdimbnkgomfojabCq
import Derived.Deep.RegionWith
import Derived.Deep.RegionHeld3
import Derived.Deep.DeepCutAuto
namespace Go.Proofs.Ytdimbnkgomfojab.lFollowWay
open Go.ChangeShapes Go.WideShapes Go.ChangeAt Go.RowKit Go.Joins

set_option maxRecDepth 100000 in
set_option maxHeartbeats 4000000 in
theorem walk (aB_r aB_c : Int) (aB_a : Option Addr) (aB_p : Nat) (aB : List Int) (aP_a : Option Addr) (aP_p : Nat) (aP : List Int) (aWay_a : Option Addr) (aWay_p : Nat) (aWay : List Int) (ys0 : List Int) (b1 : Bool) (w : World) (aP_f : aP.length ≤ 1048576) (aWay_f : aWay.length ≤ 1048576) (hfit : aB.length ≤ 1048576) (aB_h : Reads w aB_a aB.length aB) (aP_h : Reads w aP_a aP.length aP) (aWay_h : Reads w aWay_a aWay.length aWay) (ys0_len : ys0.length ≤ 1048576)
    (hS : ∀ (w : World) (loaB : Nat) (aB_s : Value) (loaP : Nat) (aP_s : Value) (loaWay : Nat) (aWay_s : Value), Own w loaB aB_s aB → Own w loaP aP_s aP → Own w loaWay aWay_s aWay → Calls Try.prog 52 #[.agg #[.int .i64 aB_r, .int .i64 aB_c, aB_s], aP_s, aWay_s] w fun e w' => ∃ s0, e = .returned (.tuple #[s0, .bool b1]) ∧ Own w' w.heap.size s0 ys0 ∧ Below w.heap.size w w')
    (hI : ∀ (w : World) (loaB : Nat) (aB_s : Value) (loaP : Nat) (aP_s : Value) (loaWay : Nat) (aWay_s : Value), Own w loaB aB_s aB → Own w loaP aP_s aP → Own w loaWay aWay_s aWay → Calls Try.prog 53 #[.agg #[.int .i64 aB_r, .int .i64 aB_c, aB_s], aP_s, aWay_s] w fun e w' => ∃ s0, e = .returned (.tuple #[s0, .bool b1]) ∧ Own w' w.heap.size s0 ys0 ∧ Below w.heap.size w w') :
    Calls Try.prog 12 #[.agg #[.int .i64 aB_r, .int .i64 aB_c, .slice aB_a aB.length aB_p], .slice aP_a aP.length aP_p, .slice aWay_a aWay.length aWay_p] w fun e w' => e = .returned (.bool true) ∧ Below w.heap.size w w' := by
  have HS := Lib.hid hS; clear hS
  have HI := Lib.hid hI; clear hI
  have L0 := Law.start w
  have L1 := L0.box (.int .i64 aB_r) (.int .i64 aB_c) (.slice aB_a aB.length aB_p) 24
  clear L0 
  have aB_z := Lib.hid (show szN (1048576) aB.length = 1048576 - aB.length by unfold szN; rw [if_neg (by omega)])
  have aB_l : aB.length ≤ 1048576 := by omega
  have aP_l : aP.length ≤ 1048576 := aP_f
  have aWay_l : aWay.length ≤ 1048576 := aWay_f
  go_enter Try.func12, Try.ntmps12
  have ⟨_, k2, k3, k4, _⟩ := L1.ownBox
  go_wp2_with fail
  refine (szBoard_any aB_r aB_c aB_a aB.length aB_p (1048576) _ (by omega) (by omega) (by omega)).mono ?_
  rintro e w5 ⟨rfl, hb6⟩
  rw [aB_z.out]
  have L7 := L1.kept hb6
  clear L1 hb6 k2 k3 k4
  have ⟨_, k8, k9, k10, _⟩ := L7.ownBox
  go_wp2_with fail
  refine (toBoard_any aB_r aB_c aB_a aB.length aB_p aB _ aB_l (L7.reads aB_h)).mono ?_
  rintro e w11 ⟨_, rfl, ⟨s12, rfl, O14⟩, hb13⟩
  obtain ⟨a15, p16, rfl, _⟩ := O14.reads
  have L18 := L7.own hb13 O14
  clear L7 hb13 O14 k8 k9 k10
  go_wp2_with fail
  refine (toIntS_any aP_a aP.length aP_p aP _ aP_l (L18.reads aP_h)).mono ?_
  rintro e w19 ⟨s20, rfl, O22, hb21⟩
  obtain ⟨a23, p24, rfl, _⟩ := O22.reads
  have L26 := L18.own hb21 O22
  clear L18 hb21 O22
  go_wp2_with fail
  refine (toIntS_any aWay_a aWay.length aWay_p aWay _ aWay_l (L26.reads aWay_h)).mono ?_
  rintro e w27 ⟨s28, rfl, O30, hb29⟩
  obtain ⟨a31, p32, rfl, _⟩ := O30.reads
  have L34 := L26.own hb29 O30
  clear L26 hb29 O30
  go_wp2_with fail
  refine (HS.out _ _ _ _ _ _ _ L34.tl.tl.ownInts L34.tl.ownInts L34.ownInts).mono ?_
  rintro e w35 ⟨s37, rfl, O38, hb36⟩
  obtain ⟨a40, p41, rfl, _⟩ := O38.reads
  have L43 := L34.own hb36 O38
  clear L34 hb36 O38
  have ⟨_, k44, k45, k46, _⟩ := L43.tl.tl.tl.tl.ownBox
  go_wp2_with fail
  refine (toBoard_any aB_r aB_c aB_a aB.length aB_p aB _ aB_l (L43.reads aB_h)).mono ?_
  rintro e w47 ⟨_, rfl, ⟨s48, rfl, O50⟩, hb49⟩
  obtain ⟨a51, p52, rfl, _⟩ := O50.reads
  have L54 := L43.own hb49 O50
  clear L43 hb49 O50 k44 k45 k46
  have L55 := L54.box (.int .i64 aB_r) (.int .i64 aB_c) (.slice a51 aB.length p52) 28
  clear L54 
  go_wp2_with fail
  refine (toIntS_any aP_a aP.length aP_p aP _ aP_l (L55.reads aP_h)).mono ?_
  rintro e w56 ⟨s57, rfl, O59, hb58⟩
  obtain ⟨a60, p61, rfl, _⟩ := O59.reads
  have L63 := L55.own hb58 O59
  clear L55 hb58 O59
  go_wp2_with fail
  refine (toIntS_any aWay_a aWay.length aWay_p aWay _ aWay_l (L63.reads aWay_h)).mono ?_
  rintro e w64 ⟨s65, rfl, O67, hb66⟩
  obtain ⟨a68, p69, rfl, _⟩ := O67.reads
  have L71 := L63.own hb66 O67
  clear L63 hb66 O67
  have ⟨_, k72, k73, k74, _⟩ := L71.tl.tl.ownBox
  go_wp2_with fail
  refine (HI.out _ _ _ _ _ _ _ L71.tl.tl.tl.ownInts L71.tl.ownInts L71.ownInts).mono ?_
  rintro e w75 ⟨s77, rfl, O78, hb76⟩
  obtain ⟨a80, p81, rfl, _⟩ := O78.reads
  have L83 := L71.own hb76 O78
  clear L71 hb76 O78
  clear k72 k73 k74
  go_wp2_with fail
  refine (eqIntS_same ys0 _ _ _ _ _ ys0_len L83.ownInts L83.tl.tl.tl.tl.tl.ownInts).mono ?_
  rintro e w84 ⟨rfl, hb85⟩
  have L86 := L83.kept hb85
  clear L83 hb85
  have ⟨_, k87, k88, k89, _⟩ := L86.tl.tl.tl.tl.tl.tl.tl.tl.tl.ownBox
  have ⟨_, k90, k91, k92, _⟩ := L86.tl.tl.tl.ownBox
  go_upto_region 16 with (fail)
  go_cut [67] (fun t w' => t = .bool false ∧ Below w84.heap.size w84 w')
  case first =>
    have hd : Below w84.heap.size w84 w84.drew := (Below.refl _ _).drew
    have Ld := L86.kept hd
    go_region_with (first | (go_at_call 17; refine (toBoard_any aB_r aB_c aB_a aB.length aB_p aB _ aB_l (Ld.reads aB_h)).mono ?_; rintro e w93 ⟨_, rfl, ⟨s94, rfl, O95⟩, hb96⟩; obtain ⟨a97, p98, rfl, _⟩ := O95.reads; have ⟨_, q0, q1, q2, _⟩ := (Ld.kept hb96).tl.tl.tl.ownBox) | (go_at_call 20; refine (eqBoard_same _ _ aB _ _ _ _ _ aB_l (Ld.kept hb96).tl.tl.tl.tl.ownInts O95).mono ?_; rintro e w99 ⟨rfl, hb100⟩))
    all_goals (go_wp2_with fail; go_meet; exact ⟨rfl, below_on (below_on hd hb96) hb100⟩)
  obtain ⟨rfl, hb101⟩ := hcut
  have L102 := L86.kept hb101
  clear L86 hb101 k87 k88 k89 k90 k91 k92
  generalize wc = w103 at *
  go_wp2_with fail
  refine (toIntS_any aP_a aP.length aP_p aP _ aP_l (L102.reads aP_h)).mono ?_
  rintro e w104 ⟨s105, rfl, O107, hb106⟩
  obtain ⟨a108, p109, rfl, _⟩ := O107.reads
  have L111 := L102.own hb106 O107
  clear L102 hb106 O107
  go_wp2_with fail
  refine (eqIntS_same aP _ _ _ _ _ aP_l L111.tl.tl.tl.ownInts L111.ownInts).mono ?_
  rintro e w112 ⟨rfl, hb113⟩
  have L114 := L111.kept hb113
  clear L111 hb113
  go_wp2_with fail
  refine (toIntS_any aWay_a aWay.length aWay_p aWay _ aWay_l (L114.reads aWay_h)).mono ?_
  rintro e w115 ⟨s116, rfl, O118, hb117⟩
  obtain ⟨a119, p120, rfl, _⟩ := O118.reads
  have L122 := L114.own hb117 O118
  clear L114 hb117 O118
  go_wp2_with fail
  refine (eqIntS_same aWay _ _ _ _ _ aWay_l L122.tl.tl.tl.ownInts L122.ownInts).mono ?_
  rintro e w123 ⟨rfl, hb124⟩
  have L125 := L122.kept hb124
  clear L122 hb124
  have ⟨_, k126, k127, k128, _⟩ := L125.tl.tl.tl.tl.tl.ownBox
  go_wp2_with fail
  refine (markBoard_any _ _ _ aB (1) _ _ aB_l (by omega) (by omega) L125.tl.tl.tl.tl.tl.tl.ownInts).mono ?_
  rintro e w129 ⟨rfl, O130, hg131⟩
  have L132 := Law.mark (ts := [_, _, _, _, _, _]) L125 hg131 O130
  simp only [List.cons_append, List.nil_append] at L132
  clear L125 hg131 O130 k126 k127 k128
  go_wp2_with fail
  refine (markIntS_any _ _ aP (1 + aB.length) _ aP_l (by omega) (by omega) L132.tl.tl.tl.tl.ownInts).mono ?_
  rintro e w133 ⟨rfl, O134, hg135⟩
  have L136 := Law.mark (ts := [_, _, _, _]) L132 hg135 O134
  simp only [List.cons_append, List.nil_append] at L136
  clear L132 hg135 O134 
  go_wp2_with fail
  refine (markIntS_any _ _ aWay (1 + aB.length + aP.length) _ aWay_l (by omega) (by omega) L136.tl.tl.tl.ownInts).mono ?_
  rintro e w137 ⟨rfl, O138, hg139⟩
  have L140 := Law.mark (ts := [_, _, _]) L136 hg139 O138
  simp only [List.cons_append, List.nil_append] at L140
  clear L136 hg139 O138 
  go_wp2_with fail
  refine (eqIntS_same ys0 _ _ _ _ _ ys0_len L140.tl.tl.ownInts L140.tl.tl.tl.tl.tl.tl.tl.ownInts).mono ?_
  rintro e w141 ⟨rfl, hb142⟩
  have L143 := L140.kept hb142
  clear L140 hb142
  go_wp2_with fail
  refine (markIntS_any _ _ ys0 (1) _ ys0_len (by omega) (by omega) L143.tl.tl.ownInts).mono ?_
  rintro e w144 ⟨rfl, O145, hg146⟩
  have L147 := Law.mark (ts := [_, _]) L143 hg146 O145
  simp only [List.cons_append, List.nil_append] at L147
  clear L143 hg146 O145 
  go_wp2_with fail
  refine (heldIntS_below _ _ ys0.length (1) _ ys0_len (by omega) (by omega) L147.tl.tl.ownInts).mono ?_
  rintro e w148 ⟨rfl, hb149⟩
  have L150 := L147.kept hb149
  clear L147 hb149
  have ⟨_, k151, k152, k153, _⟩ := L150.tl.tl.tl.tl.tl.tl.tl.tl.tl.tl.tl.ownBox
  go_wp2_with fail
  refine (toBoard_any aB_r aB_c aB_a aB.length aB_p aB _ aB_l (L150.reads aB_h)).mono ?_
  rintro e w154 ⟨_, rfl, ⟨s155, rfl, O157⟩, hb156⟩
  obtain ⟨a158, p159, rfl, _⟩ := O157.reads
  have L161 := L150.own hb156 O157
  clear L150 hb156 O157 k151 k152 k153
  go_wp2_with fail
  refine (toIntS_any aP_a aP.length aP_p aP _ aP_l (L161.reads aP_h)).mono ?_
  rintro e w162 ⟨s163, rfl, O165, hb164⟩
  obtain ⟨a166, p167, rfl, _⟩ := O165.reads
  have L169 := L161.own hb164 O165
  clear L161 hb164 O165
  go_wp2_with fail
  refine (toIntS_any aWay_a aWay.length aWay_p aWay _ aWay_l (L169.reads aWay_h)).mono ?_
  rintro e w170 ⟨s171, rfl, O173, hb172⟩
  obtain ⟨a174, p175, rfl, _⟩ := O173.reads
  have L177 := L169.own hb172 O173
  clear L169 hb172 O173
  go_wp2_with fail
  refine (HI.out _ _ _ _ _ _ _ L177.tl.tl.ownInts L177.tl.ownInts L177.ownInts).mono ?_
  rintro e w178 ⟨s180, rfl, O181, hb179⟩
  obtain ⟨a183, p184, rfl, _⟩ := O181.reads
  have L186 := L177.own hb179 O181
  clear L177 hb179 O181
  go_wp2_with fail
  refine (eqIntS_same ys0 _ _ _ _ _ ys0_len L186.ownInts L186.tl.tl.tl.tl.tl.tl.tl.tl.tl.tl.tl.ownInts).mono ?_
  rintro e w187 ⟨rfl, hb188⟩
  have L189 := L186.kept hb188
  clear L186 hb188
  go_wp2_with fail
  refine (heldIntS_below _ _ ys0.length (1) _ ys0_len (by omega) (by omega) L189.tl.tl.tl.tl.tl.tl.ownInts).mono ?_
  rintro e w190 ⟨rfl, hb191⟩
  have L192 := L189.kept hb191
  clear L189 hb191
  go_wp2_with fail
  go_ret
  exact ⟨rfl, L192.below⟩

set_option maxRecDepth 100000 in
set_option maxHeartbeats 800000 in
theorem walk_big0 (aB_r aB_c : Int) (aB_a : Option Addr) (aB_p : Nat) (aB : List Int) (aP_a : Option Addr) (aP_p : Nat) (aP : List Int) (aWay_a : Option Addr) (aWay_p : Nat) (aWay : List Int) (w : World) (aP_m : aP.length ≤ 9223372036854775807) (hbig : ¬ aP.length ≤ 1048576)  :
    Calls Try.prog 12 #[.agg #[.int .i64 aB_r, .int .i64 aB_c, .slice aB_a aB.length aB_p], .slice aP_a aP.length aP_p, .slice aWay_a aWay.length aWay_p] w fun e w' => e = .returned (.bool true) ∧ Below w.heap.size w w' := by
  have L0 := Law.start w
  have L1 := L0.box (.int .i64 aB_r) (.int .i64 aB_c) (.slice aB_a aB.length aB_p) 24
  have hb2 : 1048576 < aP.length := by omega
  clear hbig
  go_enter Try.func12, Try.ntmps12
  go_wp2_with fail
  go_ret
  exact ⟨rfl, L1.below⟩

set_option maxRecDepth 100000 in
set_option maxHeartbeats 800000 in
theorem walk_big1 (aB_r aB_c : Int) (aB_a : Option Addr) (aB_p : Nat) (aB : List Int) (aP_a : Option Addr) (aP_p : Nat) (aP : List Int) (aWay_a : Option Addr) (aWay_p : Nat) (aWay : List Int) (w : World) (aP_m : aP.length ≤ 9223372036854775807) (aWay_m : aWay.length ≤ 9223372036854775807) (aP_f : aP.length ≤ 1048576) (hbig : ¬ aWay.length ≤ 1048576)  :
    Calls Try.prog 12 #[.agg #[.int .i64 aB_r, .int .i64 aB_c, .slice aB_a aB.length aB_p], .slice aP_a aP.length aP_p, .slice aWay_a aWay.length aWay_p] w fun e w' => e = .returned (.bool true) ∧ Below w.heap.size w w' := by
  have L0 := Law.start w
  have L1 := L0.box (.int .i64 aB_r) (.int .i64 aB_c) (.slice aB_a aB.length aB_p) 24
  have hb2 : 1048576 < aWay.length := by omega
  clear hbig
  go_enter Try.func12, Try.ntmps12
  go_wp2_with fail
  go_ret
  exact ⟨rfl, L1.below⟩

set_option maxRecDepth 100000 in
set_option maxHeartbeats 800000 in
theorem walk_big2 (aB_r aB_c : Int) (aB_a : Option Addr) (aB_p : Nat) (aB : List Int) (aP_a : Option Addr) (aP_p : Nat) (aP : List Int) (aWay_a : Option Addr) (aWay_p : Nat) (aWay : List Int) (w : World) (aP_m : aP.length ≤ 9223372036854775807) (aWay_m : aWay.length ≤ 9223372036854775807) (aB_m : aB.length ≤ 9223372036854775807) (aP_f : aP.length ≤ 1048576) (aWay_f : aWay.length ≤ 1048576) (hbig : ¬ aB.length ≤ 1048576)  :
    Calls Try.prog 12 #[.agg #[.int .i64 aB_r, .int .i64 aB_c, .slice aB_a aB.length aB_p], .slice aP_a aP.length aP_p, .slice aWay_a aWay.length aWay_p] w fun e w' => e = .returned (.bool true) ∧ Below w.heap.size w w' := by
  have L0 := Law.start w
  have L1 := L0.box (.int .i64 aB_r) (.int .i64 aB_c) (.slice aB_a aB.length aB_p) 24
  have aB_z := Lib.hid (show szN (1048576) aB.length = -1 by unfold szN; rw [if_pos (by omega)])
  go_enter Try.func12, Try.ntmps12
  have ⟨_, k0, k1, k2, _⟩ := L1.ownBox
  go_wp2_with fail
  refine (szBoard_any aB_r aB_c aB_a aB.length aB_p (1048576) _ (by omega) (by omega) (by omega)).mono ?_
  rintro e v2 ⟨rfl, hb⟩
  rw [aB_z.out]
  have L2 := L1.kept hb
  clear L1 hb k0 k1 k2
  go_wp2_with fail
  go_ret
  exact ⟨rfl, L2.below⟩

theorem walk_all (aB_r aB_c : Int) (aB_a : Option Addr) (aB_p : Nat) (aB : List Int) (aP_a : Option Addr) (aP_p : Nat) (aP : List Int) (aWay_a : Option Addr) (aWay_p : Nat) (aWay : List Int) (w : World) (aB_m : aB.length ≤ 9223372036854775807) (aP_m : aP.length ≤ 9223372036854775807) (aWay_m : aWay.length ≤ 9223372036854775807) (aB_h : Reads w aB_a aB.length aB) (aP_h : Reads w aP_a aP.length aP) (aWay_h : Reads w aWay_a aWay.length aWay) :
    Calls Try.prog 12 #[.agg #[.int .i64 aB_r, .int .i64 aB_c, .slice aB_a aB.length aB_p], .slice aP_a aP.length aP_p, .slice aWay_a aWay.length aWay_p] w fun e w' => e = .returned (.bool true) ∧ Below w.heap.size w w' := by
  by_cases c0 : aP.length ≤ 1048576
  case neg => exact walk_big0 aB_r aB_c aB_a aB_p aB aP_a aP_p aP aWay_a aWay_p aWay w aP_m  c0
  by_cases c1 : aWay.length ≤ 1048576
  case neg => exact walk_big1 aB_r aB_c aB_a aB_p aB aP_a aP_p aP aWay_a aWay_p aWay w aP_m aWay_m c0 c1
  by_cases c2 : aB.length ≤ 1048576
  case neg => exact walk_big2 aB_r aB_c aB_a aB_p aB aP_a aP_p aP aWay_a aWay_p aWay w aP_m aWay_m aB_m c0 c1 c2
  have hS : ∀ (w : World) (loaB : Nat) (aB_s : Value) (loaP : Nat) (aP_s : Value) (loaWay : Nat) (aWay_s : Value), Own w loaB aB_s aB → Own w loaP aP_s aP → Own w loaWay aWay_s aWay → Calls Try.prog 52 #[.agg #[.int .i64 aB_r, .int .i64 aB_c, aB_s], aP_s, aWay_s] w (AnsL (wayR aB_r aB_c aB aP aWay) w) := fun w loaB aB_s loaP aP_s loaWay aWay_s OaB OaP OaWay => specFol_any aB_r aB_c aB aP aWay w (by omega) (by omega) (by omega) loaB aB_s loaP aP_s loaWay aWay_s OaB OaP OaWay
  have hI : ∀ (w : World) (loaB : Nat) (aB_s : Value) (loaP : Nat) (aP_s : Value) (loaWay : Nat) (aWay_s : Value), Own w loaB aB_s aB → Own w loaP aP_s aP → Own w loaWay aWay_s aWay → Calls Try.prog 53 #[.agg #[.int .i64 aB_r, .int .i64 aB_c, aB_s], aP_s, aWay_s] w (AnsL (wayR aB_r aB_c aB aP aWay) w) := fun w loaB aB_s loaP aP_s loaWay aWay_s OaB OaP OaWay => implFol_any aB_r aB_c aB aP aWay w (by omega) (by omega) (by omega) loaB aB_s loaP aP_s loaWay aWay_s OaB OaP OaWay
  have hy := wayR_len aB_r aB_c aB aP aWay
  generalize wayR aB_r aB_c aB aP aWay = R at *
  obtain ⟨ys0, b1⟩ := R
  exact walk aB_r aB_c aB_a aB_p aB aP_a aP_p aP aWay_a aWay_p aWay ys0 b1 w c0 c1 c2 aB_h aP_h aWay_h hy hS hI

set_option maxRecDepth 100000 in
theorem contract (H : Type) (enc : TypeId × Value → H) (W : World) (base : Nat) (args : Array Value) (ds gs : List (DataW H)) (before : List MemPlace)
    (hval : ∀ (j : Nat) t v, Try.f12.params[j]? = some t → args[j]? = some v → Value.okWide Try.prog W .any base t v)
    (hW : DataW.Whole enc Try.prog Try.f12.params.toList Rows.fnExactFollowWaySpec.vars false W args.toList ds gs before) :
    Calls Try.prog 12 args W fun e W' => ∃ v, e = .returned v ∧ Rows.fnExactFollowWaySpec.post enc Try.prog Try.f12 false true false false W args v W' := by
  have hW' := hW
  obtain ⟨p, q, hA0, hV, rfl, hfz, hnd⟩ := hW
  have hA : DataW.TrodAll enc Try.prog W 0 (fun _ => true) true Try.f12.params.toList args.toList ds p := hA0
  rw [Try.params12] at hA hval
  obtain ⟨v0, v1, v2, d0, d1, d2, p0, p1, p2, rfl, rfl, rfl, h0, h1, h2⟩ := trodAll_three hA
  obtain ⟨rfl, rfl⟩ := trodVars_none hV
  clear hA0
  simp only [List.append_nil] at hW'
  have hlt : ∀ x ∈ p0 ++ (p1 ++ p2), x.block < W.heap.size := fun x hx => by have := hW'.lt x (by simpa using hx); simpa using this
  have t0 := h0
  obtain ⟨aB_r, aB_c, aB_a, aB_n, aB_p, aB, rfl, aB_m, aB_h⟩ := open_board (hval 0 24 v0 rfl rfl) h0
  obtain rfl := aB_h.1
  have t1 := h1
  obtain ⟨aP_a, aP_n, aP_p, rfl⟩ := okWide_slice Try.underlying22 (hval 1 22 v1 rfl rfl)
  obtain ⟨fu1, hf1⟩ := h1
  obtain ⟨aP_m, aP, aP_h⟩ := reads_of (by simpa [Value.cells] using hf1)
  obtain rfl := aP_h.1
  have t2 := h2
  obtain ⟨aWay_a, aWay_n, aWay_p, rfl⟩ := okWide_slice Try.underlying22 (hval 2 22 v2 rfl rfl)
  obtain ⟨fu2, hf2⟩ := h2
  obtain ⟨aWay_m, aWay, aWay_h⟩ := reads_of (by simpa [Value.cells] using hf2)
  obtain rfl := aWay_h.1
  refine (walk_all aB_r aB_c aB_a aB_p aB aP_a aP_p aP aWay_a aWay_p aWay W aB_m aP_m aWay_m aB_h aP_h aWay_h).mono ?_
  rintro e W' ⟨rfl, hb⟩
  exact ⟨_, rfl, _, _, _, [], _, [], hW', trodAll_mk1 (shut_bool Try.underlying4 _), trodAll_mk3 (Below.trod Try.laidOut (by kernel_rfl) (of_decide_eq_true (by kernel_rfl)) t0 hb (fun x hx => hlt x (by simp [hx]))) (Below.trod Try.laidOut (by kernel_rfl) (of_decide_eq_true (by kernel_rfl)) t1 hb (fun x hx => hlt x (by simp [hx]))) (Below.trod Try.laidOut (by kernel_rfl) (of_decide_eq_true (by kernel_rfl)) t2 hb (fun x hx => hlt x (by simp [hx]))), rfl, hb.frame _, fun h => by cases h⟩

set_option maxRecDepth 100000 in
theorem lifted (os : Os) (started : os.Started) (H : Type) (enc : TypeId × Value → H) :
    ReturnsInHanded {} Try.checked os 12 .any (Rows.fnExactFollowWaySpec.pre6 enc Try.prog Try.f12 Rows.fnExactFollowWayRow.domain false) (Rows.fnExactFollowWaySpec.post enc Try.prog Try.f12 false true false false) := by
  refine returnsInHanded_of_change (C := Try.checked) Try.own started (by kernel_rfl) Try.func12
    (ChangeSpec.witness6 (enc := enc) (C := Try.checked) false ⟨#[], #[.agg #[.int .i64 0, .int .i64 0, .slice none 0 0], .slice none 0 0, .slice none 0 0], []⟩ 8 (by kernel_rfl) (by kernel_rfl) (by kernel_rfl) (by kernel_rfl)) ?_
  intro W base args ds gs before hval hW _ _
  exact contract H enc W base args ds gs before hval hW

theorem holds : Rows.FnExactFollowWaySaid :=
  OpenClaim.holds_of_wide 12 Try.f12 rfl rfl rfl rfl rfl rfl rfl ⟨rfl, rfl, rfl, rfl, rfl⟩ rfl rfl rfl rfl rfl (by kernel_rfl) Try.func12 (by kernel_rfl)
    (of_decide_eq_true (by kernel_rfl)) (by unfold Func.isWrapper; first | (rw [if_pos (by decide +kernel)]; kernel_rfl) | (rw [if_neg (by decide +kernel)]; exact ⟨rfl, rfl⟩))
    (fun os started H enc _ => lifted os started H enc)

#print axioms holds
end Go.Proofs.Ytdimbnkgomfojab.lFollowWay
