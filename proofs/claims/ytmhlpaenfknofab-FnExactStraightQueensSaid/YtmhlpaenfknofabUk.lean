/- Lists that are written number by number: shifts and straight lists, in both texts. No condition but the sizes. -/
import Derived.Test.YtmhlpaenfknofabUe
import Derived.Test.YtmhlpaenfknofabAp
import Derived.Deep.RegionHeld3
namespace Go.Proofs.Ytmhlpaenfknofab
open Go.RowKit Go.WideShapes

/-- Writes, one behind the other. -/
def wrG (ix : Nat → Nat) (va : Nat → Int) (xs : List Int) : Nat → List Int
  | 0 => xs
  | k + 1 => (wrG ix va xs k).set (ix k) (va k)
theorem wrG_len (ix : Nat → Nat) (va : Nat → Int) (xs : List Int) (k : Nat) : (wrG ix va xs k).length = xs.length := by
  induction k with
  | zero => rfl
  | succ k ih => rw [wrG, List.length_set, ih]
theorem wrG_in (ix : Nat → Nat) (va : Nat → Int) (n : Nat) (xs : List Int) (h1 : ∀ x ∈ xs, 0 ≤ x ∧ x < (n : Int)) (k : Nat) (h2 : ∀ j, j < k → 0 ≤ va j ∧ va j < (n : Int)) : ∀ x ∈ wrG ix va xs k, 0 ≤ x ∧ x < (n : Int) := by
  induction k with
  | zero => exact h1
  | succ k ih =>
    intro x hx
    rw [wrG] at hx
    rcases List.mem_or_eq_of_mem_set hx with h | h
    · exact ih (fun j hj => h2 j (by omega)) x h
    · rw [h]; exact h2 k (by omega)
def modI (x n : Int) : Int := (x.tmod n + n).tmod n
theorem tmod_bd (x n : Int) (hn : 1 ≤ n) : -n < x.tmod n ∧ x.tmod n < n := by
  have h2 := Int.tmod_lt_of_pos x (show 0 < n by omega)
  have h1 := Int.tmod_lt_of_pos (-x) (show 0 < n by omega)
  rw [Int.neg_tmod] at h1
  omega
theorem modI_bd (x n : Int) (hn : 1 ≤ n) : 0 ≤ modI x n ∧ modI x n < n := by
  have h := tmod_bd x n hn
  unfold modI
  exact ⟨Int.tmod_nonneg n (by omega), (tmod_bd _ n hn).2⟩
def shL (q : List Int) (a b : Int) : List Int := wrG (fun r => (modI ((r : Int) + a) q.length).toNat) (fun r => modI (q.getD r 0 + b) q.length) (List.replicate q.length 0) q.length
def shR (q : List Int) (a b : Int) : LR := if gdB q && (inB (-100) a 100 && inB (-100) b 100) then ⟨shL q a b, true⟩ else ⟨[], false⟩
theorem shL_len (q : List Int) (a b : Int) : (shL q a b).length = q.length := by unfold shL; rw [wrG_len, List.length_replicate]
theorem shR_len (q : List Int) (a b : Int) : (shR q a b).ys.length ≤ 1048576 := by
  unfold shR
  split
  · rename_i h
    rw [Bool.and_eq_true] at h
    have := (gd_facts h.1).2.1
    simp only
    rw [shL_len]
    omega
  · simp

theorem modulo_any (x : Int) (n : Nat) (w : World) (hn : 1 ≤ n ∧ n ≤ 8) : Calls Try.prog 41 #[.int .i64 x, .int .i64 n] w fun e w' => e = .returned (.int .i64 (modI x n)) ∧ w' = w := by
  have hb := tmod_bd x n (by omega)
  unfold modI
  have h0 : ((n : Int) == 0) = false := by rw [beq_eq_false_iff_ne]; omega
  have hw : wrap64 (x.tmod n + n) = x.tmod n + n := IntWalk.wrap64_in _ (by omega)
  go_enter Try.func41, Try.ntmps41
  go_wp2_with fail
  go_ret
  exact ⟨ret_int (Int.tmod_eq_emod_of_nonneg (by omega)).symm, rfl⟩
theorem quMod_any (x : Int) (n : Nat) (w : World) (hn : 1 ≤ n ∧ n ≤ 8) : Calls Try.prog 39 #[.int .i64 x, .int .i64 n] w fun e w' => e = .returned (.int .i64 (modI x n)) ∧ w' = w := by
  have hb := tmod_bd x n (by omega)
  unfold modI
  have h0 : ((n : Int) == 0) = false := by rw [beq_eq_false_iff_ne]; omega
  have hw : wrap64 (x.tmod n + n) = x.tmod n + n := IntWalk.wrap64_in _ (by omega)
  go_enter Try.func39, Try.ntmps39
  go_wp2_with fail
  go_ret
  exact ⟨ret_int (Int.tmod_eq_emod_of_nonneg (by omega)).symm, rfl⟩
theorem own_madeQ (w : World) (n : Nat) (hn : n ≤ 1048576) : Own (w.alloc (.cells (madeCells #[.int .i64 0] n) 3)) w.heap.size (.slice (some ⟨w.heap.size, 0, none⟩) n n) (List.replicate n 0) := by
  have h : Has (w.alloc (.cells (madeCells #[.int .i64 0] n) 3)) w.heap.size ((List.replicate n (0 : Int)).map (Value.int .i64)) 3 := by
    rw [made_eq, List.map_replicate]
    exact Has.new w _ _
  exact own_of_has h (Nat.le_refl _) (by simp) (by unfold maxLen; omega)
set_option maxRecDepth 100000 in
set_option maxHeartbeats 6400000 in
theorem specShi_any (xs : List Int) (a1 a2 : Int) (w : World) (hx : xs.length ≤ 1048576) (lo : Nat) (s : Value) (hO : Own w lo s xs) :
    Calls Try.prog 10 #[s, .int .i64 a1, .int .i64 a2] w fun e w' => AnsL (shR xs a1 a2) w e w' := by
  obtain ⟨a, cap, rfl, hr, hcap⟩ := own_form hO
  have HG := Lib.hid (quGood_any a cap xs w hx hcap hr)
  have HI1 := Lib.hid (l1In_any a1 (-100) 100 w)
  have HI2 := Lib.hid (l1In_any a2 (-100) 100 w)
  clear hO hcap
  cases hg : gdB xs
  · rw [show shR xs a1 a2 = ⟨[], false⟩ by simp [shR, hg]]
    rw [hg] at HG
    clear hg hr HI1 HI2
    generalize xs.length = m at *
    go_enter Try.func10, Try.ntmps10
    go_wp2_with (go_at_call 37; ((with_reducible refine HG.out.mono ?_); rintro e w' ⟨rfl, rfl⟩))
    go_ret2
    exact ⟨_, rfl, Own.nil _ _, Below.refl _ _⟩
  · cases h1 : inB (-100) a1 100
    · rw [show shR xs a1 a2 = ⟨[], false⟩ by simp [shR, hg, h1]]
      rw [hg] at HG
      rw [h1] at HI1
      clear hg hr HI2 h1
      generalize xs.length = m at *
      go_enter Try.func10, Try.ntmps10
      go_wp2_with (first | (go_at_call 37; ((with_reducible refine HG.out.mono ?_); rintro e w' ⟨rfl, rfl⟩)) | (go_at_call 38; ((with_reducible refine HI1.out.mono ?_); rintro e w' ⟨rfl, rfl⟩)))
      go_ret2
      exact ⟨_, rfl, Own.nil _ _, Below.refl _ _⟩
    · cases h2 : inB (-100) a2 100
      · rw [show shR xs a1 a2 = ⟨[], false⟩ by simp [shR, hg, h2]]
        rw [hg] at HG
        rw [h1] at HI1
        rw [h2] at HI2
        clear hg hr h1 h2
        generalize xs.length = m at *
        go_enter Try.func10, Try.ntmps10
        go_wp2_with (first | (go_at_call 37; ((with_reducible refine HG.out.mono ?_); rintro e w' ⟨rfl, rfl⟩)) | (go_at_call 38; ((with_reducible refine HI1.out.mono ?_); rintro e w' ⟨rfl, rfl⟩)) | (go_at_call 38; ((with_reducible refine HI2.out.mono ?_); rintro e w' ⟨rfl, rfl⟩)))
        go_ret2
        exact ⟨_, rfl, Own.nil _ _, Below.refl _ _⟩
      · rw [show shR xs a1 a2 = ⟨shL xs a1 a2, true⟩ by simp [shR, hg, h1, h2]]
        rw [hg] at HG
        rw [h1] at HI1
        rw [h2] at HI2
        rw [inB_iff] at h1 h2
        obtain ⟨c1, c8, _, _⟩ := gd_facts hg
        have HF := Lib.hid (gd_at hg)
        have HR := Lib.hid hr
        have HSL := Lib.hid (show shL xs a1 a2 = wrG (fun r => (modI ((r : Int) + a1) xs.length).toNat) (fun r => modI (xs.getD r 0 + a2) xs.length) (List.replicate xs.length 0) xs.length from rfl)
        clear hg hr
        obtain ⟨c, hcl⟩ : ∃ c, c = xs.length := ⟨_, rfl⟩
        rw [← hcl] at c1 c8 HF HR HSL HG ⊢
        clear hcl
        have HMD := Lib.hid (fun x W => quMod_any x c W ⟨c1, c8⟩)
        have HWL := Lib.hid (wrG_len (fun r => (modI ((r : Int) + a1) c).toNat) (fun r => modI (xs.getD r 0 + a2) c) (List.replicate c 0))
        have hmk := run_make_row' (P := Try.prog) 22 3 (.int .i64 0) 8 Try.underlying22 Try.infoI rfl .i64 .i64 c (by omega) (by omega)
        have HOM := Lib.hid ((Law.start w).own (below_new _) (own_madeQ w c (by omega)))
        go_enter Try.func10, Try.ntmps10
        go_wp2_with (first | (go_at_call 37; ((with_reducible refine HG.out.mono ?_); rintro e w' ⟨rfl, rfl⟩)) | (go_at_call 38; ((with_reducible refine HI1.out.mono ?_); rintro e w' ⟨rfl, rfl⟩)) | (go_at_call 38; ((with_reducible refine HI2.out.mono ?_); rintro e w' ⟨rfl, rfl⟩)))
        clear hmk HG HI1 HI2
        generalize w.alloc _ = w3 at *
        go_loopw [31] (fun i wr => ∃ k : Nat, k ≤ c ∧ i = .int .i64 k ∧ Hid (Law w [tOwn (.slice (some ⟨w.heap.size, 0, none⟩) c c) (wrG (fun r => (modI ((r : Int) + a1) c).toNat) (fun r => modI (xs.getD r 0 + a2) c) (List.replicate c 0) k)] wr)) (fun i _ => c - (intOf i).toNat)
        case atStart => exact ⟨0, Nat.zero_le _, rfl, HOM⟩
        case round =>
          clear HOM
          obtain ⟨k, hk, rfl, HL⟩ := hrel
          by_cases hlt : k < c
          · obtain ⟨b, off, rfl, _, hcx⟩ := reads_row (HL.out.reads HR.out) (by omega)
            have hck := hcx k hlt
            have hfk := HF.out k hlt
            clear hcx
            have hi := modI_bd ((k : Int) + a1) c (by omega)
            obtain ⟨z, hz⟩ := Int.eq_ofNat_of_zero_le hi.1
            have hzc : z < c := by omega
            have hlen := HWL.out k
            rw [List.length_replicate] at hlen
            have hst := HL.out.store (ts := []) hlen z (modI (xs.getD k 0 + a2) c)
            rw [show (wrG (fun r => (modI ((r : Int) + a1) c).toNat) (fun r => modI (xs.getD r 0 + a2) c) (List.replicate c 0) k).set z (modI (xs.getD k 0 + a2) c) = wrG (fun r => (modI ((r : Int) + a1) c).toNat) (fun r => modI (xs.getD r 0 + a2) c) (List.replicate c 0) (k + 1) from by rw [wrG]; show _ = List.set _ (modI ((k : Int) + a1) c).toNat _; rw [hz]; rfl] at hst
            have hO := HL.out.ownInts
            rw [show Value.slice (some ⟨w.heap.size, 0, none⟩) c c = .slice (some ⟨w.heap.size, 0, none⟩) (wrG (fun r => (modI ((r : Int) + a1) c).toNat) (fun r => modI (xs.getD r 0 + a2) c) (List.replicate c 0) k).length c by rw [hlen]] at hO
            have hcz := hO.cell z (by omega)
            have hfz := hO.free z
            have HS := Lib.hid hst
            have HM1 := Lib.hid (HMD.out ((k : Int) + a1) wr)
            have HM2 := Lib.hid (HMD.out (xs.getD k 0 + a2) wr)
            rw [hz] at HM1
            generalize xs.getD k 0 = x at *
            have hw1 : wrap64 ((k : Int) + a1) = (k : Int) + a1 := IntWalk.wrap64_in _ (by omega)
            have hw2 : wrap64 (x + a2) = x + a2 := IntWalk.wrap64_in _ (by omega)
            generalize modI (x + a2) c = y at *
            clear HL hst hO hlen hi hz
            generalize (wrG (fun r => (modI ((r : Int) + a1) c).toNat) (fun r => modI (xs.getD r 0 + a2) c) (List.replicate c 0) k).getD z 0 = old at *
            go_wp2_with (first | (go_at_call 39; ((with_reducible refine HM1.out.mono ?_); rintro e w' ⟨rfl, hw⟩; subst hw)) | (go_at_call 39; ((with_reducible refine HM2.out.mono ?_); rintro e w' ⟨rfl, hw⟩; subst hw)))
            clear hck hcz hfz
            go_roundw
            case rel => first | exact ⟨k + 1, by omega, by go_num, HS⟩ | ((repeat apply Exists.intro); exact ⟨⟨k + 1, by omega, by go_num, HS⟩, rfl⟩)
            case measure => simp [intOf]; omega
          · obtain rfl : k = c := by omega
            go_wp2_with fail
            go_ret2
            exact ⟨_, rfl, by rw [HSL.out]; exact HL.out.ownLo, HL.out.below⟩

set_option maxRecDepth 100000 in
set_option maxHeartbeats 12800000 in
theorem implShi_any (xs : List Int) (a1 a2 : Int) (w : World) (hx : xs.length ≤ 1048576) (lo : Nat) (s : Value) (hO : Own w lo s xs) :
    Calls Try.prog 12 #[s, .int .i64 a1, .int .i64 a2] w fun e w' => AnsL (shR xs a1 a2) w e w' := by
  obtain ⟨a, cap, rfl, hr, hcap⟩ := own_form hO
  have HC := Lib.hid (fullOf_any a cap xs w hx hcap hr)
  clear hO hcap hr
  cases hg : gdB xs
  · rw [show shR xs a1 a2 = ⟨[], false⟩ by simp [shR, hg]]
    rw [linV_no (by rw [lin_full]; exact hg)] at HC
    clear hg
    generalize xs.length = m at *
    go_enter Try.func12, Try.ntmps12
    go_wp2_with fail
    refine HC.out.mono ?_
    rintro e w2 ⟨rfl, hb⟩
    have HL := Lib.hid (((Law.start w).kept hb).kept (below_new (.cells #[.int .i64 0, .int .i64 0, .int .i64 0, .int .i64 0, .int .i64 0, .int .i64 0, .int .i64 0, .int .i64 0, .int .i64 0] 57)))
    clear hb HC
    go_upto_region 2 with fail
    generalize w2.alloc _ = w3 at *
    go_wp2_with fail
    go_ret2
    exact ⟨_, rfl, Own.nil _ _, HL.out.below⟩
  · rw [linV_yes (by rw [lin_full]; exact hg)] at HC
    by_cases hab : (-100 ≤ a1 ∧ a1 ≤ 100) ∧ (-100 ≤ a2 ∧ a2 ≤ 100)
    · rw [show shR xs a1 a2 = ⟨shL xs a1 a2, true⟩ by simp [shR, hg, inB, hab]]
      obtain ⟨⟨p1, p2⟩, p3, p4⟩ := hab
      obtain ⟨c1, c8, _, _⟩ := gd_facts hg
      have HF := Lib.hid (gd_at hg)
      have HSL := Lib.hid (show shL xs a1 a2 = wrG (fun r => (modI ((r : Int) + a1) xs.length).toNat) (fun r => modI (xs.getD r 0 + a2) xs.length) (List.replicate xs.length 0) xs.length from rfl)
      have HCF := Lib.hid (fun k => show cF xs k = xs.getD k 0 from rfl)
      clear hg
      generalize cF xs = F at *
      obtain ⟨c, hcl⟩ : ∃ c, c = xs.length := ⟨_, rfl⟩
      rw [← hcl] at c1 c8 HF HSL HC ⊢
      clear hcl
      have HMD := Lib.hid (fun x W => modulo_any x c W ⟨c1, c8⟩)
      have HWL := Lib.hid (wrG_len (fun r => (modI ((r : Int) + a1) c).toNat) (fun r => modI (xs.getD r 0 + a2) c) (List.replicate c 0))
      have hmk := run_make_row' (P := Try.prog) 22 3 (.int .i64 0) 8 Try.underlying22 Try.infoI rfl .i64 .i64 c (by omega) (by omega)
      go_enter Try.func12, Try.ntmps12
      go_wp2_with fail
      refine HC.out.mono ?_
      rintro e w2 ⟨rfl, hb⟩
      have HL := Lib.hid (((Law.start w).kept hb).has (ql c F) 57)
      rw [show w2.alloc (.cells (ql c F).toArray 57) = w2.alloc (.cells #[.int .i64 c, .int .i64 (F 0), .int .i64 (F 1), .int .i64 (F 2), .int .i64 (F 3), .int .i64 (F 4), .int .i64 (F 5), .int .i64 (F 6), .int .i64 (F 7)] 57) from rfl] at HL
      clear hb HC
      go_upto_region 2 with fail
      obtain ⟨b0, hb0⟩ : ∃ b0, b0 = w2.heap.size := ⟨_, rfl⟩
      rw [← hb0] at HL ⊢
      generalize w2.alloc _ = w3 at *
      clear hb0
      obtain ⟨f0, f1, f2, f3, f4, f5, f6, f7, f8, _⟩ := ql_held HL.out.ownHas
      have HOM := Lib.hid (HL.out.own (below_new _) (own_madeQ w3 c (by omega)))
      go_upto_region 5 with fail
      obtain ⟨b1, hb1⟩ : ∃ b1, b1 = w3.heap.size := ⟨_, rfl⟩
      rw [← hb1] at HOM ⊢
      generalize w3.alloc _ = w4 at *
      clear hb1 f0 f1 f2 f3 f4 f5 f6 f7 f8 HL hmk
      obtain ⟨f0, _⟩ := ql_held HOM.out.tl.ownHas
      go_wp2_with fail
      clear f0
      go_loopw [40] (fun i wr => ∃ k : Nat, k ≤ c ∧ i = .int .i64 k ∧ Hid (Law w [tOwn (.slice (some ⟨b1, 0, none⟩) c c) (wrG (fun r => (modI ((r : Int) + a1) c).toNat) (fun r => modI (xs.getD r 0 + a2) c) (List.replicate c 0) k), tHas b0 (ql c F) 57] wr)) (fun i _ => c - (intOf i).toNat)
      case atStart => exact ⟨0, Nat.zero_le _, rfl, HOM⟩
      case round =>
        clear HOM
        obtain ⟨k, hk, rfl, HL⟩ := hrel
        obtain ⟨wo, rfl⟩ : ∃ wo : World, wo = wr := ⟨_, rfl⟩
        by_cases hlt : k < c
        · have hk8 : k < 8 := by omega
          have hfk := HF.out k hlt
          have hi := modI_bd ((k : Int) + a1) c (by omega)
          obtain ⟨z, hz⟩ := Int.eq_ofNat_of_zero_le hi.1
          have hzc : (z : Int) < c := by omega
          have hlen := HWL.out k
          rw [List.length_replicate] at hlen
          have hst := HL.out.drew.store (ts := []) hlen z (modI (xs.getD k 0 + a2) c)
          rw [show (wrG (fun r => (modI ((r : Int) + a1) c).toNat) (fun r => modI (xs.getD r 0 + a2) c) (List.replicate c 0) k).set z (modI (xs.getD k 0 + a2) c) = wrG (fun r => (modI ((r : Int) + a1) c).toNat) (fun r => modI (xs.getD r 0 + a2) c) (List.replicate c 0) (k + 1) from by rw [wrG]; show _ = List.set _ (modI ((k : Int) + a1) c).toNat _; rw [hz]; rfl] at hst
          have hO := HL.out.ownInts
          rw [show Value.slice (some ⟨b1, 0, none⟩) c c = .slice (some ⟨b1, 0, none⟩) (wrG (fun r => (modI ((r : Int) + a1) c).toNat) (fun r => modI (xs.getD r 0 + a2) c) (List.replicate c 0) k).length c by rw [hlen]] at hO
          have hcz := hO.cell z (by omega)
          have hfz := hO.free z
          have HS := Lib.hid hst
          have HM1 := Lib.hid (HMD.out ((k : Int) + a1))
          have HM2 := Lib.hid (HMD.out (xs.getD k 0 + a2))
          rw [hz] at HM1
          obtain ⟨g0, g1, g2, g3, g4, g5, g6, g7, g8, gf⟩ := ql_held HL.out.tl.ownHas
          have hgk := HL.out.tl.ownHas.cell (1 + k)
          rw [ql_get _ _ k hk8, HCF.out k] at hgk
          have hs0 : (wo.setCell ⟨b1, z, none⟩ (.int .i64 (modI (xs.getD k 0 + a2) c))).cell? ⟨b0, 0, none⟩ = some (.int .i64 c) := HS.out.tl.ownHas.cell 0
          have hsk : (wo.setCell ⟨b1, z, none⟩ (.int .i64 (modI (xs.getD k 0 + a2) c))).cell? ⟨b0, 1 + k, none⟩ = some (.int .i64 (xs.getD k 0)) := by
            have h := HS.out.tl.ownHas.cell (1 + k)
            rw [ql_get _ _ k hk8, HCF.out k] at h
            exact h
          generalize xs.getD k 0 = x at *
          have hw1 : IntKind.i64.wrap ((k : Int) + a1) = (k : Int) + a1 := IntWalk.i64_in _ (by omega)
          have hw2 : IntKind.i64.wrap (x + a2) = x + a2 := IntWalk.i64_in _ (by omega)
          have hk0 : (0 : Int) ≤ k := by omega
          have hk88 : (k : Int) < 8 := by omega
          have hz0 : (0 : Int) ≤ z := by omega
          generalize modI (x + a2) c = y at *
          clear HL hst hO hlen hi hz g1 g2 g3 g4 g5 g6 g7 g8 gf
          generalize (wrG (fun r => (modI ((r : Int) + a1) c).toNat) (fun r => modI (xs.getD r 0 + a2) c) (List.replicate c 0) k).getD z 0 = old at *
          go_upto_region 8 with fail
          go_region_held3 (fun w' => w'.cell? ⟨b0, 0, none⟩ = some (.int .i64 c) ∧ w'.cell? ⟨b0, 1 + k, none⟩ = some (.int .i64 x)) (first | exact ⟨g0, hgk⟩ | exact ⟨hs0, hsk⟩) ((first
            | (go_at_call 41; ((with_reducible refine (HM1.out _).mono ?_); rintro r wA ⟨rfl, hw⟩; subst hw))
            | (go_at_call 41; ((with_reducible refine (HM2.out _).mono ?_); rintro r wA ⟨rfl, hw⟩; subst hw))
            | fail))
          clear g0 hgk hcz hfz hs0 hsk HM1 HM2
          go_wp2_with fail
          go_roundw
          case rel => first | exact ⟨k + 1, by omega, by go_num, HS⟩ | ((repeat apply Exists.intro); exact ⟨⟨k + 1, by omega, by go_num, HS⟩, rfl⟩)
          case measure => simp [intOf]; omega
        · obtain rfl : k = c := by omega
          go_wp2_with fail
          go_ret2
          exact ⟨_, rfl, by rw [HSL.out]; exact HL.out.ownLo, HL.out.below⟩
    · rw [show shR xs a1 a2 = ⟨[], false⟩ by
        simp only [shR, inB, hg, Bool.true_and]
        rw [if_neg]
        simp only [Bool.and_eq_true, decide_eq_true_eq]
        exact hab]
      clear hg
      generalize cF xs = F at *
      generalize xs.length = m at *
      go_enter Try.func12, Try.ntmps12
      go_wp2_with fail
      refine HC.out.mono ?_
      rintro e w2 ⟨rfl, hb⟩
      have HL := Lib.hid (((Law.start w).kept hb).kept (below_new (.cells #[.int .i64 m, .int .i64 (F 0), .int .i64 (F 1), .int .i64 (F 2), .int .i64 (F 3), .int .i64 (F 4), .int .i64 (F 5), .int .i64 (F 6), .int .i64 (F 7)] 57)))
      clear hb HC
      go_upto_region 2 with fail
      generalize w2.alloc _ = w3 at *
      by_cases k1 : a1 < -100
      · go_wp2_with fail
        go_ret2
        exact ⟨_, rfl, Own.nil _ _, HL.out.below⟩
      · by_cases k2 : 100 < a1
        · go_wp2_with fail
          go_ret2
          exact ⟨_, rfl, Own.nil _ _, HL.out.below⟩
        · by_cases k3 : a2 < -100
          · go_wp2_with fail
            go_ret2
            exact ⟨_, rfl, Own.nil _ _, HL.out.below⟩
          · have k4 : 100 < a2 := by omega
            go_wp2_with fail
            go_ret2
            exact ⟨_, rfl, Own.nil _ _, HL.out.below⟩

/-- The straight list. -/
def strL (n : Nat) (st : Int) : List Int := (List.range n).map (fun (r : Nat) => (st * r).tmod n)
def strR (n st : Int) : LR := if inB 1 n 8 && (inB (min 1 (n - 1)) st (n - 1) && gdB (strL n.toNat st)) then ⟨strL n.toNat st, true⟩ else ⟨[], false⟩
theorem strL_len (n : Nat) (st : Int) : (strL n st).length = n := by simp [strL]
theorem strR_len (n st : Int) : (strR n st).ys.length ≤ 1048576 := by
  unfold strR
  split
  · rename_i h
    rw [Bool.and_eq_true, inB_iff] at h
    simp only
    rw [strL_len]
    omega
  · simp
theorem strL_get (n : Nat) (st : Int) (k : Nat) (hk : k < n) : (strL n st).getD k 0 = (st * k).tmod n := by
  simp [strL, List.getD, hk]
theorem strL_zero : ∀ n : Fin 9, 2 ≤ (n : Nat) → gdB (strL n 0) = false := by decide +kernel
theorem strL_succ (n : Nat) (st : Int) (k : Nat) (hk : k < n) : (strL n st).take (k + 1) = (strL n st).take k ++ [(st * k).tmod n] := by
  have h : k < (strL n st).length := by rw [strL_len]; exact hk
  rw [List.take_succ_eq_append_getElem h]
  have := strL_get n st k hk
  simp only [List.getD, List.getElem?_eq_getElem h, Option.getD_some] at this
  rw [this]
theorem mul_small (st : Int) (k n : Nat) (h0 : 0 ≤ st) (h1 : st < n) (hk : k < n) (hn : n ≤ 8) : 0 ≤ st * k ∧ st * k ≤ 64 := by
  obtain ⟨s, rfl⟩ := Int.eq_ofNat_of_zero_le h0
  have : s * k ≤ 8 * 8 := Nat.mul_le_mul (by omega) (by omega)
  have e : (s : Int) * k = ((s * k : Nat) : Int) := by push_cast; rfl
  rw [e]
  omega
theorem leastQ_any (x y : Int) (w : World) : Calls Try.prog 43 #[.int .i64 x, .int .i64 y] w fun e w' => e = .returned (.int .i64 (min x y)) ∧ w = w' := by
  by_cases h : x < y
  · rw [show min x y = x by omega]
    go_enter Try.func43, Try.ntmps43
    go_wp2_with fail
    go_ret
    exact ⟨rfl, rfl⟩
  · rw [show min x y = y by omega]
    go_enter Try.func43, Try.ntmps43
    go_wp2_with fail
    go_ret
    exact ⟨rfl, rfl⟩
set_option maxRecDepth 100000 in
set_option maxHeartbeats 6400000 in
theorem specStr_any (n st : Int) (w : World) : Calls Try.prog 16 #[.int .i64 n, .int .i64 st] w fun e w' => AnsL (strR n st) w e w' := by
  have HQ := Lib.hid (quSide_any n w)
  by_cases hq : 1 ≤ n ∧ n ≤ 8
  · rw [inB_yes hq.1 hq.2] at HQ
    obtain ⟨m, rfl⟩ := Int.eq_ofNat_of_zero_le (show 0 ≤ n by omega)
    obtain ⟨q1, q8⟩ := hq
    have HM := Lib.hid (leastQ_any 1 ((m : Int) - 1) w)
    have HI := Lib.hid (l1In_any st (min 1 ((m : Int) - 1)) ((m : Int) - 1) w)
    have hw1 : wrap64 ((m : Int) - 1) = (m : Int) - 1 := IntWalk.wrap64_in _ (by omega)
    cases hb : inB (min 1 ((m : Int) - 1)) st ((m : Int) - 1)
    · rw [show strR m st = ⟨[], false⟩ by simp [strR, hb]]
      rw [hb] at HI
      clear hb
      generalize min 1 ((m : Int) - 1) = z at *
      go_enter Try.func16, Try.ntmps16
      go_wp2_with (first | (go_at_call 42; ((with_reducible refine HQ.out.mono ?_); rintro e w' ⟨rfl, rfl⟩)) | (go_at_call 43; ((with_reducible refine HM.out.mono ?_); rintro e w' ⟨rfl, rfl⟩)) | (go_at_call 38; ((with_reducible refine HI.out.mono ?_); rintro e w' ⟨rfl, rfl⟩)))
      go_ret2
      exact ⟨_, rfl, Own.nil _ _, Below.refl _ _⟩
    · rw [hb] at HI
      have hbb := inB_iff.1 hb
      have hst : 0 ≤ st ∧ st < m := by omega
      have HR := Lib.hid (show strR m st = if gdB (strL m st) then ⟨strL m st, true⟩ else ⟨[], false⟩ by simp [strR, hb, inB_yes q1 q8])
      have HSU := Lib.hid (strL_succ m st)
      have HLN := Lib.hid (strL_len m st)
      have HMU := Lib.hid (fun k (hk : k < m) => mul_small st k m hst.1 hst.2 hk (by omega))
      have HOM := Lib.hid ((Law.start w).own (Below.refl _ _) (Own.nil _ _))
      clear hb hbb
      generalize strL m st = S at *
      generalize min 1 ((m : Int) - 1) = z at *
      go_enter Try.func16, Try.ntmps16
      go_wp2_with (first | (go_at_call 42; ((with_reducible refine HQ.out.mono ?_); rintro e w' ⟨rfl, rfl⟩)) | (go_at_call 43; ((with_reducible refine HM.out.mono ?_); rintro e w' ⟨rfl, rfl⟩)) | (go_at_call 38; ((with_reducible refine HI.out.mono ?_); rintro e w' ⟨rfl, rfl⟩)))
      go_loopw [6, 7] (fun v i wr => ∃ k : Nat, k ≤ m ∧ i = .int .i64 k ∧ Law w [tOwn v (S.take k)] wr) (fun _ i _ => m - (intOf i).toNat)
      case atStart => exact ⟨0, Nat.zero_le _, rfl, HOM.out⟩
      case round =>
        clear HOM
        obtain ⟨k, hk, rfl, L⟩ := hrel
        obtain ⟨wo, rfl⟩ : ∃ wo : World, wo = wr := ⟨_, rfl⟩
        by_cases hlt : k < m
        · have hmu := HMU.out k hlt
          have hsu := HSU.out k hlt
          have hkl : (S.take k).length = k := by rw [List.length_take, HLN.out]; omega
          have hw2 : wrap64 (st * k) = st * k := IntWalk.wrap64_in _ (by omega)
          have hm0 : ((m : Int) == 0) = false := by rw [beq_eq_false_iff_ne]; omega
          rw [Int.tmod_eq_emod_of_nonneg hmu.1] at hsu
          have L2 := L.kept (below_new (.cells #[.int .i64 ((st * k) % m)] 3))
          have HX := Lib.hid (show (wo.alloc (.cells #[.int .i64 ((st * k) % m)] 3)).cell? ⟨wo.heap.size, 0, none⟩ = some (.int .i64 ((st * k) % m)) by rw [World.cell?_alloc_at _ _ _ _ rfl]; rfl)
          have HL2 := Lib.hid L2
          have HSN := Lib.hid hsu
          have HKL := Lib.hid hkl
          clear L L2 hsu hkl
          go_wp2_with (at_builtin; refine wp_appendI rfl _ _ rfl ((st * k) % m) HL2.out wo.heap.size rfl rfl HX.out (by rw [HKL.out]; omega) (S.take (k + 1)) HSN.out.symm ?_)
          intro g1 cap1 w3 L3
          have HL3 := Lib.hid L3
          clear L3 HL2 HX
          go_wp2_with fail
          go_roundw
          case rel => first | exact ⟨k + 1, by omega, by go_num, HL3.out⟩ | ((repeat apply Exists.intro); exact ⟨⟨k + 1, by omega, by go_num, HL3.out⟩, rfl⟩)
          case measure => simp [intOf]; omega
        · obtain rfl : k = m := by omega
          have hst2 : S.take k = S := by rw [← HLN.out, List.take_length]
          rw [hst2] at L
          obtain ⟨av, pv, hv, hr, hcap⟩ := own_form L.ownInts
          subst hv
          have HG := Lib.hid (quGood_any av pv S wo (by rw [HLN.out]; omega) hcap hr)
          have HL := Lib.hid L
          have hR := HR.out
          clear L hr hcap hst2 HR
          cases hg : gdB S
          · rw [hg, if_neg (by decide)] at hR
            rw [hg] at HG
            have HRR := Lib.hid hR
            clear hg hR
            generalize S.length = l at *
            go_wp2_with (go_at_call 37; ((with_reducible refine HG.out.mono ?_); rintro e w' ⟨rfl, rfl⟩))
            go_ret2
            rw [HRR.out]
            exact ⟨_, rfl, Own.nil _ _, HL.out.below⟩
          · rw [hg, if_pos rfl] at hR
            rw [hg] at HG
            have HRR := Lib.hid hR
            clear hg hR
            have HO := Lib.hid HL.out.ownLo
            have HB := Lib.hid HL.out.below
            clear HL
            generalize S.length = l at *
            go_wp2_with (go_at_call 37; ((with_reducible refine HG.out.mono ?_); rintro e w' ⟨rfl, rfl⟩))
            go_ret2
            rw [HRR.out]
            exact ⟨_, rfl, HO.out, HB.out⟩
  · rw [inB_no hq] at HQ
    rw [show strR n st = ⟨[], false⟩ by simp [strR, inB_no hq]]
    clear hq
    go_enter Try.func16, Try.ntmps16
    go_wp2_with (go_at_call 42; ((with_reducible refine HQ.out.mono ?_); rintro e w' ⟨rfl, rfl⟩))
    go_ret2
    exact ⟨_, rfl, Own.nil _ _, Below.refl _ _⟩
theorem strR_impl (m : Nat) (st : Int) (h1 : 1 ≤ m) (h8 : m ≤ 8) (h : 0 ≤ st ∧ st < m) : strR m st = if gdB (strL m st) then ⟨strL m st, true⟩ else ⟨[], false⟩ := by
  unfold strR
  rw [inB_yes (by omega) (by omega), Bool.true_and, show ((m : Nat) : Int).toNat = m from rfl]
  by_cases hb : min 1 ((m : Int) - 1) ≤ st
  · rw [inB_yes hb (by omega), Bool.true_and]
  · have h0 : st = 0 := by omega
    have hm2 : 2 ≤ m := by omega
    subst h0
    have := strL_zero ⟨m, by omega⟩ hm2
    simp only at this
    rw [this, Bool.and_false]
set_option maxRecDepth 100000 in
set_option maxHeartbeats 6400000 in
theorem implStr_any (n st : Int) (w : World) : Calls Try.prog 17 #[.int .i64 n, .int .i64 st] w fun e w' => AnsL (strR n st) w e w' := by
  have HQ := Lib.hid (isQueenSide_any n w)
  by_cases hq : 1 ≤ n ∧ n ≤ 8
  · rw [inB_yes hq.1 hq.2] at HQ
    obtain ⟨m, rfl⟩ := Int.eq_ofNat_of_zero_le (show 0 ≤ n by omega)
    obtain ⟨q1, q8⟩ := hq
    by_cases hst : 0 ≤ st ∧ st < m
    · have HR := Lib.hid (strR_impl m st (by omega) (by omega) hst)
      have HLN := Lib.hid (strL_len m st)
      have HGT := Lib.hid (strL_get m st)
      have HMU := Lib.hid (fun k (hk : k < m) => mul_small st k m hst.1 hst.2 hk (by omega))
      have hmk := run_make_row' (P := Try.prog) 22 3 (.int .i64 0) 8 Try.underlying22 Try.infoI rfl .i64 .i64 m (by omega) (by omega)
      have HOM := Lib.hid ((Law.start w).own (below_new _) (own_madeQ w m (by omega)))
      obtain ⟨s1, s2⟩ := hst
      generalize strL m st = S at *
      go_enter Try.func17, Try.ntmps17
      go_wp2_with (go_at_call 44; ((with_reducible refine HQ.out.mono ?_); rintro e w' ⟨rfl, rfl⟩))
      clear hmk HQ
      generalize w.alloc _ = w3 at *
      go_loopw [26] (fun i wr => ∃ k : Nat, k ≤ m ∧ i = .int .i64 k ∧ Hid (Law w [tOwn (.slice (some ⟨w.heap.size, 0, none⟩) m m) (over S (List.replicate m 0) k)] wr)) (fun i _ => m - (intOf i).toNat)
      case atStart => exact ⟨0, Nat.zero_le _, rfl, by rw [over_zero]; exact HOM⟩
      case round =>
        clear HOM
        obtain ⟨k, hk, rfl, HL⟩ := hrel
        obtain ⟨wo, rfl⟩ : ∃ wo : World, wo = wr := ⟨_, rfl⟩
        by_cases hlt : k < m
        · have hmu := HMU.out k hlt
          have hw2 : wrap64 (st * k) = st * k := IntWalk.wrap64_in _ (by omega)
          have hm0 : ((m : Int) == 0) = false := by rw [beq_eq_false_iff_ne]; omega
          have hgt := HGT.out k hlt
          rw [Int.tmod_eq_emod_of_nonneg hmu.1] at hgt
          have hlen := over_len S (List.replicate m 0) k m HLN.out (by simp) (by omega)
          have hst := HL.out.store (ts := []) hlen k ((st * k) % m)
          rw [over_set S (List.replicate m 0) k m HLN.out (by simp) hlt _ hgt] at hst
          have hO := HL.out.ownInts
          rw [show Value.slice (some ⟨w.heap.size, 0, none⟩) m m = .slice (some ⟨w.heap.size, 0, none⟩) (over S (List.replicate m 0) k).length m by rw [hlen]] at hO
          have hcz := hO.cell k (by omega)
          have hfz := hO.free k
          have HS := Lib.hid hst
          clear HL hst hO hlen hgt
          generalize (over S (List.replicate m 0) k).getD k 0 = old at *
          go_wp2_with fail
          clear hcz hfz
          go_roundw
          case rel => first | exact ⟨k + 1, by omega, by go_num, HS⟩ | ((repeat apply Exists.intro); exact ⟨⟨k + 1, by omega, by go_num, HS⟩, rfl⟩)
          case measure => simp [intOf]; omega
        · obtain rfl : k = m := by omega
          have hL := HL.out
          rw [over_full S (List.replicate k 0) k HLN.out (by simp)] at hL
          obtain ⟨av, pv, hv, hr, hcap⟩ := own_form hL.ownInts
          have HC := fullOf_any av pv S wo (by rw [HLN.out]; omega) hcap hr
          rw [← hv] at HC
          replace HC := Lib.hid HC
          have hR := HR.out
          have HO := Lib.hid hL.ownLo
          have HL2 := Lib.hid hL
          clear hL hr hcap HR HL hv
          cases hg : gdB S
          · rw [hg, if_neg (by decide)] at hR
            rw [linV_no (by rw [lin_full]; exact hg)] at HC
            have HRR := Lib.hid hR
            clear hg hR
            go_wp2_with fail
            refine HC.out.mono ?_
            rintro e w2 ⟨rfl, hb⟩
            have HB := Lib.hid (HL2.out.kept (below_on hb (below_new (.cells #[.int .i64 0, .int .i64 0, .int .i64 0, .int .i64 0, .int .i64 0, .int .i64 0, .int .i64 0, .int .i64 0, .int .i64 0] 57)))).below
            clear hb HC
            go_wp2_with fail
            go_ret2
            rw [HRR.out]
            exact ⟨_, rfl, Own.nil _ _, HB.out⟩
          · rw [hg, if_pos rfl] at hR
            rw [linV_yes (by rw [lin_full]; exact hg)] at HC
            have HRR := Lib.hid hR
            clear hg hR
            generalize cF S = F at *
            generalize S.length = l at *
            go_wp2_with fail
            refine HC.out.mono ?_
            rintro e w2 ⟨rfl, hb⟩
            have hL3 := HL2.out.kept (below_on hb (below_new (.cells #[.int .i64 l, .int .i64 (F 0), .int .i64 (F 1), .int .i64 (F 2), .int .i64 (F 3), .int .i64 (F 4), .int .i64 (F 5), .int .i64 (F 6), .int .i64 (F 7)] 57)))
            have HO3 := Lib.hid hL3.ownLo
            have HB := Lib.hid hL3.below
            clear hb HC hL3
            go_wp2_with fail
            go_ret2
            rw [HRR.out]
            exact ⟨_, rfl, HO3.out, HB.out⟩
    · rw [show strR m st = ⟨[], false⟩ by
        unfold strR
        rw [if_neg]
        simp only [Bool.and_eq_true, inB_iff]
        intro h
        exact hst ⟨by omega, by omega⟩]
      by_cases k1 : st < 0
      · clear hst
        go_enter Try.func17, Try.ntmps17
        go_wp2_with (go_at_call 44; ((with_reducible refine HQ.out.mono ?_); rintro e w' ⟨rfl, rfl⟩))
        go_ret2
        exact ⟨_, rfl, Own.nil _ _, Below.refl _ _⟩
      · have k2 : (m : Int) ≤ st := by omega
        clear hst
        go_enter Try.func17, Try.ntmps17
        go_wp2_with (go_at_call 44; ((with_reducible refine HQ.out.mono ?_); rintro e w' ⟨rfl, rfl⟩))
        go_ret2
        exact ⟨_, rfl, Own.nil _ _, Below.refl _ _⟩
  · rw [inB_no hq] at HQ
    rw [show strR n st = ⟨[], false⟩ by simp [strR, inB_no hq]]
    clear hq
    go_enter Try.func17, Try.ntmps17
    go_wp2_with (go_at_call 44; ((with_reducible refine HQ.out.mono ?_); rintro e w' ⟨rfl, rfl⟩))
    go_ret2
    exact ⟨_, rfl, Own.nil _ _, Below.refl _ _⟩

end Go.Proofs.Ytmhlpaenfknofab
