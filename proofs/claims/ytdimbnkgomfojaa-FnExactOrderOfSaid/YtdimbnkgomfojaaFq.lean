/- The order of rows: both texts. No condition but the sizes. -/
import Derived.Test.YtdimbnkgomfojaaFp
import Derived.Test.YtdimbnkgomfojaaFk
namespace Go.Proofs.Ytdimbnkgomfojaa
open Go.RowKit Go.WideShapes

/-- 0, 1, .. as a list. -/
def idxL (n : Nat) : List Int := (List.range n).map (fun (i : Nat) => (i : Int))
theorem idxL_len (n : Nat) : (idxL n).length = n := by simp [idxL]
theorem idxL_mem {n : Nat} {x : Int} : x ∈ idxL n ↔ 0 ≤ x ∧ x < n := by
  simp only [idxL, List.mem_map, List.mem_range]
  constructor
  · rintro ⟨k, hk, rfl⟩
    omega
  · intro h
    exact ⟨x.toNat, by omega, by omega⟩
theorem pop_le (x : Int) (c : Nat) (hc : c ≤ 6) (h : 0 ≤ x ∧ x < pw (c : Int)) : pop x ≤ c := by
  obtain ⟨n, rfl⟩ := Int.eq_ofNat_of_zero_le h.1
  have key : ∀ c : Fin 7, ∀ n : Fin 64, ((n : Nat) : Int) < pw ((c : Nat) : Int) → pop ((n : Nat) : Int) ≤ ((c : Nat) : Int) := by decide +kernel
  have h6 := (pw_bd (c := (c : Int)) (by omega)).2.1
  exact key ⟨c, by omega⟩ ⟨n, by omega⟩ h.2
theorem beg_mono (x y : Int) (hx : 0 ≤ x ∧ x < 64) (hy : 0 ≤ y ∧ y < 64) (bx : begL x = true) (bh : begL y = true) : (x ≤ y ↔ pop x ≤ pop y) := by
  obtain ⟨a, rfl⟩ := Int.eq_ofNat_of_zero_le hx.1
  obtain ⟨b, rfl⟩ := Int.eq_ofNat_of_zero_le hy.1
  have key : ∀ a b : Fin 64, begL ((a : Nat) : Int) = true → begL ((b : Nat) : Int) = true → (((a : Nat) : Int) ≤ ((b : Nat) : Int) ↔ pop ((a : Nat) : Int) ≤ pop ((b : Nat) : Int)) := by decide +kernel
  exact key ⟨a, by omega⟩ ⟨b, by omega⟩ bx bh

def lenF (xs : List Int) : Int → Int := fun x => pop (xs.getD x.toNat 0)
/-- What OrderOf answers. -/
def oofR (r c : Int) (xs : List Int) : LR := if sqF r c xs && allBeg xs then ⟨sortK (lenF xs) (idxL xs.length), true⟩ else ⟨[], false⟩
theorem oofR_len (r c : Int) (xs : List Int) : (oofR r c xs).ys.length ≤ 1048576 := by
  unfold oofR
  split
  · rename_i h
    rw [Bool.and_eq_true] at h
    obtain ⟨g1, _, g3, _⟩ := good_facts (sqF_facts h.1).1
    show (sortK _ _).length ≤ _
    rw [sortK_len, idxL_len]
    omega
  · simp
theorem oofR_no (r c : Int) (xs : List Int) (h : (sqF r c xs && allBeg xs) = false) : oofR r c xs = ⟨[], false⟩ := by unfold oofR; rw [h]; rfl
theorem oofR_yes (r c : Int) (xs : List Int) (h : (sqF r c xs && allBeg xs) = true) : oofR r c xs = ⟨sortK (lenF xs) (idxL xs.length), true⟩ := by unfold oofR; rw [h]; rfl
/-- The order that the program finds, and what it then sees. -/
theorem ordG_sorted (n : Nat) (c : Int) (xs : List Int) (M : Nat → Int) (hg : goodB n c xs = true) (hM : ∀ k, M k = xs.getD k 0) :
    ordG n c (ordm M (sortK (fun x => M x.toNat) (idxL n)) n) = (sqF n c xs && allBeg xs) ∧ ((sqF n c xs && allBeg xs) = true → sortK (fun x => M x.toNat) (idxL n) = sortK (lenF xs) (idxL xs.length)) := by
  obtain ⟨g1, g2, g3, g4⟩ := good_facts hg
  have hxn : xs.length = n := by omega
  have hgc := good_cell hg
  have hsq : sqF n c xs = ((n : Int) == c) := by simp [sqF, hg]
  obtain ⟨S, hS⟩ : ∃ S, S = sortK (fun x => M x.toNat) (idxL n) := ⟨_, rfl⟩
  have hsl : S.length = n := by rw [hS, sortK_len, idxL_len]
  have hsm : ∀ x, x ∈ S ↔ 0 ≤ x ∧ x < n := fun x => by rw [hS, sortK_mem, idxL_mem]
  have hsg : ∀ i j, i < j → j < n → M (S.getD i 0).toNat ≤ M (S.getD j 0).toNat := fun i j hij hj => by
    rw [hS]
    exact sortK_get (fun x => M x.toNat) (idxL n) i j hij (by rw [idxL_len]; exact hj)
  rw [← hS]
  have hin : ∀ k, k < n → 0 ≤ S.getD k 0 ∧ S.getD k 0 < n := fun k hk => (hsm _).1 (by simp [List.getD, show k < S.length by omega])
  have hord : ∀ k, k < n → ordm M S n k = M (S.getD k 0).toNat := fun k hk => by unfold ordm; rw [if_pos hk]
  by_cases hnc : (n : Int) = c
  · cases hb : allBeg xs
    · refine ⟨?_, fun h => by simp at h⟩
      rw [Bool.and_false]
      unfold ordG
      rw [Int.toNat_natCast]
      have hex : ∃ k, k < xs.length ∧ begL (xs.getD k 0) = false := by
        refine Classical.byContradiction fun hno => ?_
        have : allBeg xs = true := allBeg_iff.2 (fun k hk => by
          cases h : begL (xs.getD k 0)
          · exact absurd ⟨k, hk, h⟩ hno
          · rfl)
        rw [this] at hb
        cases hb
      obtain ⟨k, hk, hkb⟩ := hex
      obtain ⟨j, hj, hje⟩ := List.getElem_of_mem ((hsm (k : Int)).2 ⟨by omega, by omega⟩)
      have hall : (List.range n).all (fun k => begL (ordm M S n k)) = false := by
        rw [List.all_eq_false]
        refine ⟨j, by rw [List.mem_range]; omega, ?_⟩
        rw [hord j (by omega), show S.getD j 0 = (k : Int) by rw [← hje]; simp [List.getD, hj], Int.toNat_natCast, hM, hkb]
        simp
      rw [hall, Bool.false_and, Bool.and_false]
    · have hbe := allBeg_iff.1 hb
      have hbM : ∀ k, k < n → begL (M k) = true := fun k hk => by rw [hM]; exact hbe k (by omega)
      have hMb : ∀ k, 0 ≤ M k ∧ M k < 64 := fun k => by rw [hM]; exact hgc k
      have hmono : ∀ a b : Nat, a < n → b < n → (M a ≤ M b ↔ pop (M a) ≤ pop (M b)) := fun a b ha hb => beg_mono _ _ (hMb a) (hMb b) (hbM a ha) (hbM b hb)
      refine ⟨?_, fun _ => ?_⟩
      · have e : ((n : Int) == c) = true := by rw [hnc]; exact beq_self_eq_true _
        rw [hsq, e, Bool.true_and]
        unfold ordG
        rw [e, Int.toNat_natCast, Bool.true_and]
        have hall : (List.range n).all (fun k => begL (ordm M S n k)) = true := by
          rw [List.all_eq_true]
          intro k hk
          rw [List.mem_range] at hk
          rw [hord k hk]
          have := hin k hk
          exact hbM _ (by omega)
        rw [hall, Bool.true_and]
        have hpl : (popL n (ordm M S n)).length = n := by simp [popL, lstI]
        have hpg : ∀ k, k < n → (popL n (ordm M S n)).getD k 0 = pop (M (S.getD k 0).toNat) := fun k hk => by
          unfold popL
          rw [lstI_get _ _ k hk, hord k hk]
        have hpx : ∀ k, k < n → 0 ≤ pop (M (S.getD k 0).toNat) ∧ pop (M (S.getD k 0).toNat) ≤ n := fun k hk => by
          have h := hin k hk
          refine ⟨(pop_bd _).1, pop_le _ n (by omega) ?_⟩
          have := g4 (S.getD k 0).toNat (by omega)
          rw [← hM] at this
          rw [← hnc] at this
          exact this
        unfold lenB
        rw [hpl, inB_yes (by omega) (by omega), Bool.true_and]
        have hw : within 0 n (popL n (ordm M S n)) = true := by
          simp only [within, List.all_eq_true, decide_eq_true_eq]
          intro x hx
          obtain ⟨k, hk, rfl⟩ := List.getElem_of_mem hx
          have h := hpg k (by omega)
          have h2 := hpx k (by omega)
          rw [← h] at h2
          simpa [List.getD, hk] using h2
        rw [hw, Bool.true_and, sortB_iff]
        intro k hk
        rw [hpl] at hk
        rw [hpg k (by omega), hpg (k + 1) hk]
        have h1 := hin k (by omega)
        have h2 := hin (k + 1) hk
        exact (hmono _ _ (by omega) (by omega)).1 (hsg k (k + 1) (by omega) hk)
      · rw [hS, hxn]
        refine sortK_congr _ _ _ (fun x hx y hy => ?_)
        rw [idxL_mem] at hx hy
        have := hmono y.toNat x.toNat (by omega) (by omega)
        simp only [lenF]
        rw [← hM, ← hM]
        exact this
  · rw [hsq, beq_eq_false_iff_ne.2 hnc, Bool.false_and]
    refine ⟨?_, fun h => by simp at h⟩
    unfold ordG
    rw [beq_eq_false_iff_ne.2 hnc, Bool.false_and]
/-- .. and what the specification finds. -/
theorem ordU_lens (n : Nat) (xs : List Int) (hg : goodB n n xs = true) : ordU (lenF xs) (n + 1) n = sortK (lenF xs) (idxL xs.length) := by
  obtain ⟨g1, g2, g3, g4⟩ := good_facts hg
  have hxn : xs.length = n := by omega
  rw [hxn]
  refine ordU_sort (lenF xs) (n + 1) n (fun k hk => ?_)
  unfold lenF
  rw [Int.toNat_natCast]
  have := pop_le (xs.getD k 0) n (by omega) (g4 k (by omega))
  have := pop_bd (xs.getD k 0)
  push_cast
  omega

set_option maxRecDepth 100000 in
set_option maxHeartbeats 1600000 in
theorem specOof_any (r c : Int) (xs : List Int) (w : World) (hx : xs.length ≤ 1048576) (lo : Nat) (s : Value) (hO : Own w lo s xs) :
    Calls Try.prog 39 #[.agg #[.int .i64 r, .int .i64 c, s]] w fun e w' => AnsL (oofR r c xs) w e w' := by
  have L0 := (Law.start w).box (.int .i64 r) (.int .i64 c) s 29
  obtain ⟨a, cap, rfl, hr⟩ := hO.reads
  clear hO
  have ⟨_, k0, k1, k2, _⟩ := L0.ownBox
  have hr0 := L0.reads hr
  have HL := Lib.hid L0
  clear L0
  cases hg : sqF r c xs
  · rw [oofR_no r c xs (by rw [hg]; rfl)]
    have HC := Lib.hid (fun W (h : Reads W a xs.length xs) => at_boolB (roSquareF_any r c xs W hx a cap h) hg)
    clear hg
    go_enter Try.func39, Try.ntmps39
    go_wp2_with fail
    refine (HC.out _ hr0).mono ?_
    rintro e w1 ⟨rfl, hb⟩
    have HB := Lib.hid (HL.out.kept hb).below
    clear HL hb k0 k1 k2 hr0
    go_wp2_with fail
    go_ret2
    exact ⟨_, rfl, Own.nil _ _, HB.out⟩
  · have hgood := (sqF_facts hg).1
    have hrc := (sqF_facts hg).2
    have hgc := good_cell hgood
    have HC := Lib.hid (fun W (h : Reads W a xs.length xs) => at_boolB (roSquareF_any r c xs W hx a cap h) hg)
    have HF := Lib.hid (fun W (h : Reads W a xs.length xs) => feLengths_any r c a cap xs W hx hgc h)
    cases hb : allBeg xs
    · rw [oofR_no r c xs (by rw [hg, hb]; rfl)]
      rw [show lensB xs = ⟨[], false⟩ by simp [lensB, hb]] at HF
      clear hg hb hgood hgc hrc
      go_enter Try.func39, Try.ntmps39
      go_wp2_with fail
      refine (HC.out _ hr0).mono ?_
      rintro e w1 ⟨rfl, hb⟩
      have L1 := HL.out.kept hb
      clear HL hb k0 k1 k2 hr0 HC
      have ⟨_, k0, k1, k2, _⟩ := L1.ownBox
      have hr1 := L1.reads hr
      have HL := Lib.hid L1
      clear L1
      go_wp2_with fail
      refine (HF.out _ hr1).mono ?_
      rintro e w2 ⟨s2, rfl, _, hb⟩
      have HB := Lib.hid (HL.out.kept hb).below
      clear HL hb k0 k1 k2 hr1 HF
      go_wp2_with fail
      go_ret2
      exact ⟨_, rfl, Own.nil _ _, HB.out⟩
    · rw [oofR_yes r c xs (by rw [hg, hb]; rfl)]
      rw [show lensB xs = ⟨xs.map pop, true⟩ by simp [lensB, hb]] at HF
      obtain ⟨g1, g2, g3, _⟩ := good_facts hgood
      obtain ⟨n, rfl⟩ := Int.eq_ofNat_of_zero_le (show 0 ≤ r by omega)
      obtain rfl : c = (n : Int) := hrc.symm
      have hul := ordU_lens n xs hgood
      rw [← hul]
      have hyl : (xs.map pop).length = n := by rw [List.length_map]; omega
      have hyg : ∀ k, k < n → (xs.map pop).getD k 0 = lenF xs k := fun k hk => by
        unfold lenF
        rw [Int.toNat_natCast]
        simp [List.getD, show k < xs.length by omega]
      have hn6 : n ≤ 6 := by omega
      have hul2 := fun q => ordU_succ (lenF xs) q n
      have hby := fun q k => bkt_yes (lenF xs) q k
      have hbn := fun q k => bkt_no (lenF xs) q k
      have hbz := fun q => bkt_zero (lenF xs) q
      have hlen : ∀ q k, q ≤ n + 1 → k ≤ n → (ordU (lenF xs) q n ++ bkt (lenF xs) q k).length ≤ 1000 := fun q k hq hk => by
        have h1 : (bkt (lenF xs) q k).length ≤ k := by unfold bkt; have := List.length_filter_le (fun i => lenF xs i == (q : Int)) ((List.range k).map (fun (i : Nat) => (i : Int))); simpa using this
        have h2 : (ordU (lenF xs) q n).length ≤ q * n := by
          clear hq h1 hk
          induction q with
          | zero => simp [ordU]
          | succ q ih =>
            rw [ordU_succ, List.length_append, Nat.succ_mul]
            have h1 : (bkt (lenF xs) q n).length ≤ n := by unfold bkt; have := List.length_filter_le (fun i => lenF xs i == (q : Int)) ((List.range n).map (fun (i : Nat) => (i : Int))); simpa using this
            omega
        have h3 : q * n ≤ 7 * 6 := Nat.mul_le_mul (by omega) hn6
        rw [List.length_append]
        omega
      generalize lenF xs = F at *
      generalize xs.map pop = ys at *
      have HUL := Lib.hid hul2
      have HBY := Lib.hid hby
      have HBN := Lib.hid hbn
      have HBZ := Lib.hid hbz
      have HYL := Lib.hid hyl
      have HYG := Lib.hid hyg
      have HLN := Lib.hid hlen
      clear hg hb hgood hgc hrc g1 g2 g3 hul hul2 hby hbn hbz hyl hyg hlen
      go_enter Try.func39, Try.ntmps39
      go_wp2_with fail
      refine (HC.out _ hr0).mono ?_
      rintro e w1 ⟨rfl, hb⟩
      have L1 := HL.out.kept hb
      clear HL hb k0 k1 k2 hr0 HC
      have ⟨_, k0, k1, k2, _⟩ := L1.ownBox
      have hr1 := L1.reads hr
      have HL := Lib.hid L1
      clear L1
      go_wp2_with fail
      refine (HF.out _ hr1).mono ?_
      rintro e w2 ⟨s2, rfl, O2, hb⟩
      obtain ⟨a2, p2, rfl, _⟩ := O2.reads
      have L2 := HL.out.own hb O2
      have HL2 := Lib.hid (L2.own (Below.refl _ _) (Own.nil _ _))
      clear HL hb k0 k1 k2 hr1 HF L2 O2
      rw [HYL.out] at HL2 ⊢
      go_wp2_with fail
      go_loopw [6, 7] (fun o i wr => ∃ q : Nat, q ≤ n + 1 ∧ i = .int .i64 q ∧ Law w [tOwn o (ordU F q n), tOwn (.slice a2 n p2) ys, tBox w.heap.size (.int .i64 n) (.int .i64 n) (.slice a xs.length cap)] wr) (fun _ i _ => n + 1 - (intOf i).toNat)
      case atStart => exact ⟨0, Nat.zero_le _, rfl, by simpa [ordU] using HL2.out⟩
      case round =>
        clear HL2
        obtain ⟨q, hq, rfl, L⟩ := hrel
        have ⟨_, b0, b1, b2, _⟩ := L.tl.tl.ownBox
        by_cases hlt : q ≤ n
        · have hqI : (q : Int) ≤ n := by omega
          have HL := Lib.hid L
          clear L
          go_wp2_with fail
          go_loopw [6, 28] (fun o i wr => ∃ k : Nat, k ≤ n ∧ i = .int .i64 k ∧ Law w [tOwn o (ordU F q n ++ bkt F q k), tOwn (.slice a2 n p2) ys, tBox w.heap.size (.int .i64 n) (.int .i64 n) (.slice a xs.length cap)] wr) (fun _ i _ => n - (intOf i).toNat)
          case atStart => exact ⟨0, Nat.zero_le _, rfl, by rw [HBZ.out, List.append_nil]; exact HL.out⟩
          case round =>
            clear HL b0 b1 b2
            obtain ⟨k, hk, rfl, L⟩ := hrel
            obtain ⟨wo, rfl⟩ : ∃ wo : World, wo = wr := ⟨_, rfl⟩
            by_cases hkn : k < n
            · have hrd := L.tl.ownInts
              rw [← HYL.out] at hrd
              have hrd2 := own_rd hrd
              rw [HYL.out] at hrd2
              obtain ⟨b, off, ha, hbl, hc⟩ := reads_row hrd2 (by omega)
              subst ha
              have hck := hc k hkn
              rw [HYG.out k hkn] at hck
              have hkI : (k : Int) < n := by omega
              have hl := HLN.out q k hq (by omega)
              have hy := HBY.out q k
              have hno := HBN.out q k
              obtain ⟨X, hX⟩ : ∃ X, X = F (k : Int) := ⟨_, rfl⟩
              rw [← hX] at hck hy hno
              by_cases he : X = q
              · have hsn : (ordU F q n ++ bkt F q k) ++ [(k : Int)] = ordU F q n ++ bkt F q (k + 1) := by rw [hy he, List.append_assoc]
                subst he
                have L2 := L.kept (below_new (.cells #[.int .i64 (k : Int)] 3))
                have HL2 := Lib.hid L2
                have HSN := Lib.hid hsn
                have HLL := Lib.hid hl
                have HX := Lib.hid (show (wo.alloc (.cells #[.int .i64 (k : Int)] 3)).cell? ⟨wo.heap.size, 0, none⟩ = some (.int .i64 (k : Int)) by rw [World.cell?_alloc_at _ _ _ _ rfl]; rfl)
                clear L L2 hc hbl hsn hl hy hno hX hrd hrd2
                go_wp2_with (at_builtin; refine wp_appendI rfl _ _ rfl (k : Int) HL2.out wo.heap.size rfl rfl HX.out (by have := HLL.out; omega) (ordU F q n ++ bkt F q (k + 1)) HSN.out ?_)
                intro g1 cap1 w3 L3
                have HL3 := Lib.hid L3
                clear L3 HL2 HX
                go_wp2_with fail
                go_roundw
                case rel => exact ⟨k + 1, by omega, by go_num, HL3.out⟩
                case measure => simp [intOf]; omega
              · rw [← hno he] at L
                have HL3 := Lib.hid L
                have hne : ¬ (q : Int) = X := fun e => he e.symm
                clear L hc hbl hl hy hno hX hrd hrd2 he
                go_wp2_with fail
                go_roundw
                case rel => exact ⟨k + 1, by omega, by go_num, HL3.out⟩
                case measure => simp [intOf]; omega
            · obtain rfl : k = n := by omega
              rw [← HUL.out] at L
              have HL3 := Lib.hid L
              clear L hkn
              go_wp2_with fail
              go_roundw
              case rel => exact ⟨q + 1, by omega, by go_num, HL3.out⟩
              case measure => simp [intOf]; omega
        · obtain rfl : q = n + 1 := by omega
          have hqI : ¬ ((n + 1 : Nat) : Int) ≤ n := by omega
          have HL := Lib.hid L
          clear L hlt
          go_wp2_with fail
          go_ret2
          exact ⟨_, rfl, HL.out.ownLo, HL.out.below⟩

end Go.Proofs.Ytdimbnkgomfojaa
