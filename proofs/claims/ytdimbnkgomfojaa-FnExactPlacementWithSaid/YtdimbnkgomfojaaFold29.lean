import Derived.Test.YtdimbnkgomfojaaFold28
import Derived.Test.YtdimbnkgomfojaaFold16
import Derived.Test.YtdimbnkgomfojaaFold20
import Derived.Test.YtdimbnkgomfojaaFold17
import Derived.Test.YtdimbnkgomfojaaFold24

section
namespace Go.Proofs.Ytdimbnkgomfojaa
open Go.RowKit Go.WideShapes

theorem pl6_take (F : Nat → Int) (n : Nat) (hn : n ≤ 6) : [F 0, F 1, F 2, F 3, F 4, F 5].take n = lstI n F := by
  have : n = 0 ∨ n = 1 ∨ n = 2 ∨ n = 3 ∨ n = 4 ∨ n = 5 ∨ n = 6 := by omega
  rcases this with rfl | rfl | rfl | rfl | rfl | rfl | rfl <;> rfl

/-- The row of the last rook in the column c, of the first k. -/
def trF (p : Nat → Int) : Nat → Nat → Int
  | 0, _ => -1
  | k + 1, c => if p k = (c : Int) then (k : Int) else trF p k c
theorem trF_skip (p : Nat → Int) (k : Nat) (h : p k = -1) (c : Nat) : trF p (k + 1) c = trF p k c := by
  rw [trF, if_neg (by omega)]
theorem trF_set (p : Nat → Int) (k d : Nat) (h : p k = (d : Int)) : trF p (k + 1) d = k ∧ ∀ c, c ≠ d → trF p (k + 1) c = trF p k c := by
  refine ⟨by rw [trF, if_pos h], fun c hc => ?_⟩
  rw [trF, if_neg (by omega)]
theorem trF_more (P : List Int) (n k c : Nat) (h : n ≤ k) : trF (plF P n) k c = trF (fun j => P.getD j 0) n c := by
  induction k with
  | zero =>
    rw [show n = 0 by omega]
    rfl
  | succ k ih =>
    by_cases e : n = k + 1
    · subst e
      have : ∀ i, i ≤ k + 1 → trF (plF P (k + 1)) i c = trF (fun j => P.getD j 0) i c := by
        intro i
        induction i with
        | zero => intro _; rfl
        | succ i ih2 =>
          intro hi
          rw [trF, trF, ih2 (by omega)]
          have : plF P (k + 1) i = P.getD i 0 := by unfold plF; rw [if_pos (by omega)]
          rw [this]
      exact this _ (Nat.le_refl _)
    · rw [trF, if_neg, ih (by omega)]
      unfold plF
      rw [if_neg (by omega)]
      omega

set_option maxRecDepth 100000 in
set_option maxHeartbeats 1600000 in
theorem list_any (F : Nat → Int) (n : Nat) (w : World) (hn : n ≤ 6) :
    Calls Try.prog 62 #[pv6 F, .int .i64 n] w fun e w' => ∃ g, e = .returned (.slice (some ⟨g, 0, none⟩) n n) ∧ Own w' w.heap.size (.slice (some ⟨g, 0, none⟩) n n) (lstI n F) ∧ Below w.heap.size w w' := by
  have hmk := run_make_row' (P := Try.prog) 22 3 (.int .i64 0) 8 Try.underlying22 Try.infoI rfl .i64 .i64 n (by omega) (by omega)
  have L0 := ((Law.start w).has (pl6 F) 70).own (below_new (.cells (madeCells #[.int .i64 0] n) 3)) (own_made _ n _ _ rfl (Nat.le_refl _) (by omega))
  have H1 : Has ((w.alloc (.cells (pl6 F).toArray 70)).alloc (.cells (madeCells #[.int .i64 0] n) 3)) (w.heap.size + 1) (List.replicate n (.int .i64 0)) 3 := by
    have := Has.new (w.alloc (.cells (pl6 F).toArray 70)) (List.replicate n (.int .i64 0)) 3
    rw [← made_eq] at this
    simpa using this
  have H2 := L0.tl.ownHas
  have hB := L0.below
  have hp6 : (pl6 F).toArray = #[.int .i64 (F 0), .int .i64 (F 1), .int .i64 (F 2), .int .i64 (F 3), .int .i64 (F 4), .int .i64 (F 5)] := rfl
  have hsrc : ∀ j v, (([F 0, F 1, F 2, F 3, F 4, F 5].take n).map (Value.int .i64))[j]? = some v → ((w.alloc (.cells (pl6 F).toArray 70)).alloc (.cells (madeCells #[.int .i64 0] n) 3)).cell? ((⟨w.heap.size, 0, none⟩ : Addr).add j) = some v := by
    intro j v hj
    rw [add_plain, H2.cell]
    rw [List.map_take, List.getElem?_take] at hj
    split at hj
    · rw [show 0 + j = j by omega]; exact hj
    · cases hj
  have hlen : (([F 0, F 1, F 2, F 3, F 4, F 5].take n).map (Value.int .i64)).length = n := by simp; omega
  have HM := Lib.hid (show (([F 0, F 1, F 2, F 3, F 4, F 5].take n).map (Value.int .i64)).length = Nat.min 6 n by rw [hlen]; exact (Nat.min_eq_right hn).symm)
  have HF := Lib.hid (show 0 + (([F 0, F 1, F 2, F 3, F 4, F 5].take n).map (Value.int .i64)).length ≤ (List.replicate n (Value.int .i64 0)).length by rw [hlen, List.length_replicate]; omega)
  have H1' := H1.row
  rw [hp6] at hB hsrc H1'
  have HB := Lib.hid hB
  have G1 := Lib.hid H1'; have G5 := Lib.hid hsrc; have HL := Lib.hid hlen
  clear L0 H1 H2 hsrc hlen hB H1' hp6
  go_enter Try.func62, Try.ntmps62
  go_wp2_with (with_reducible refine wpList_copy_splice rfl (.tmp 8) (.tmp 9) 22 22 rfl 3 Try.underlying22 (by kernel_rfl) _ _ n n 6 6 rfl rfl (w.heap.size + 1) 0 _ 3 G1.out _ HM.out (fun _ => ⟨rfl, _, rfl, G5.out⟩) HF.out (ints_oneCell _ _) (w.heap.size + 1) _ (Below.refl _ _) (Nat.le_refl _) ?_)
  intro w4 hg4 hb4
  have H4 : Has w4 (w.heap.size + 1) (([F 0, F 1, F 2, F 3, F 4, F 5].take n).map (Value.int .i64)) 3 := by
    have h : Has w4 (w.heap.size + 1) _ 3 := hg4.out
    rw [splice_all n _ (by simp <;> omega)] at h
    simpa using h
  rw [pl6_take F n hn] at H4
  have HH := Lib.hid H4
  have HB4 := Lib.hid (HB.out.trans (hb4.mono (by omega)))
  clear hg4 hb4 H4 hmk
  go_wp2_with fail
  go_ret
  exact ⟨_, rfl, (own_of_has (lo := w.heap.size) HH.out (by omega) (lstI_len _ _) (by unfold maxLen; omega)), HB4.out⟩
end Go.Proofs.Ytdimbnkgomfojaa
end

section
namespace Go.Proofs.Ytdimbnkgomfojaa
open Go.RowKit Go.WideShapes

theorem rookCount_any (x : Int) (w : World) : Calls Try.prog 58 #[.int .i64 x] w fun e w' => e = .returned (.bool (inB 0 x 6)) ∧ w = w' := by
  by_cases h1 : 0 ≤ x
  · by_cases h2 : x ≤ 6
    · have HI := Lib.hid (inB_yes h1 h2)
      go_enter Try.func58, Try.ntmps58
      go_wp2
      all_goals go_ret
      all_goals exact ⟨ret_bool HI.out.symm, rfl⟩
    · have HI := Lib.hid (inB_no (lo := 0) (n := x) (hi := 6) (by omega))
      have h3 : 6 < x := by omega
      go_enter Try.func58, Try.ntmps58
      go_wp2
      all_goals go_ret
      all_goals exact ⟨ret_bool (by rw [HI.out]), rfl⟩
  · have HI := Lib.hid (inB_no (lo := 0) (n := x) (hi := 6) (by omega))
    have h3 : x < 0 := by omega
    go_enter Try.func58, Try.ntmps58
    go_wp2
    all_goals go_ret
    all_goals exact ⟨ret_bool (by rw [HI.out]), rfl⟩

def withB (r c : Int) (xs : List Int) (k rank : Int) : LR := if goodB r c xs && (inB 0 k 6 && (decide (0 ≤ rank) && decide (rank < (wR c.toNat (bt xs) r.toNat 0 0 k.toNat : Nat)))) then ⟨(pl c.toNat (bt xs) r.toNat 0 0 k.toNat).getD rank.toNat [], true⟩ else ⟨[], false⟩

set_option maxRecDepth 100000 in
set_option maxHeartbeats 6400000 in
theorem implWith_any (r c : Int) (xs : List Int) (k rank : Int) (w : World) (hx : xs.length ≤ 1048576) (lo : Nat) (s : Value) (hO : Own w lo s xs) :
    Calls Try.prog 28 #[.agg #[.int .i64 r, .int .i64 c, s], .int .i64 k, .int .i64 rank] w fun e w' => AnsL (withB r c xs k rank) w e w' := by
  have L0 := ((Law.start w).box (.int .i64 r) (.int .i64 c) s 29).has [.int .i64 rank] 3
  simp only [World.size_alloc] at L0
  obtain ⟨a, cap, rfl, hr⟩ := hO.reads
  have hr0 := L0.reads hr
  clear hO
  cases hg : goodB r c xs
  · rw [show withB r c xs k rank = ⟨[], false⟩ by unfold withB; rw [hg]; rfl]
    go_enter Try.func28, Try.ntmps28
    go_wp2_with fail
    refine (gridOf_no r c a cap xs _ hx hr0 hg).mono ?_
    rintro e w1 ⟨rfl, hb⟩
    have HB := Lib.hid (((L0.kept hb).kept (below_new (.cells #[.int .i64 0, .int .i64 0, .int .i64 0, .int .i64 0, .int .i64 0, .int .i64 0, .int .i64 0, .int .i64 0] 59))).below)
    clear L0 hb hg hr0
    go_upto_region 2 with fail
    generalize w1.alloc (.cells #[.int .i64 0, .int .i64 0, .int .i64 0, .int .i64 0, .int .i64 0, .int .i64 0, .int .i64 0, .int .i64 0] 59) = w5 at *
    go_region
    all_goals
      go_wp2_with fail
      go_ret2
      exact ⟨_, rfl, Own.nil _ _, below_drewN HB.out _⟩
  · obtain ⟨g1, g2, g3, _⟩ := good_facts hg
    have hgc := good_cell hg
    obtain ⟨n, rfl⟩ := Int.eq_ofNat_of_zero_le (show 0 ≤ r by omega)
    obtain ⟨m, rfl⟩ := Int.eq_ofNat_of_zero_le (show 0 ≤ c by omega)
    obtain ⟨M, hM, hc⟩ := gridOf_good n m a cap xs _ hx hr0 hg
    have HC := Lib.hid hc
    have hBM : bM M = bt xs := by funext a b; simp only [bM, bt, hM]
    simp only [← hM] at hgc
    have HG := Lib.hid hgc
    have hn6 : n ≤ 6 := by omega
    have hm6 : m ≤ 6 := by omega
    cases hk : inB 0 k 6
    · rw [show withB n m xs k rank = ⟨[], false⟩ by unfold withB; rw [hk, Bool.false_and, Bool.and_false]; rfl]
      have HK := Lib.hid (at_bool (rookCount_any k) hk)
      clear hg hr0 hM hc hgc hBM hk g1 g2 g3
      go_enter Try.func28, Try.ntmps28
      go_wp2_with fail
      refine HC.out.mono ?_
      rintro e w1 ⟨rfl, hb⟩
      have L1 := (L0.kept hb).has (gl n m M) 59
      rw [show w1.alloc (.cells (gl n m M).toArray 59) = w1.alloc (.cells #[.int .i64 n, .int .i64 m, .int .i64 (M 0), .int .i64 (M 1), .int .i64 (M 2), .int .i64 (M 3), .int .i64 (M 4), .int .i64 (M 5)] 59) from rfl] at L1
      have HL := Lib.hid L1
      clear L0 hb L1 HC
      go_upto_region 2 with fail
      generalize w1.alloc (.cells #[.int .i64 n, .int .i64 m, .int .i64 (M 0), .int .i64 (M 1), .int .i64 (M 2), .int .i64 (M 3), .int .i64 (M 4), .int .i64 (M 5)] 59) = w5 at *
      obtain ⟨e0, e1, e2, e3, e4, e5, e6, e7, _⟩ := HL.out.drew.ownHas.eight
      have y1 := HL.out.drew.tl.ownHas.cell 0
      simp only [List.getElem?_cons_zero] at y1
      have HB := Lib.hid HL.out.below
      clear HL
      go_quiet ((go_at_call 58; with_reducible exact Calls.quiet_of_same (HK.out _)))
      all_goals
        go_wp2_with fail
        go_ret2
        exact ⟨_, rfl, Own.nil _ _, below_drewN HB.out _⟩
    · have hk6 := inB_iff.1 hk
      obtain ⟨q, rfl⟩ := Int.eq_ofNat_of_zero_le hk6.1
      have hq6 : q ≤ 6 := by omega
      have HK := Lib.hid (at_bool (rookCount_any q) hk)
      obtain ⟨cnt, hcnt⟩ : ∃ cnt : Nat, cnt = wR m (bM M) n 0 0 q := ⟨_, rfl⟩
      have hrn := fun W => rookNumber_any n m q M W hn6 hm6 (fun k _ => hgc k)
      rw [numL_all n m hm6, ← hcnt] at hrn
      have HRN := Lib.hid hrn
      have HW := Lib.hid (fun (bf bb br rank : Nat) (W : World) => pwWalk_any bf bb br n m q rank M W hn6 hm6 hq6 (fun k _ => hgc k))
      have hpr := pl_rows m (bM M) n 0 0 q
      have hpl := pl_len m (bM M) n 0 0 q
      by_cases h0 : 0 ≤ rank
      · obtain ⟨rk, rfl⟩ := Int.eq_ofNat_of_zero_le h0
        by_cases hlt : (rk : Int) < cnt
        · have hlt' : rk < wR m (bM M) n 0 0 q := by rw [← hcnt]; omega
          rw [show withB n m xs q rk = ⟨(pl m (bM M) n 0 0 q).getD rk [], true⟩ by
            unfold withB
            rw [hg, hk, show decide (0 ≤ (rk : Int)) = true by simp, show decide ((rk : Int) < ((wR (m : Int).toNat (bt xs) (n : Int).toNat 0 0 (q : Int).toNat : Nat) : Int)) = true by rw [decide_eq_true_eq]; simp only [Int.toNat_natCast, ← hBM, ← hcnt]; exact hlt]
            simp [hBM]]
          have hPl : ((pl m (bM M) n 0 0 q).getD rk []).length = n := by
            rw [List.getD_eq_getElem?_getD, List.getElem?_eq_getElem (by rw [hpl]; exact hlt')]
            exact hpr _ (List.getElem_mem _)
          have hW := fun bf bb br W (a1 : bf ≠ bb) (a2 : bf ≠ br) (a3 : bb ≠ br) b1 b2 b3 => HW.out bf bb br rk W a1 a2 a3 hlt' b1 b2 b3
          generalize (pl m (bM M) n 0 0 q).getD rk [] = PP at *
          have hlst : lstI n (plF PP n) = PP := by
            refine List.ext_getElem (by simp [lstI, hPl]) (fun k h1 h2 => ?_)
            simp only [lstI, List.getElem_map, List.getElem_range]
            unfold plF
            rw [if_pos (by omega)]
            simp [List.getD, h2]
          have hle : ¬ (cnt : Int) ≤ rk := by omega
          have HW2 := Lib.hid hW
          have HLST := Lib.hid hlst
          have HC2 := HC
          clear hg hr0 hM hc hgc hBM hk hrn hcnt hk6 hlt hW hlst hPl hpr hpl HW hlt' HC2 g1 g2 g3 h0
          go_enter Try.func28, Try.ntmps28
          go_wp2_with fail
          refine HC.out.mono ?_
          rintro e w1 ⟨rfl, hb⟩
          have L1 := (L0.kept hb).has (gl n m M) 59
          rw [show w1.alloc (.cells (gl n m M).toArray 59) = w1.alloc (.cells #[.int .i64 n, .int .i64 m, .int .i64 (M 0), .int .i64 (M 1), .int .i64 (M 2), .int .i64 (M 3), .int .i64 (M 4), .int .i64 (M 5)] 59) from rfl] at L1
          have HL := Lib.hid L1
          clear L0 hb L1 HC
          go_upto_region 2 with fail
          generalize w1.alloc (.cells #[.int .i64 n, .int .i64 m, .int .i64 (M 0), .int .i64 (M 1), .int .i64 (M 2), .int .i64 (M 3), .int .i64 (M 4), .int .i64 (M 5)] 59) = w5 at *
          obtain ⟨e0, e1, e2, e3, e4, e5, e6, e7, _⟩ := HL.out.drew.ownHas.eight
          have y1 := HL.out.drew.tl.ownHas.cell 0
          simp only [List.getElem?_cons_zero] at y1
          replace HL := Lib.hid HL.out.drew
          go_region_with (first | (go_at_call 58; (refine (HK.out _).mono ?_); rintro e w' ⟨rfl, rfl⟩) | (go_at_call 59; (refine (HRN.out _).mono ?_); rintro e w6 ⟨rfl, hb⟩; replace HL := Lib.hid (HL.out.kept hb); clear hb; have y2 := HL.out.tl.ownHas.cell 0; simp only [List.getElem?_cons_zero] at y2) | fail)
          all_goals
            clear y1 e0 e1 e2 e3 e4 e5 e6 e7
            have L2 := (HL.out.has (pl6 (fun _ => 0)) 70).has [.int .i64 0] 3
            simp only [World.size_alloc] at L2
            rw [show (w6.alloc (.cells (pl6 (fun _ => 0)).toArray 70)).alloc (.cells ([.int .i64 0] : List Value).toArray 3) = (w6.alloc (.cells #[.int .i64 0, .int .i64 0, .int .i64 0, .int .i64 0, .int .i64 0, .int .i64 0] 70)).alloc (.cells #[.int .i64 0] 3) from rfl] at L2
            have HL2 := Lib.hid L2
            have hz : w1.heap.size < w6.heap.size ∧ w.heap.size + 1 < w6.heap.size := ⟨HL.out.ownHas.lt, HL.out.tl.ownHas.lt⟩
            have hz0 := HL.out.below.size
            have HZ := Lib.hid (And.intro hz hz0)
            clear L2 HL y2 hz hz0
            go_upto_region 6 with fail
            generalize (w6.alloc _).alloc _ = w7 at *
            have HP := Lib.hid (HW2.out w6.heap.size (w6.heap.size + 1) (w.heap.size + 1) w7 (by omega) (by have := HZ.out; omega) (by have := HZ.out; omega) HL2.out.tl.ownHas HL2.out.ownHas HL2.out.tl.tl.tl.ownHas)
            obtain ⟨e0, e1, e2, e3, e4, e5, e6, e7, _⟩ := HL2.out.tl.tl.ownHas.eight
            go_wp2_with fail
            refine HP.out.mono ?_
            rintro e w8 ⟨rfl, hh, hC⟩
            have HB8 := Lib.hid (show Below w.heap.size w w8 from HL2.out.below.trans ⟨hC.os, hC.tape, hC.output, hC.size, fun k hk => hC.block k (by have := HL2.out.below.size; omega) (fun e => by have := HZ.out; omega)⟩)
            have hg8 := Chg.has hC (by have := HZ.out; omega) HL2.out.tl.tl.ownHas
            clear e0 e1 e2 e3 e4 e5 e6 e7 HP HL2 hC
            have hrow := hh.row6
            obtain ⟨e0, e1, e2, e3, e4, e5, e6, e7, _⟩ := hg8.eight
            have HI := Lib.hid (list_any (plF PP n) n w8 hn6)
            clear hh hg8
            go_wp2_with (refine wpList_load_row rfl 70 _ rfl _ rfl _ _ _ _ hrow Try.underlying70 rfl (by kernel_rfl) ?_)
            refine HI.out.mono ?_
            rintro e w9 ⟨g, rfl, hO, hb⟩
            rw [HLST.out] at hO
            have HF := Lib.hid (show Own w9 w.heap.size (.slice (some ⟨g, 0, none⟩) n n) PP ∧ Below w.heap.size w w9 from ⟨hO.lower HB8.out.size, below_on HB8.out hb⟩)
            clear hO hb hrow e0 e1 e2 e3 e4 e5 e6 e7 HI
            go_wp2_with fail
            go_ret2
            exact ⟨_, rfl, HF.out.1, HF.out.2⟩
        · rw [show withB n m xs q rk = ⟨[], false⟩ by unfold withB; rw [show decide ((rk : Int) < ((wR (m : Int).toNat (bt xs) (n : Int).toNat 0 0 (q : Int).toNat : Nat) : Int)) = false by rw [decide_eq_false_iff_not]; simp only [Int.toNat_natCast, ← hBM, ← hcnt]; exact hlt]; simp]
          have hge : (cnt : Int) ≤ rk := by omega
          clear hg hr0 hM hc hgc hBM hk hrn hcnt hk6 hlt hpr hpl HW g1 g2 g3 h0
          go_enter Try.func28, Try.ntmps28
          go_wp2_with fail
          refine HC.out.mono ?_
          rintro e w1 ⟨rfl, hb⟩
          have L1 := (L0.kept hb).has (gl n m M) 59
          rw [show w1.alloc (.cells (gl n m M).toArray 59) = w1.alloc (.cells #[.int .i64 n, .int .i64 m, .int .i64 (M 0), .int .i64 (M 1), .int .i64 (M 2), .int .i64 (M 3), .int .i64 (M 4), .int .i64 (M 5)] 59) from rfl] at L1
          have HL := Lib.hid L1
          clear L0 hb L1 HC
          go_upto_region 2 with fail
          generalize w1.alloc (.cells #[.int .i64 n, .int .i64 m, .int .i64 (M 0), .int .i64 (M 1), .int .i64 (M 2), .int .i64 (M 3), .int .i64 (M 4), .int .i64 (M 5)] 59) = w5 at *
          obtain ⟨e0, e1, e2, e3, e4, e5, e6, e7, _⟩ := HL.out.drew.ownHas.eight
          have y1 := HL.out.drew.tl.ownHas.cell 0
          simp only [List.getElem?_cons_zero] at y1
          replace HL := Lib.hid HL.out.drew
          go_region_with (first | (go_at_call 58; (refine (HK.out _).mono ?_); rintro e w' ⟨rfl, rfl⟩) | (go_at_call 59; (refine (HRN.out _).mono ?_); rintro e w6 ⟨rfl, hb⟩; replace HL := Lib.hid (HL.out.kept hb); clear hb; have y2 := HL.out.tl.ownHas.cell 0; simp only [List.getElem?_cons_zero] at y2) | fail)
          all_goals
            have HB := Lib.hid HL.out.below
            clear HL
            go_wp2_with fail
            go_ret2
            exact ⟨_, rfl, Own.nil _ _, HB.out⟩
      · have hneg : rank < 0 := by omega
        rw [show withB n m xs q rank = ⟨[], false⟩ by unfold withB; rw [show decide (0 ≤ rank) = false by rw [decide_eq_false_iff_not]; omega]; simp]
        clear hg hr0 hM hc hgc hBM hk hrn hcnt hk6 h0 g1 g2 g3 hpr hpl HW
        go_enter Try.func28, Try.ntmps28
        go_wp2_with fail
        refine HC.out.mono ?_
        rintro e w1 ⟨rfl, hb⟩
        have L1 := (L0.kept hb).has (gl n m M) 59
        rw [show w1.alloc (.cells (gl n m M).toArray 59) = w1.alloc (.cells #[.int .i64 n, .int .i64 m, .int .i64 (M 0), .int .i64 (M 1), .int .i64 (M 2), .int .i64 (M 3), .int .i64 (M 4), .int .i64 (M 5)] 59) from rfl] at L1
        have HL := Lib.hid L1
        clear L0 hb L1 HC
        go_upto_region 2 with fail
        generalize w1.alloc (.cells #[.int .i64 n, .int .i64 m, .int .i64 (M 0), .int .i64 (M 1), .int .i64 (M 2), .int .i64 (M 3), .int .i64 (M 4), .int .i64 (M 5)] 59) = w5 at *
        obtain ⟨e0, e1, e2, e3, e4, e5, e6, e7, _⟩ := HL.out.ownHas.eight
        have y1 := HL.out.tl.ownHas.cell 0
        simp only [List.getElem?_cons_zero] at y1
        have HB := Lib.hid HL.out.below
        clear HL
        go_quiet ((go_at_call 58; with_reducible exact Calls.quiet_of_same (HK.out _)))
        all_goals
          go_wp2_with fail
          go_ret2
          exact ⟨_, rfl, Own.nil _ _, below_drewN HB.out _⟩
end Go.Proofs.Ytdimbnkgomfojaa
end
