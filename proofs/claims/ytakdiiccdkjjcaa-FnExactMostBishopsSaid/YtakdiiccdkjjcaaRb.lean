/- Rook numbers, in the specification. No condition but the sizes. -/
import Derived.Test.YtakdiiccdkjjcaaRw
import Derived.Test.YtakdiiccdkjjcaaZ
import Derived.IntWalk
import Derived.Deep.RegionHeld3
namespace Go.Proofs.Ytakdiiccdkjjcaa
open Go.RowKit Go.WideShapes

theorem l1Least_any (a b : Nat) (w : World) : Calls Try.prog 127 #[.int .i64 a, .int .i64 b] w fun e w' => e = .returned (.int .i64 ((min a b : Nat) : Int)) ∧ w = w' := by
  by_cases h : a < b
  · have hs := Lib.hid (show min a b = a by omega)
    go_enter Try.func127, Try.ntmps127
    go_wp2
    all_goals go_ret
    all_goals exact ⟨ret_int (by rw [hs.out]), rfl⟩
  · have hs := Lib.hid (show min a b = b by omega)
    go_enter Try.func127, Try.ntmps127
    go_wp2
    all_goals go_ret
    all_goals exact ⟨ret_int (by rw [hs.out]), rfl⟩

set_option maxRecDepth 100000 in
set_option maxHeartbeats 6400000 in
theorem roWays_any (n m : Nat) (xs : List Int) (hx : xs.length ≤ 1048576) (hn : n ≤ 6) (hm : m ≤ 6) (hlen : xs.length = n) (hgc : ∀ k, 0 ≤ xs.getD k 0 ∧ xs.getD k 0 < 64) : ∀ (d f t : Nat), f + d = n → t < 64 → ∀ (w : World) (lo : Nat) (s : Value), Own w lo s xs →
    Calls Try.prog 119 #[.agg #[.int .i64 n, .int .i64 m, s], .int .i64 f, .int .i64 t] w fun e w' => ∃ g p, e = .returned (.slice (some ⟨g, 0, none⟩) (min n m + 1) p) ∧ Own w' w.heap.size (.slice (some ⟨g, 0, none⟩) (min n m + 1) p) (lstL (min n m + 1) (wR m (bt xs) d f t)) ∧ Below w.heap.size w w' := by
  have HG3 := Lib.hid hlen
  have HGC := Lib.hid hgc
  clear hlen hgc
  intro d
  induction d with
  | zero =>
    intro f t hf ht w lo s hO
    have hfn : n = f := by omega
    subst hfn
    have L0 := (Law.start w).box (.int .i64 n) (.int .i64 m) s 28
    have HO := Lib.hid hO
    obtain ⟨a, cap, rfl, _⟩ := hO.reads
    clear hO
    obtain ⟨q, hq⟩ : ∃ q, q = min n m := ⟨_, rfl⟩
    have hql : q ≤ 6 := by omega
    rw [← hq]
    have hmk : ∀ w, (Instr.makeSlice 22 (.int .i64 ((q : Int) + 1)) (.int .i64 ((q : Int) + 1))).run Try.prog w = .ok (.slice (some ⟨w.heap.size, 0, none⟩) (q + 1) (q + 1)) (w.alloc (.cells (madeCells #[.int .i64 0] (q + 1)) 3)) := by
      intro w
      have := run_make_row' (P := Try.prog) 22 3 (.int .i64 0) 8 Try.underlying22 Try.infoI rfl .i64 .i64 (q + 1) (by omega) (by omega) w
      rw [show ((q : Int) + 1) = ((q + 1 : Nat) : Int) by push_cast; rfl]
      exact this
    have HQ := Lib.hid hq
    clear hq
    go_enter Try.func119, Try.ntmps119
    go_upto_region 1 with fail
    generalize w.alloc (.cells #[.int .i64 n, .int .i64 m, .slice a xs.length cap] 28) = w5 at *
    have ⟨_, m0, m1, m2, _⟩ := L0.ownBox
    have L1 := L0.own (below_new _) (own_made w5 (q + 1) _ w5.heap.size rfl (Nat.le_refl _) (by omega))
    have HL0 := Lib.hid L0
    have HL1 := Lib.hid L1
    clear L0 L1
    go_wp2_with fail
    refine (l1Least_any n m _).mono ?_
    rintro e w' ⟨rfl, rfl⟩
    rw [← HQ.out]
    go_upto_region 2 with fail
    generalize w5.alloc (.cells (madeCells #[.int .i64 0] (q + 1)) 3) = w6 at *
    clear hmk m0 m1 m2
    have ⟨_, b0, b1, b2, _⟩ := HL1.out.tl.ownBox
    have hOk := HL1.out.ownInts
    have hcz := Own.cell (by rw [List.length_replicate]; exact hOk) 0 (by simp)
    have hfz := Own.free (by rw [List.length_replicate]; exact hOk) 0
    have hS := Law.store (ts := []) HL1.out (by simp) 0 1
    rw [lstL_zero, lstL_set (q + 1) _ (wR m (bt xs) 0 n t) 0 1 (by simp [wR]) (fun k _ hk => by simp [wR, hk])] at hS
    have HS := Lib.hid hS
    clear hS hOk
    go_wp2_with fail
    go_ret
    exact ⟨_, _, rfl, HS.out.ownLo, HS.out.below⟩
  | succ d ih =>
    intro f t hf ht w lo s hO
    have L0 := (Law.start w).box (.int .i64 n) (.int .i64 m) s 28
    have HO := Lib.hid hO
    obtain ⟨a, cap, rfl, _⟩ := hO.reads
    clear hO
    obtain ⟨q, hq⟩ : ∃ q, q = min n m := ⟨_, rfl⟩
    have hql : q ≤ 6 := by omega
    rw [← hq]
    have hmk : ∀ w, (Instr.makeSlice 22 (.int .i64 ((q : Int) + 1)) (.int .i64 ((q : Int) + 1))).run Try.prog w = .ok (.slice (some ⟨w.heap.size, 0, none⟩) (q + 1) (q + 1)) (w.alloc (.cells (madeCells #[.int .i64 0] (q + 1)) 3)) := by
      intro w
      have := run_make_row' (P := Try.prog) 22 3 (.int .i64 0) 8 Try.underlying22 Try.infoI rfl .i64 .i64 (q + 1) (by omega) (by omega) w
      rw [show ((q : Int) + 1) = ((q + 1 : Nat) : Int) by push_cast; rfl]
      exact this
    have HQ := Lib.hid hq
    clear hq
    go_enter Try.func119, Try.ntmps119
    go_upto_region 1 with fail
    generalize w.alloc (.cells #[.int .i64 n, .int .i64 m, .slice a xs.length cap] 28) = w5 at *
    have ⟨_, m0, m1, m2, _⟩ := L0.ownBox
    have L1 := L0.own (below_new _) (own_made w5 (q + 1) _ w5.heap.size rfl (Nat.le_refl _) (by omega))
    have HL0 := Lib.hid L0
    have HL1 := Lib.hid L1
    clear L0 L1
    go_wp2_with fail
    refine (l1Least_any n m _).mono ?_
    rintro e w' ⟨rfl, rfl⟩
    rw [← HQ.out]
    go_upto_region 2 with fail
    generalize w5.alloc (.cells (madeCells #[.int .i64 0] (q + 1)) 3) = w6 at *
    clear hmk m0 m1 m2
    have hbnd : ∀ t k, wR m (bt xs) d (f + 1) t k ≤ 117649 := fun t k => Nat.le_trans (wR_le m (by omega) (bt xs) d (f + 1) t k) (pow7 d (by omega))
    have HBN := Lib.hid hbnd
    have hih : ∀ t : Nat, t < 64 → ∀ (w : World) (lo : Nat) (s : Value), Own w lo s xs → Calls Try.prog 119 #[.agg #[.int .i64 n, .int .i64 m, s], .int .i64 ((f : Int) + 1), .int .i64 t] w fun e w' => ∃ g p, e = .returned (.slice (some ⟨g, 0, none⟩) (q + 1) p) ∧ Own w' w.heap.size (.slice (some ⟨g, 0, none⟩) (q + 1) p) (lstL (q + 1) (wR m (bt xs) d (f + 1) t)) ∧ Below w.heap.size w w' := by
      intro t ht w lo s hO
      have h := ih (f + 1) t (by omega) ht w lo s hO
      rw [← HQ.out, show ((f + 1 : Nat) : Int) = (f : Int) + 1 by push_cast; rfl] at h
      exact h
    have HIH := Lib.hid hih
    have hfn : (f : Int) ≠ n := by omega
    have hfl : f < n := by omega
    have hdq : d + f + 1 = n := by omega
    clear ih hih hf hbnd
    have ⟨_, b0, b1, b2, _⟩ := HL1.out.tl.ownBox
    have hO6 := HO.out.kept HL1.out.below
    go_wp2_with fail
    refine (HIH.out t ht _ lo _ hO6).mono ?_
    rintro e w7 ⟨g1, p1, rfl, hO7, hb⟩
    have L2 := HL1.out.own hb hO7
    rw [lstL_zero] at L2
    have HL2 := Lib.hid L2
    obtain ⟨g, hgg⟩ : ∃ g, g = w5.heap.size := ⟨_, rfl⟩
    rw [← hgg] at HL2 ⊢
    clear L2 HL1 HL0 hb hO7 hO6 b0 b1 b2 hgg
    go_wp2_with fail
    go_loopw [33] (fun i wr => ∃ k : Nat, k ≤ q + 1 ∧ i = .int .i64 k ∧ Law w [tOwn (.slice (some ⟨g1, 0, none⟩) (q + 1) p1) (lstL (q + 1) (wR m (bt xs) d (f + 1) t)), tOwn (.slice (some ⟨g, 0, none⟩) (q + 1) (q + 1)) (lstL (q + 1) (fun i => if i < k then wR m (bt xs) d (f + 1) t i else 0)), tBox w.heap.size (.int .i64 n) (.int .i64 m) (.slice a xs.length cap)] wr) (fun i _ => (q + 1) - (intOf i).toNat)
    case atStart => exact ⟨0, Nat.zero_le _, rfl, HL2.out⟩
    case round =>
      clear HL2
      obtain ⟨k, hk, rfl, L⟩ := hrel
      by_cases hlt : k < q + 1
      · have o1 := L.ownInts
        have o2 := L.tl.ownInts
        have y1 := Own.cell (by rw [lstL_len]; exact o1) k (by rw [lstL_len]; exact hlt)
        have y2 := Own.cell (by rw [lstL_len]; exact o2) k (by rw [lstL_len]; exact hlt)
        have y3 := Own.free (by rw [lstL_len]; exact o2) k
        rw [lstL_get _ _ k hlt] at y1 y2
        rw [if_neg (by omega)] at y2
        have hx' := HBN.out t k
        have hS := Law.store (ts := [_]) L (lstL_len _ _) k ((wR m (bt xs) d (f + 1) t k : Nat) : Int)
        rw [lstL_set (q + 1) _ (fun i => if i < k + 1 then wR m (bt xs) d (f + 1) t i else 0) k _ (by simp) (fun i _ hi => by
          by_cases h1 : i < k
          · rw [if_pos h1, if_pos (by omega)]
          · rw [if_neg h1, if_neg (by omega)])] at hS
        have HS := Lib.hid hS
        generalize wR m (bt xs) d (f + 1) t k = x at *
        have hs1 := add_in 0 x (by omega) (by omega)
        rw [Nat.zero_add] at hs1
        have hkq : (k : Int) < (q : Int) + 1 := by omega
        clear L hS o1 o2
        go_wp2_with fail
        go_roundw
        case rel => exact ⟨k + 1, by omega, by go_num, HS.out⟩
        case measure => simp [intOf]; omega
      · obtain rfl : k = q + 1 := by omega
        have hL := L.tl
        rw [lstL_congr (q + 1) _ (accC m (bt xs) d f t 0) (fun i hi => by rw [if_pos hi, accC_zero])] at hL
        have HL := Lib.hid hL
        clear L hL
        rw [show ((q + 1 : Nat) : Int) = (q : Int) + 1 by push_cast; rfl]
        go_wp2_with fail
        go_loopw [10] (fun ci wr => ∃ c : Nat, c ≤ m ∧ ci = .int .i64 c ∧ Law w [tOwn (.slice (some ⟨g, 0, none⟩) (q + 1) (q + 1)) (lstL (q + 1) (accC m (bt xs) d f t c)), tBox w.heap.size (.int .i64 n) (.int .i64 m) (.slice a xs.length cap)] wr) (fun ci _ => m - (intOf ci).toNat)
        case atStart => exact ⟨0, Nat.zero_le _, rfl, HL.out⟩
        case round =>
          clear HL
          obtain ⟨c, hc, rfl, L⟩ := hrel
          obtain ⟨wo, rfl⟩ : ∃ wo : World, wo = wr := ⟨_, rfl⟩
          have ⟨_, b0, b1, b2, _⟩ := L.tl.ownBox
          have HL := Lib.hid L
          by_cases hcm : c < m
          · have hO1 := HO.out.kept L.below
            have hfx : f < xs.length := by have := HG3.out; omega
            clear L
            go_wp2_with fail
            refine (boHas_any n m xs f c _ hfx hx (by omega) (HGC.out f) lo _ hO1).mono ?_
            rintro e w2 ⟨rfl, hb⟩
            have L2 := HL.out.kept hb
            have hac := accC_succ m (bt xs) d f t c
            have htm : ∀ k, term (bt xs) (wR m (bt xs) d (f + 1)) f t k c = if bt xs f c && !t.testBit c then (if k = 0 then 0 else wR m (bt xs) d (f + 1) (t ||| 2 ^ c) (k - 1)) else 0 := fun k => rfl
            have hbn := bit_nat t c ht (by omega)
            have hc64 : (c : Int) < 64 := by omega
            cases hp : (xs.getD f 0).toNat.testBit c
            · have hsame : lstL (q + 1) (accC m (bt xs) d f t c) = lstL (q + 1) (accC m (bt xs) d f t (c + 1)) := lstL_congr _ _ _ (fun k _ => by rw [hac k, htm k, show bt xs f c = false from hp]; simp)
              rw [hsame] at L2
              have HL2 := Lib.hid L2
              clear L2 hb HL hO1 b0 b1 b2 hac htm hbn hp hsame
              go_wp2_with fail
              go_roundw
              case rel => exact ⟨c + 1, by omega, by go_num, HL2.out⟩
              case measure => simp [intOf]; omega
            · cases ht2 : t.testBit c
              · rw [ht2] at hbn
                obtain ⟨ht3, ht4⟩ := cntT_put m t c (by omega) ht hcm ht2
                have hct := cntT_le m (t ||| 2 ^ c)
                have HOF := Lib.hid (fun k (h : wR m (bt xs) d (f + 1) (t ||| 2 ^ c) k ≠ 0) => wR_off m (by omega) (bt xs) d (f + 1) (t ||| 2 ^ c) k ht4 hct h)
                have hor := or_nat t c ht (by omega)
                have hor2 := or_nat2 t c ht (by omega)
                have hfw : IntKind.i64.wrap ((f : Int) + 1) = (f : Int) + 1 := IntWalk.i64_in _ (by omega)
                have hO2 := ((hO1.kept hb).kept (Below.refl w2.heap.size w2).drew)
                have HC := Lib.hid (HIH.out (t ||| 2 ^ c) ht4 w2.drew lo _ hO2)
                have hap : ∀ k, accC m (bt xs) d f t (c + 1) k = accC m (bt xs) d f t c k + (if k = 0 then 0 else wR m (bt xs) d (f + 1) (t ||| 2 ^ c) (k - 1)) := fun k => by rw [hac k, htm k, show bt xs f c = true from hp, ht2]; rfl
                have HAP := Lib.hid hap
                have HBA := Lib.hid (fun k => (accC_le m (bt xs) d f t c k 117649 (fun t k => HBN.out t k)))
                have HB2 := Lib.hid (fun k => HBN.out (t ||| 2 ^ c) k)
                obtain ⟨_, e0, e1, e2, _⟩ := L2.drew.tl.ownBox
                have HLd := Lib.hid L2.drew
                have HT3 := Lib.hid ht3
                clear L2 hb HL hO1 hO2 hac htm hp hap ht2 ht3 b0 b1 b2
                generalize wR m (bt xs) d (f + 1) (t ||| 2 ^ c) = g2 at *
                generalize (t ||| 2 ^ c) = t2 at *
                go_upto_region 14 with fail
                go_region_held3 (fun w' => w'.cell? ⟨w.heap.size, 0, none⟩ = some (.int .i64 n) ∧ w'.cell? ⟨w.heap.size, 1, none⟩ = some (.int .i64 m) ∧ w'.cell? ⟨w.heap.size, 2, none⟩ = some (.slice a xs.length cap)) (first | (repeat' apply And.intro) <;> first | with_reducible assumption | assumption) ((go_at_call 119; ((with_reducible refine (HC.out).mono ?_); rintro e w3 ⟨g3, p3, rfl, hO3, hb3⟩; have z0 := cell_later hb3 e0; have z1 := cell_later hb3 e1; have z2 := cell_later hb3 e2)))
                have L3 := HLd.out.own hb3 hO3
                rw [lstL_congr (q + 1) (accC m (bt xs) d f t c) (fun i => accC m (bt xs) d f t c i + if 1 ≤ i ∧ i ≤ 0 then g2 (i - 1) else 0) (fun i _ => by rw [if_neg (by omega)]; rfl)] at L3
                have HL3 := Lib.hid L3
                clear L3 HLd HC hb3 hO3 hor hor2 hfw z0 z1 z2 hbn e0 e1 e2
                go_wp2_with fail
                go_loopw [73] (fun i wr => ∃ k : Nat, k ≤ q + 1 ∧ i = .int .i64 k ∧ Law w [tOwn (.slice (some ⟨g3, 0, none⟩) (q + 1) p3) (lstL (q + 1) g2), tOwn (.slice (some ⟨g, 0, none⟩) (q + 1) (q + 1)) (lstL (q + 1) (fun i => accC m (bt xs) d f t c i + if 1 ≤ i ∧ i ≤ k then g2 (i - 1) else 0)), tBox w.heap.size (.int .i64 n) (.int .i64 m) (.slice a xs.length cap)] wr) (fun i _ => (q + 1) - (intOf i).toNat)
                case atStart => exact ⟨0, Nat.zero_le _, rfl, HL3.out⟩
                case round =>
                  clear HL3
                  obtain ⟨k, hk, rfl, L⟩ := hrel
                  by_cases hlt : k < q + 1
                  · have o1 := L.ownInts
                    have o2 := L.tl.ownInts
                    have y1 := Own.cell (by rw [lstL_len]; exact o1) k (by rw [lstL_len]; exact hlt)
                    rw [lstL_get _ _ k hlt] at y1
                    have hx' := HB2.out k
                    by_cases hx0 : g2 k = 0
                    · rw [hx0, show ((0 : Nat) : Int) = 0 from rfl] at y1
                      rw [lstL_congr (q + 1) (fun i => accC m (bt xs) d f t c i + if 1 ≤ i ∧ i ≤ k then g2 (i - 1) else 0) (fun i => accC m (bt xs) d f t c i + if 1 ≤ i ∧ i ≤ k + 1 then g2 (i - 1) else 0) (fun i _ => by
                        by_cases h1 : i = k + 1
                        · subst h1
                          rw [if_neg (by omega), if_pos (by omega), Nat.add_sub_cancel, hx0]
                        · by_cases h2 : 1 ≤ i ∧ i ≤ k
                          · rw [if_pos h2, if_pos (by omega)]
                          · rw [if_neg h2, if_neg (by omega)])] at L
                      have HL := Lib.hid L
                      have hkq : (k : Int) < (q : Int) + 1 := by omega
                      clear L o1 o2 hx0 hx'
                      go_wp2_with fail
                      go_roundw
                      case rel => exact ⟨k + 1, by omega, by go_num, HL.out⟩
                      case measure => simp [intOf]; omega
                    · obtain ⟨hf1, hf2⟩ := HOF.out k hx0
                      have hk1 : k + 1 < q + 1 := by have := HT3.out; have := HQ.out; omega
                      have y2 := Own.cell (by rw [lstL_len]; exact o2) (k + 1) (by rw [lstL_len]; exact hk1)
                      have y3 := Own.free (by rw [lstL_len]; exact o2) (k + 1)
                      rw [lstL_get _ _ (k + 1) hk1, if_neg (by omega), Nat.add_zero] at y2
                      have hy' := HBA.out (k + 1)
                      have hS := Law.store (ts := [_]) L (lstL_len _ _) (k + 1) ((accC m (bt xs) d f t c (k + 1) + g2 k : Nat) : Int)
                      rw [lstL_set (q + 1) _ (fun i => accC m (bt xs) d f t c i + if 1 ≤ i ∧ i ≤ k + 1 then g2 (i - 1) else 0) (k + 1) _ (by rw [if_pos (by omega), Nat.add_sub_cancel]) (fun i _ hi => by
                        by_cases h2 : 1 ≤ i ∧ i ≤ k
                        · rw [if_pos h2, if_pos (by omega)]
                        · rw [if_neg h2, if_neg (by omega)])] at hS
                      have HS := Lib.hid hS
                      generalize g2 k = x at *
                      generalize accC m (bt xs) d f t c (k + 1) = y at *
                      have hy2 : y ≤ 823543 := by
                        have : (c + 1) * 117649 ≤ 7 * 117649 := Nat.mul_le_mul_right _ (by omega)
                        omega
                      have hs1 := add_in y x (by omega) (by omega)
                      have hkq : (k : Int) < (q : Int) + 1 := by omega
                      have hkq2 : (k : Int) + 1 < (q : Int) + 1 := by omega
                      have hxp : 0 < (x : Int) := by omega
                      clear L hS o1 o2 hx0 hf1 hf2 hy' hx'
                      go_wp2_with fail
                      go_roundw
                      case rel => exact ⟨k + 1, by omega, by go_num, HS.out⟩
                      case measure => simp [intOf]; omega
                  · obtain rfl : k = q + 1 := by omega
                    have hL := L.tl
                    rw [lstL_congr (q + 1) _ (accC m (bt xs) d f t (c + 1)) (fun i hi => by
                      rw [HAP.out i]
                      by_cases h0 : i = 0
                      · subst h0; rw [if_neg (by omega), if_pos rfl]
                      · rw [if_pos (by omega), if_neg h0])] at hL
                    have HL := Lib.hid hL
                    clear L hL
                    go_wp2_with fail
                    go_roundw
                    case rel => exact ⟨c + 1, by omega, by go_num, HL.out⟩
                    case measure => simp [intOf]; omega
              · rw [ht2] at hbn
                have hsame : lstL (q + 1) (accC m (bt xs) d f t c) = lstL (q + 1) (accC m (bt xs) d f t (c + 1)) := lstL_congr _ _ _ (fun k _ => by rw [hac k, htm k, ht2]; simp)
                rw [hsame] at L2
                have HL2 := Lib.hid L2
                clear L2 hb HL hO1 b0 b1 b2 hac htm hp hsame ht2
                go_wp2_with fail
                go_roundw
                case rel => exact ⟨c + 1, by omega, by go_num, HL2.out⟩
                case measure => simp [intOf]; omega
          · obtain rfl : c = m := by omega
            clear L
            go_wp2_with fail
            go_ret
            exact ⟨_, _, rfl, HL.out.ownLo, HL.out.below⟩

end Go.Proofs.Ytakdiiccdkjjcaa
