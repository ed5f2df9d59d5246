/- Bishop numbers, in both texts. No condition but the sizes. -/
import Derived.Test.YtakdiiccdkjjcaaEg
import Derived.Test.YtakdiiccdkjjcaaRo
import Derived.Test.YtakdiiccdkjjcaaEh
namespace Go.Proofs.Ytakdiiccdkjjcaa
open Go.RowKit Go.WideShapes

/-- Rook numbers of a colour, without zeros at the end. -/
def cN (n m k : Nat) (P : Nat → Nat → Bool) : List Int := numL (lnI n m k) (lnI n m (fdI m k)) (colB n m k P)
/-- The bishop numbers, when some colours have been looked at. -/
def bshN (n m : Nat) (P : Nat → Nat → Bool) : Nat → List Int
  | 0 => [1]
  | k + 1 => allP (bshN n m P k) (shcL (cN n m k P)) (bshN n m P k).length
theorem cN_fac (n m k : Nat) (hn : n ≤ 6) (hm : m ≤ 6) (P : Nat → Nat → Bool) : facB (cN n m k P) = true ∧ facB (shcL (cN n m k P)) = true := numL_fac _ _ (ln_le n m k hn hm) (ln_le n m _ hn hm) _
theorem bshN_one (n m : Nat) (hn : n ≤ 6) (hm : m ≤ 6) (P : Nat → Nat → Bool) : bshN n m P 1 = shcL (cN n m 0 P) := by
  have h := facB_facts (cN_fac n m 0 hn hm P).2
  exact all_one (shcL (cN n m 0 P)) (by omega)
theorem bshN_two (n m : Nat) (hn : n ≤ 6) (hm : m ≤ 6) (P : Nat → Nat → Bool) : bshN n m P 2 = shcL (allP (cN n m 0 P) (cN n m 1 P) (cN n m 0 P).length) := by
  rw [all_short (cN n m 0 P) (cN n m 1 P) (numL_sh _ _ _) (numL_sh _ _ _), ← bshN_one n m hn hm P]
  rfl
theorem bshN_fac (n m k : Nat) (hn : n ≤ 6) (hm : m ≤ 6) (hk : k < 2) (P : Nat → Nat → Bool) : facB (bshN n m P k) = true := by
  have : k = 0 ∨ k = 1 := by omega
  rcases this with rfl | rfl
  · show facB [1] = true
    decide
  · rw [bshN_one n m hn hm P]
    exact (cN_fac n m 0 hn hm P).2
theorem wR_cols (m : Nat) (B B' : Nat → Nat → Bool) (d : Nat) : ∀ f t k, (∀ r c, f ≤ r → r < f + d → c < m → B r c = B' r c) → wR m B d f t k = wR m B' d f t k := by
  induction d with
  | zero => intro f t k _; rfl
  | succ d ih =>
    intro f t k h
    have ih' := fun t k => ih (f + 1) t k (fun r c h1 h2 h3 => h r c (by omega) (by omega) h3)
    rw [wR, wR, ih' t k]
    congr 2
    refine List.map_congr_left (fun c hc => ?_)
    unfold term
    rw [h f c (Nat.le_refl _) (by omega) (List.mem_range.1 hc), ih']
theorem rowM_tc (p : Nat → Bool) (m b : Nat) : (rowM p m).testBit b = (decide (b < m) && p b) := by
  induction m with
  | zero => simp [rowM]
  | succ m ih =>
    rw [rowM]
    by_cases hp : p m = true
    · rw [if_pos hp, Nat.add_comm, show 2 ^ m = 2 ^ m * 1 by omega]
      by_cases hb : b < m
      · rw [Nat.testBit_two_pow_mul_add 1 (rowM_lt p m), if_pos hb, ih]
        simp [hb, show b < m + 1 by omega]
      · rw [Nat.testBit_two_pow_mul_add 1 (rowM_lt p m), if_neg hb]
        by_cases e : b = m
        · subst e; simp [hp]
        · have : b - m = (b - m - 1) + 1 := by omega
          rw [this, Nat.testBit_succ]
          simp
          omega
    · rw [if_neg hp, Nat.add_zero, ih]
      by_cases e : b = m
      · subst e
        have : p b = false := by simpa using hp
        simp [this]
      · by_cases hb : b < m
        · simp [hb, show b < m + 1 by omega]
        · simp [hb, show ¬ b < m + 1 by omega]
/-- The numbers of the program's grid. -/
theorem cN_grid (n m k : Nat) (P : Nat → Nat → Bool) : lstL (min (lnI n m k) (lnI n m (fdI m k)) + 1) (wR (lnI n m (fdI m k)) (bM (colM n m k P)) (lnI n m k) 0 0) = cN n m k P := by
  unfold cN numL
  refine lstL_congr _ _ _ (fun q _ => ?_)
  refine wR_cols _ _ _ _ 0 0 q (fun r c _ hr hc => ?_)
  show (colM n m k P r).toNat.testBit c = _
  unfold colM drawn
  rw [if_pos (by omega), Int.toNat_natCast, rowM_tc]
  simp [hc]
/-- The numbers of the specification's board. -/
theorem cN_board (n m k : Nat) (xs : List Int) : numL (lnI n m k) (lnI n m (fdI m k)) (bt (colL n m k xs)) = cN n m k (fun a b => (xs.getD a 0).toNat.testBit b) := by
  unfold cN numL
  refine lstL_congr _ _ _ (fun q _ => ?_)
  refine wR_cols _ _ _ _ 0 0 q (fun r c _ hr hc => ?_)
  show ((colL n m k xs).getD r 0).toNat.testBit c = _
  unfold colL
  rw [lstI_get _ _ _ (by omega), Int.toNat_natCast, rowM_tc]
  simp [hc]
theorem colM_bd (n m k : Nat) (P : Nat → Nat → Bool) (hn : n ≤ 6) (hm : m ≤ 6) (q : Nat) : 0 ≤ colM n m k P q ∧ colM n m k P q < 64 := by
  unfold colM drawn
  split
  · exact ⟨by omega, rowM_64 _ _ (ln_le n m _ hn hm)⟩
  · split
    · simp [rowM]
    · decide

/-- The beginning of a row of the call's own. -/
theorem own_cut {w : World} {lo g cap q : Nat} {xs : List Int} (h : Own w lo (.slice (some ⟨g, 0, none⟩) xs.length cap) xs) (hq : q ≤ xs.length) : Own w lo (.slice (some ⟨g, 0, none⟩) q cap) (xs.take q) := by
  have hl : (xs.take q).length = q := by rw [List.length_take]; omega
  obtain ⟨h1, h2⟩ := h
  unfold Own
  rw [hl]
  refine ⟨by simp; omega, ?_⟩
  rcases h2 with ⟨h3, _⟩ | ⟨g', cap', cur, hv, hlo, hh, hn, hc, hs, hp⟩
  · cases h3
  · injection hv with hv1 hv2 hv3
    injection hv1 with hv1
    injection hv1 with hg
    subst hg
    subst hv3
    refine .inr ⟨_, _, cur, rfl, hlo, hh, by omega, hc, hs, ?_⟩
    rw [Nat.mul_one] at hp ⊢
    rw [List.map_take, ← hp, List.take_take, Nat.min_eq_left hq]
set_option maxRecDepth 100000 in
set_option maxHeartbeats 6400000 in
theorem bishopNumbers_any (n m : Nat) (M : Nat → Int) (w : World) (hn1 : 1 ≤ n) (hn : n ≤ 6) (hm1 : 1 ≤ m) (hm : m ≤ 6) (hgc : ∀ k, k < 6 → 0 ≤ M k ∧ M k < 64) :
    Calls Try.prog 67 #[gv n m M] w fun e w' => ∃ v, e = .returned v ∧ Own w' w.heap.size v (bshN n m (fun a b => (M a).toNat.testBit b) 2) ∧ Below w.heap.size w w' := by
  have L0 := (Law.start w).has (gl n m M) 66
  rw [show w.alloc (.cells (gl n m M).toArray 66) = w.alloc (.cells #[.int .i64 n, .int .i64 m, .int .i64 (M 0), .int .i64 (M 1), .int .i64 (M 2), .int .i64 (M 3), .int .i64 (M 4), .int .i64 (M 5)] 66) from rfl] at L0
  have HL := Lib.hid L0
  have HCG := Lib.hid (fun k W hk => colourGrid_any n m M k W hn1 hn hm1 hm hk hgc)
  clear L0 hgc
  obtain ⟨P, hP⟩ : ∃ P : Nat → Nat → Bool, P = (fun a b => (M a).toNat.testBit b) := ⟨_, rfl⟩
  rw [← hP] at HCG ⊢
  clear hP
  have HRN := Lib.hid (fun k W => rookNumbers_any (lnI n m k) (lnI n m (fdI m k)) (colM n m k P) W (ln_le n m k hn hm) (ln_le n m _ hn hm) (fun q _ => colM_bd n m k P hn hm q))
  have HFC := Lib.hid (fun k (hk : k < 2) => And.intro (bshN_fac n m k hn hm hk P) (cN_fac n m k hn hm P).2)
  go_enter Try.func67, Try.ntmps67
  go_upto_region 1 with fail
  generalize w.alloc _ = w1 at *
  have hone : Own (w1.alloc (.cells #[.int .i64 1] 3)) w1.heap.size (.slice (some ⟨w1.heap.size, 0, none⟩) 1 1) [1] :=
    ⟨by simp, .inr ⟨w1.heap.size, 1, #[.int .i64 1], rfl, Nat.le_refl _, heap_alloc_new w1 _, Nat.le_refl _, by unfold maxLen; omega, by simp, by simp⟩⟩
  replace HL := Lib.hid (HL.out.own (below_new _) hone)
  clear hone
  go_wp2_with fail
  go_loopw [3, 4, 5, 7] (fun v _ _ i wr => ∃ k : Nat, k ≤ 2 ∧ i = .int .i64 k ∧ Hid (Law w [tOwn v (bshN n m P k), tHas w.heap.size (gl n m M) 66] wr)) (fun _ _ _ i _ => 2 - (intOf i).toNat)
  case atStart => exact ⟨0, by omega, rfl, HL⟩
  case round =>
    clear HL
    obtain ⟨k, hk, rfl, HL⟩ := hrel
    by_cases hlt : k < 2
    · obtain ⟨e0, e1, e2, e3, e4, e5, e6, e7, _⟩ := HL.out.tl.ownHas.eight
      obtain ⟨hf1, hf2⟩ := HFC.out k hlt
      go_wp2_with fail
      refine (HCG.out k _ hlt).mono ?_
      rintro e w2 ⟨rfl, hb⟩
      replace HL := Lib.hid (HL.out.kept hb)
      clear hb e0 e1 e2 e3 e4 e5 e6 e7
      go_wp2_with fail
      refine (HRN.out k _).mono ?_
      rintro e w3 ⟨g3, p3, rfl, hO, hb⟩
      rw [cN_grid] at hO
      have hln : (cN n m k P).length = min (lnI n m k) (lnI n m (fdI m k)) + 1 := numL_len _ _ _
      have hm7 : min (lnI n m k) (lnI n m (fdI m k)) + 1 ≤ 7 := by have := ln_le n m k hn hm; omega
      have HWL := Lib.hid (withoutLast_any g3 _ p3 (cN n m k P) w3 (by omega) hO.capLe hln _ hO)
      have hsh := shK_le (cN n m k P) (min (lnI n m k) (lnI n m (fdI m k)) + 1)
      have hO2 : Own w3 w2.heap.size (.slice (some ⟨g3, 0, none⟩) (shK (cN n m k P) (min (lnI n m k) (lnI n m (fdI m k)) + 1)) p3) (shcL (cN n m k P)) := by
        have := own_cut (q := shK (cN n m k P) (cN n m k P).length) (by rw [hln]; exact hO) (shK_le _ _)
        unfold shcL
        rw [hln] at this ⊢
        exact this
      replace HL := Lib.hid (HL.out.own hb hO2)
      have HMU := Lib.hid (implMultiply_any (bshN n m P k) (shcL (cN n m k P)) w3 (by have := facB_facts hf1; omega) (by have := facB_facts hf2; omega) _ _ _ _ HL.out.tl.ownInts HL.out.ownInts)
      rw [show multB (bshN n m P k) (shcL (cN n m k P)) = ⟨bshN n m P (k + 1), true⟩ by unfold multB; rw [hf1, hf2]; rfl] at HMU
      clear hb hO hO2 hf1 hf2 hln hm7 hsh
      generalize shK (cN n m k P) (min (lnI n m k) (lnI n m (fdI m k)) + 1) = q3 at *
      generalize min (lnI n m k) (lnI n m (fdI m k)) + 1 = q4 at *
      go_wp2_with fail
      refine HWL.out.mono ?_
      rintro e w4 ⟨rfl, hw⟩
      subst hw
      go_wp2_with fail
      refine HMU.out.mono ?_
      rintro e w5 ⟨v5, rfl, hO, hb⟩
      have HL5 := Lib.hid ((HL.out.own hb hO).sub (ts' := [tOwn v5 (bshN n m P (k + 1)), tHas w.heap.size (gl n m M) 66]) (by simp))
      clear hb hO HMU HWL HL
      go_wp2_with fail
      go_roundw
      case rel => exact ⟨k + 1, by omega, by go_num, HL5⟩
      case measure => simp [intOf]; omega
    · obtain rfl : k = 2 := by omega
      go_wp2_with fail
      go_ret
      exact ⟨_, rfl, HL.out.ownLo, HL.out.below⟩

end Go.Proofs.Ytakdiiccdkjjcaa
