/- King numbers, in the program. No condition but the sizes. -/
import Derived.Test.YtakdiiccdkjjcabEm
import Derived.Test.YtakdiiccdkjjcabKc
import Derived.Test.YtakdiiccdkjjcabI
import Derived.Test.YtakdiiccdkjjcabKe
namespace Go.Proofs.Ytakdiiccdkjjcab
open Go.RowKit Go.WideShapes

set_option maxRecDepth 100000 in
theorem row_bits (S T : Nat) (hS : S < 64) (hT : T < 64) : (bits .andNot .i64 (S : Int) (T : Int) == 0) = (S &&& T == S) := by
  have key : ∀ S T : Fin 64, (bits .andNot .i64 ((S.val : Nat) : Int) ((T.val : Nat) : Int) == 0) = (S.val &&& T.val == S.val) := by decide +kernel
  exact key ⟨S, hS⟩ ⟨T, hT⟩
theorem side_bits (S : Nat) (hS : S < 64) : (bits .and .i64 (S : Int) ((S : Int) * 2) == 0) = ((S &&& (S <<< 1)) == 0) := by
  have key : ∀ S : Fin 64, (bits .and .i64 ((S.val : Nat) : Int) (((S.val : Nat) : Int) * 2) == 0) = ((S.val &&& (S.val <<< 1)) == 0) := by decide +kernel
  exact key ⟨S, hS⟩
theorem pop_popK (S : Nat) (hS : S < 64) : pop (S : Nat) = (popK S : Nat) := by
  have key : ∀ S : Fin 64, pop (S.val : Nat) = (popK S : Nat) := by decide +kernel
  exact key ⟨S, hS⟩
/-- The row of sets, up to the set s. -/
def upK (M : Nat → Int) (m i s : Nat) : Nat → List Int := fun S => if S < s then kw M m (i + 1) S else []
theorem upK_zero (M : Nat → Int) (m i N : Nat) : lstR N (fun _ => []) = lstR N (upK M m i 0) := lstR_congr _ _ _ (fun _ _ => rfl)
theorem upK_full (M : Nat → Int) (m i N : Nat) : lstR N (upK M m i N) = lstR N (kw M m (i + 1)) := lstR_congr _ _ _ (fun _ hk => if_pos hk)
theorem upK_skip (M : Nat → Int) (m i N s : Nat) (h : kRow s (M i).toNat = false) : lstR N (upK M m i s) = lstR N (upK M m i (s + 1)) := by
  refine lstR_congr _ _ _ (fun k _ => ?_)
  unfold upK
  by_cases e : k = s
  · subst e
    rw [if_neg (by omega), if_pos (by omega), kw, h]
    rfl
  · by_cases h2 : k < s
    · rw [if_pos h2, if_pos (by omega)]
    · rw [if_neg h2, if_neg (by omega)]
theorem upK_set (M : Nat → Int) (m i N s : Nat) (h : kRow s (M i).toNat = true) : (lstR N (upK M m i s)).set s (upL (popK s) (sumR (apL (kw M m i) s (2 ^ m)))) = lstR N (upK M m i (s + 1)) := by
  refine lstR_set N _ _ s _ ?_ (fun k _ hk => ?_)
  · unfold upK
    rw [if_pos (by omega), kw, h]
    rfl
  · unfold upK
    by_cases h2 : k < s
    · rw [if_pos h2, if_pos (by omega)]
    · rw [if_neg h2, if_neg (by omega)]
theorem lstR_map (N : Nat) (W : Nat → List Int) : lstR N W = (List.range N).map W := rfl

set_option maxRecDepth 100000 in
set_option maxHeartbeats 12800000 in
theorem kingNumbers_any (n m : Nat) (M : Nat → Int) (w : World) (hn : n ≤ 6) (hm : m ≤ 6) (hgc : ∀ k, k < 6 → 0 ≤ M k ∧ M k < 64) :
    Calls Try.prog 57 #[gv n m M] w fun e w' => ∃ v, e = .returned v ∧ Own w' w.heap.size v (kingL M n m) ∧ Below w.heap.size w w' := by
  have L0 := (Law.start w).has (gl n m M) 64
  rw [show w.alloc (.cells (gl n m M).toArray 64) = w.alloc (.cells #[.int .i64 n, .int .i64 m, .int .i64 (M 0), .int .i64 (M 1), .int .i64 (M 2), .int .i64 (M 3), .int .i64 (M 4), .int .i64 (M 5)] 64) from rfl] at L0
  obtain ⟨i0, hi, hz0, hz1, hz2⟩ := info_parts Try.infoL
  obtain ⟨N, hN⟩ : ∃ N, N = 2 ^ m := ⟨_, rfl⟩
  have hN64 := two_le m hm
  have hN1 : 1 ≤ 2 ^ m := Nat.one_le_two_pow
  rw [← hN] at hN64 hN1
  have hpw : ((2 : Int) ^ m) = (N : Nat) := by rw [hN]; push_cast; rfl
  have hpw1 : wrap64 (2 ^ m) = (N : Nat) := by rw [hpw]; exact IntWalk.wrap64_in _ (by omega)
  have hpw2 : IntKind.i64.wrap (2 ^ m) = (N : Nat) := by rw [hpw]; exact IntWalk.i64_in _ (by omega)
  have HN := Lib.hid hN
  have HGC := Lib.hid hgc
  have HL := Lib.hid L0
  clear L0 hgc hN hpw
  go_enter Try.func57, Try.ntmps57
  go_upto_region 1 with fail
  generalize w.alloc _ = w1 at *
  obtain ⟨e0, e1, e2, e3, e4, e5, e6, e7, _⟩ := HL.out.ownHas.eight
  go_wp2_with (at_make; refine wpList_make_full _ rfl _ _ 37 rfl w1.heap.size 22 i0 (.slice none 0 0) 1 Try.underlying37 hi hz0 hz1 .i64 .i64 _ _ N rfl rfl rfl rfl ?b1 ?b2 ?b3 ?_)
  case b1 => rw [hz2]; omega
  case b2 => unfold maxLen; omega
  case b3 => exact Nat.le_refl _
  intro w2 hown hg2
  have L1 := HL.out.addM ((Below.refl _ _).grown hg2 (Nat.le_refl _) (by simp)) (own_madeM hown)
  rw [lstR_nil] at L1
  obtain ⟨g, hgg⟩ : ∃ g, g = w1.heap.size := ⟨_, rfl⟩
  rw [← hgg] at L1 ⊢
  have hone : Own (w2.alloc (.cells #[.int .i64 1] 3)) w2.heap.size (.slice (some ⟨w2.heap.size, 0, none⟩) 1 1) [1] :=
    ⟨by simp, .inr ⟨w2.heap.size, 1, #[.int .i64 1], rfl, Nat.le_refl _, heap_alloc_new w2 _, Nat.le_refl _, by unfold maxLen; omega, by simp, by simp⟩⟩
  have L2 := (L1.own (below_new _) hone)
  have hM2 := L2.tl.ownM
  have hvl : (List.replicate N (Value.slice none 0 0)).length = N := by simp
  have hc0 := World.ownsRow.cellAt (by have := hM2.outer; rw [hvl] at this; exact this) 0 (by omega)
  have hfz := World.ownsRow.frozenAt (by have := hM2.outer; rw [hvl] at this; exact this) 0
  simp only [List.getElem?_replicate, show 0 < N by omega, if_true] at hc0 hfz
  have L3 := L2.putM hvl 0 (by omega)
  rw [lstR_set N (fun _ => []) (kw M m 0) 0 [1] rfl (fun k _ hk => by simp [kw, hk])] at L3
  have HL3 := Lib.hid (And.intro L3 (show ((List.replicate N (Value.slice none 0 0)).set 0 (.slice (some ⟨w2.heap.size, 0, none⟩) 1 1)).length = N by simp))
  clear L1 L2 L3 hM2 hone hown hg2 HL e0 e1 e2 e3 e4 e5 e6 e7
  generalize (List.replicate N (Value.slice none 0 0)).set 0 (.slice (some ⟨w2.heap.size, 0, none⟩) 1 1) = vs0 at *
  clear hgg hvl
  have hn1 : (0 : Int) < (N : Nat) := by omega
  go_upto_region 3 with fail
  generalize ((w2.alloc (.cells #[.int .i64 1] 3)).setCell ⟨g, 0, none⟩ (.slice (some ⟨w2.heap.size, 0, none⟩) 1 1)) = w5 at *
  clear hc0 hfz
  obtain ⟨e0, _⟩ := HL3.out.1.tl.ownHas.eight
  have hn0 : (0 : Int) ≤ n := by omega
  have hn6 : (n : Int) ≤ 6 := by omega
  go_wp2_with fail
  clear e0
  go_loopw [3, 5, 6, 7, 20] (fun v _ _ _ i wr => ∃ (p g : Nat) (vs : List Value), p ≤ n ∧ i = .int .i64 p ∧ v = .slice (some ⟨g, 0, none⟩) N N ∧ Hid (Law w [tM (.slice (some ⟨g, 0, none⟩) N N) vs (lstR N (kw M m p)), tHas w.heap.size (gl n m M) 64] wr ∧ vs.length = N)) (fun _ _ _ _ i _ => n - (intOf i).toNat)
  case atStart => exact ⟨0, g, vs0, Nat.zero_le _, rfl, rfl, HL3⟩
  case round =>
    clear HL3
    obtain ⟨p, g1, vs, hp, rfl, rfl, HL⟩ := hrel
    obtain ⟨wo, rfl⟩ : ∃ wo : World, wo = wr := ⟨_, rfl⟩
    by_cases hlt : p < n
    · have hcp := HL.out.1.tl.ownHas.cell (2 + p)
      rw [gl_get _ _ _ p (by omega)] at hcp
      obtain ⟨hM0, hM1⟩ := HGC.out p (by omega)
      obtain ⟨mk, hmk⟩ := Int.eq_ofNat_of_zero_le hM0
      have HMK := Lib.hid (show (M p).toNat = mk by rw [hmk]; rfl)
      rw [hmk] at hcp
      have hmk64 : mk < 64 := by omega
      clear hM0 hM1 hmk
      go_wp2_with (at_make; refine wpList_make_full _ rfl _ _ 37 rfl wo.heap.size 22 i0 (.slice none 0 0) 1 Try.underlying37 hi hz0 hz1 .i64 .i64 _ _ N rfl rfl rfl rfl ?b1 ?b2 ?b3 ?_)
      case b1 => rw [hz2]; omega
      case b2 => unfold maxLen; omega
      case b3 => exact Nat.le_refl _
      intro w6 hown hg6
      have L1 := HL.out.1.addM ((Below.refl _ _).grown hg6 (Nat.le_refl _) (by simp)) (own_madeM hown)
      rw [lstR_nil, upK_zero M m p] at L1
      obtain ⟨g2, hgg⟩ : ∃ g, g = wo.heap.size := ⟨_, rfl⟩
      rw [← hgg] at L1 ⊢
      have HL4 := Lib.hid (And.intro L1 (show (List.replicate N (Value.slice none 0 0)).length = N by simp))
      have HVS := Lib.hid HL.out.2
      clear L1 hown hg6 HL hgg hcp
      generalize List.replicate N (Value.slice none 0 0) = vs1 at *
      go_wp2_with fail
      go_loopw [7, 29] (fun _ j wr => ∃ (s : Nat) (vs2 : List Value), s ≤ N ∧ j = .int .i64 s ∧ Hid (Law w [tM (.slice (some ⟨g2, 0, none⟩) N N) vs2 (lstR N (upK M m p s)), tM (.slice (some ⟨g1, 0, none⟩) N N) vs (lstR N (kw M m p)), tHas w.heap.size (gl n m M) 64] wr ∧ vs2.length = N)) (fun _ j _ => N - (intOf j).toNat)
      case atStart => exact ⟨0, vs1, Nat.zero_le _, rfl, HL4⟩
      case round =>
        clear HL4
        obtain ⟨s, vs2, hs, rfl, HL⟩ := hrel
        by_cases hsN : s < N
        · have hrb := row_bits s mk (by omega) hmk64
          have hsb := side_bits s (by omega)
          cases h1 : (s &&& mk == s)
          · rw [h1] at hrb
            have HSK := Lib.hid (upK_skip M m p N s (by rw [HMK.out, kRow, h1, Bool.false_and]))
            clear hsb h1
            go_wp2_with fail
            go_roundw
            case rel => exact ⟨s + 1, vs2, by omega, by go_num, by rw [← HSK.out]; exact HL⟩
            case measure => simp [intOf]; omega
          · rw [h1] at hrb
            cases h2 : ((s &&& (s <<< 1)) == 0)
            · rw [h2] at hsb
              have HSK := Lib.hid (upK_skip M m p N s (by rw [HMK.out, kRow, h1, h2]; rfl))
              clear h1 h2
              go_wp2_with fail
              go_roundw
              case rel => exact ⟨s + 1, vs2, by omega, by go_num, by rw [← HSK.out]; exact HL⟩
              case measure => simp [intOf]; omega
            · rw [h2] at hsb
              have HST := Lib.hid (upK_set M m p N s (by rw [HMK.out, kRow, h1, h2]; rfl))
              rw [← HN.out] at HST
              have HPK := Lib.hid (pop_popK s (by omega))
              have hpk6 := popK_le s
              clear h1 h2
              have hM := HL.out.1.tl.ownM
              obtain ⟨a5, c5, hv5, hr5⟩ := hM.reads
              rw [lstR_len] at hv5 hr5
              injection hv5 with q1 q2 q3
              subst q1
              subst q3
              have hsl : (sumR (apL (kw M m p) s N)).length ≤ 37 := Nat.le_trans (sumR_le _ (6 * p + 1) (fun r hr => by
                obtain ⟨T, _, rfl⟩ := List.mem_map.1 hr
                exact kw_len M m p T)) (by omega)
              have HNA := Lib.hid (numbersApart_any (some ⟨g1, 0, none⟩) N N s (kw M m p) wr (by omega) hN64 (by omega) hr5 (by omega) (by
                have := apL_wrap M m hm p s (by omega)
                rw [← HN.out] at this
                exact this))
              have HON := Lib.hid (fun W => ones_any s W (by omega))
              rw [HPK.out] at HON
              have HMV := Lib.hid (fun v W h => movedUp_any (popK s) (sumR (apL (kw M m p) s N)) v W (by omega) h)
              clear hM hr5 hsl HPK
              generalize popK s = pk at *
              generalize sumR (apL (kw M m p) s N) = ys at *
              go_wp2_with fail
              refine HNA.out.mono ?_
              rintro e w7 ⟨v7, rfl, hO, hb⟩
              have HL7 := Lib.hid (And.intro (HL.out.1.own hb hO) HL.out.2)
              have HS7 := Lib.hid hO.src
              clear hO hb HL HNA
              go_wp2_with fail
              refine (HON.out _).mono ?_
              rintro e w8 ⟨rfl, hw⟩
              subst hw
              go_wp2_with fail
              refine (HMV.out _ _ HS7.out).mono ?_
              rintro e w9 ⟨v9, rfl, hO, hb⟩
              have hL9 := HL7.out.1.own hb hO
              have hL9 : Law w [tOwn v9 (upL pk ys), tM (.slice (some ⟨g2, 0, none⟩) N N) vs2 (lstR N (upK M m p s)), tM (.slice (some ⟨g1, 0, none⟩) N N) vs (lstR N (kw M m p)), tHas w.heap.size (gl n m M) 64] w9 := hL9.sub (by simp)
              have hM2 := hL9.tl.ownM
              have hcx := World.ownsRow.cellAt (by have := hM2.outer; rw [HL7.out.2] at this; exact this) s (by have := HL7.out.2; omega)
              have hfz := World.ownsRow.frozenAt (by have := hM2.outer; rw [HL7.out.2] at this; exact this) s
              rw [List.getElem?_eq_getElem (by have := HL7.out.2; omega)] at hcx
              have hP := hL9.putM HL7.out.2 s (by omega)
              rw [HST.out] at hP
              obtain ⟨a9, c9, hv9, _⟩ := hO.reads
              subst hv9
              generalize (upL pk ys).length = l9 at *
              have HP := Lib.hid (And.intro hP (show (vs2.set s (.slice a9 l9 c9)).length = N by rw [List.length_set]; exact HL7.out.2))
              generalize vs2[s]'(by have := HL7.out.2; omega) = xo at *
              clear hP hM2 hL9 hO hb HS7 HL7 HMV HON HST
              go_wp2_with fail
              go_roundw
              case rel => exact ⟨s + 1, _, by omega, by go_num, HP⟩
              case measure => simp [intOf]; omega
        · obtain rfl : s = N := by omega
          have HF := Lib.hid (And.intro (HL.out.1.sub (ts' := [tM (.slice (some ⟨g2, 0, none⟩) s s) vs2 (lstR s (upK M m p s)), tHas w.heap.size (gl n m M) 64]) (by simp)) HL.out.2)
          rw [upK_full] at HF
          clear HL
          go_wp2_with fail
          go_roundw
          case rel => exact ⟨p + 1, g2, vs2, by omega, by go_num, rfl, HF⟩
          case measure => simp [intOf]; omega
    · obtain rfl : p = n := by omega
      have hM := HL.out.1.ownM
      obtain ⟨a5, c5, hv5, hr5⟩ := hM.reads
      rw [lstR_len] at hv5
      injection hv5 with q1 q2 q3
      subst q1
      subst q3
      have hall : ∀ r ∈ lstR N (kw M m p), UpTo (bdK p) r ∧ r.length ≤ 6 * p + 1 := fun r hr => by
        unfold lstR at hr
        obtain ⟨T, _, rfl⟩ := List.mem_map.1 hr
        exact ⟨kw_bd M m hm p T, kw_len M m p T⟩
      have hsl := sumR_le (lstR N (kw M m p)) (6 * p + 1) (fun r hr => (hall r hr).2)
      have HAD := Lib.hid (added_any (some ⟨g1, 0, none⟩) N (lstR N (kw M m p)) wo (by rw [lstR_len]; omega) (by omega) hr5 (fun k hk e => sum_wrap _ (bdK p) (bdK_pos p) (bdK_le p hn) (by rw [lstR_len]; exact hN64) (fun r hr => (hall r hr).1) k hk e))
      rw [lstR_len, show sumR (lstR N (kw M m p)) = kingL M p m by unfold kingL lstR; rw [HN.out]] at HAD
      clear hM hr5 hsl hall
      go_wp2_with fail
      refine HAD.out.mono ?_
      rintro e w9 ⟨v9, rfl, hO, hb⟩
      have HF := Lib.hid (And.intro (hO.lower HL.out.1.below.size) (below_on HL.out.1.below hb))
      clear hO hb HL HAD
      go_wp2_with fail
      go_ret
      exact ⟨_, rfl, HF.out.1, HF.out.2⟩

end Go.Proofs.Ytakdiiccdkjjcab
