/- King numbers, in the specification. No condition but the sizes. -/
import Derived.Test.YtakdiiccdkjjcabEp
import Derived.Test.YtakdiiccdkjjcabT2
namespace Go.Proofs.Ytakdiiccdkjjcab
open Go.RowKit Go.WideShapes

theorem small_wrap (N : Nat) (h : N ≤ 64) : wrap64 ((N : Nat) : Int) = N ∧ IntKind.i64.wrap ((N : Nat) : Int) = N := ⟨IntWalk.wrap64_in _ (by omega), IntWalk.i64_in _ (by omega)⟩
theorem row_shape {W : World} {lo : Nat} {v : Value} {xs : List Int} (h : Own W lo v xs) : ∃ a c, v = .slice a xs.length c := by
  obtain ⟨a, c, e, _⟩ := h.reads
  exact ⟨a, c, e⟩
set_option maxRecDepth 100000 in
set_option maxHeartbeats 12800000 in
theorem kiNumbers_any (n m : Nat) (xs : List Int) (M : Nat → Int) (w : World) (hn1 : 1 ≤ n) (hn : n ≤ 6) (hm : m ≤ 6) (hl : xs.length = n) (hMx : ∀ k, M k = xs.getD k 0) (hgc : ∀ k, 0 ≤ M k ∧ M k < 64) (lo : Nat) (s : Value) (hO : Own w lo s xs) :
    Calls Try.prog 55 #[.agg #[.int .i64 n, .int .i64 m, s]] w fun e w' => ∃ v, e = .returned v ∧ Own w' w.heap.size v (kingL M n m) ∧ Below w.heap.size w w' := by
  have L0 := (Law.start w).box (.int .i64 n) (.int .i64 m) s 28
  rcases hO.cases with ⟨rfl, rfl⟩ | ⟨gb, cap, rfl, gb1, gb2, gb3, _⟩
  · simp at hl; omega
  rw [hl] at gb3 L0 ⊢
  have HC := Lib.hid (fun j (hj : j < n) => show w.cell? ⟨gb, j, none⟩ = some (.int .i64 (M j)) by rw [hMx]; exact Own.cell hO j (by omega))
  obtain ⟨i0, hi, hz0, hz1, hz2⟩ := info_parts Try.infoL
  obtain ⟨N, hN⟩ : ∃ N, N = 2 ^ m := ⟨_, rfl⟩
  have hN64 := two_le m hm
  have hN1 : 1 ≤ 2 ^ m := Nat.one_le_two_pow
  rw [← hN] at hN64 hN1
  have hpw : ((2 : Int) ^ m) = (N : Nat) := by rw [hN]; push_cast; rfl
  have hpw1 : wrap64 (2 ^ m) = (N : Nat) := by rw [hpw]; exact (small_wrap N hN64).1
  have hpw2 : IntKind.i64.wrap (2 ^ m) = (N : Nat) := by rw [hpw]; exact (small_wrap N hN64).2
  have HN := Lib.hid hN
  have HGC := Lib.hid hgc
  have HL := Lib.hid L0
  clear L0 hgc hN hpw hO hl hMx gb1
  go_enter Try.func55, Try.ntmps55
  go_upto_region 1 with fail
  generalize w.alloc _ = w1 at *
  have ⟨_, b0, b1, b2, _⟩ := HL.out.ownBox
  go_wp2_with (at_make; refine wpList_make_full _ rfl _ _ 37 rfl w1.heap.size 22 i0 (.slice none 0 0) 1 Try.underlying37 hi hz0 hz1 .i64 .i64 _ _ N rfl rfl rfl rfl ?b1 ?b2 ?b3 ?_)
  case b1 => rw [hz2]; omega
  case b2 => unfold maxLen; omega
  case b3 => exact Nat.le_refl _
  intro w2 hown hg2
  have L1 := HL.out.addM ((Below.refl _ _).grown hg2 (Nat.le_refl _) (by simp)) (own_madeM hown)
  rw [lstR_nil] at L1
  obtain ⟨g, hgg⟩ : ∃ g, g = w1.heap.size := ⟨_, rfl⟩
  rw [← hgg] at L1 ⊢
  have hone : Own (w2.alloc (.cells #[.int .i64 1] 3)) w2.heap.size (.slice (some ⟨w2.heap.size, 0, none⟩) 1 1) [1] :=
    ⟨by simp, .inr ⟨w2.heap.size, 1, #[.int .i64 1], rfl, Nat.le_refl _, heap_alloc_new w2 _, Nat.le_refl _, by unfold maxLen; omega, by simp, by simp⟩⟩
  have L2 := (L1.own (below_new _) hone)
  have hM2 := L2.tl.ownM
  have hvl : (List.replicate N (Value.slice none 0 0)).length = N := by simp
  have hc0 := World.ownsRow.cellAt (by have := hM2.outer; rw [hvl] at this; exact this) 0 (by omega)
  have hfz := World.ownsRow.frozenAt (by have := hM2.outer; rw [hvl] at this; exact this) 0
  simp only [List.getElem?_replicate, show 0 < N by omega, if_true] at hc0 hfz
  have L3 := L2.putM hvl 0 (by omega)
  rw [lstR_set N (fun _ => []) (kw M m 0) 0 [1] rfl (fun k _ hk => by simp [kw, hk])] at L3
  have HL3 := Lib.hid (And.intro L3 (show ((List.replicate N (Value.slice none 0 0)).set 0 (.slice (some ⟨w2.heap.size, 0, none⟩) 1 1)).length = N by simp))
  clear L1 L2 L3 hM2 hone hown hg2 HL b0 b1 b2
  generalize (List.replicate N (Value.slice none 0 0)).set 0 (.slice (some ⟨w2.heap.size, 0, none⟩) 1 1) = vs0 at *
  clear hgg hvl
  have hn1' : (0 : Int) < (N : Nat) := by omega
  go_upto_region 3 with fail
  generalize ((w2.alloc (.cells #[.int .i64 1] 3)).setCell ⟨g, 0, none⟩ (.slice (some ⟨w2.heap.size, 0, none⟩) 1 1)) = w5 at *
  clear hc0 hfz
  have ⟨_, b0, b1, b2, _⟩ := HL3.out.1.tl.ownBox
  go_wp2_with fail
  clear b0 b1 b2
  go_loopw [3, 5, 6, 7, 8, 9, 10, 11, 25] (fun v _ _ _ _ _ _ _ i wr => ∃ (p g : Nat) (vs : List Value), p ≤ n ∧ i = .int .i64 p ∧ v = .slice (some ⟨g, 0, none⟩) N N ∧ Hid (Law w [tM (.slice (some ⟨g, 0, none⟩) N N) vs (lstR N (kw M m p)), tBox w.heap.size (.int .i64 n) (.int .i64 m) (.slice (some ⟨gb, 0, none⟩) n cap)] wr ∧ vs.length = N)) (fun _ _ _ _ _ _ _ _ i _ => n - (intOf i).toNat)
  case atStart => exact ⟨0, g, vs0, Nat.zero_le _, rfl, rfl, HL3⟩
  case round =>
    clear HL3
    obtain ⟨p, g1, vs, hp, rfl, rfl, HL⟩ := hrel
    obtain ⟨wo, rfl⟩ : ∃ wo : World, wo = wr := ⟨_, rfl⟩
    by_cases hlt : p < n
    · have hcp := (HL.out.1.below.cell (p := ⟨gb, p, none⟩) gb2).trans (HC.out p hlt)
      have ⟨_, b0, b1, b2, _⟩ := HL.out.1.tl.ownBox
      obtain ⟨hM0, hM1⟩ := HGC.out p
      obtain ⟨mk, hmk⟩ := Int.eq_ofNat_of_zero_le hM0
      have HMK := Lib.hid (show (M p).toNat = mk by rw [hmk]; rfl)
      rw [hmk] at hcp
      have hmk64 : mk < 64 := by omega
      clear hM0 hM1 hmk
      go_wp2_with (at_make; refine wpList_make_full _ rfl _ _ 37 rfl wo.heap.size 22 i0 (.slice none 0 0) 1 Try.underlying37 hi hz0 hz1 .i64 .i64 _ _ N rfl rfl rfl rfl ?b1 ?b2 ?b3 ?_)
      case b1 => rw [hz2]; omega
      case b2 => unfold maxLen; omega
      case b3 => exact Nat.le_refl _
      intro w6 hown hg6
      clear hpw1 hpw2
      have L1 := HL.out.1.addM ((Below.refl _ _).grown hg6 (Nat.le_refl _) (by simp)) (own_madeM hown)
      rw [lstR_nil, upQ_zero M m p] at L1
      obtain ⟨g2, hgg⟩ : ∃ g, g = wo.heap.size := ⟨_, rfl⟩
      rw [← hgg] at L1 ⊢
      have HL4 := Lib.hid (And.intro L1 (show (List.replicate N (Value.slice none 0 0)).length = N by simp))
      have HVS := Lib.hid HL.out.2
      clear L1 hown hg6 HL hgg hcp b0 b1 b2
      generalize List.replicate N (Value.slice none 0 0) = vs1 at *
      go_wp2_with fail
      go_loopw [7, 8, 9, 10, 11, 35] (fun _ _ _ _ _ j wr => ∃ (s : Nat) (vs2 : List Value), s ≤ N ∧ j = .int .i64 s ∧ Hid (Law w [tM (.slice (some ⟨g2, 0, none⟩) N N) vs2 (lstR N (upQ M m p s)), tM (.slice (some ⟨g1, 0, none⟩) N N) vs (lstR N (kw M m p)), tBox w.heap.size (.int .i64 n) (.int .i64 m) (.slice (some ⟨gb, 0, none⟩) n cap)] wr ∧ vs2.length = N)) (fun _ _ _ _ _ j _ => N - (intOf j).toNat)
      case atStart => exact ⟨0, vs1, Nat.zero_le _, rfl, HL4⟩
      case round =>
        clear HL4
        obtain ⟨s, vs2, hs, rfl, HL⟩ := hrel
        by_cases hsN : s < N
        · have hrb := row_bitsN s mk (by omega) hmk64
          have hsb := side_bitsN s (by omega)
          cases h1 : (s &&& mk == s)
          · rw [h1] at hrb
            simp only [Bool.not_false] at hrb
            have HSK := Lib.hid (upQ_skip M m p N s (by rw [HMK.out, kRow, h1, Bool.false_and]))
            clear hsb h1
            go_wp2_with fail
            go_roundw
            case rel => exact ⟨s + 1, vs2, by omega, by go_num, by rw [← HSK.out]; exact HL⟩
            case measure => simp [intOf]; omega
          · rw [h1] at hrb
            simp only [Bool.not_true] at hrb
            cases h2 : ((s &&& (s <<< 1)) == 0)
            · rw [h2] at hsb
              simp only [Bool.not_false] at hsb
              have HSK := Lib.hid (upQ_skip M m p N s (by rw [HMK.out, kRow, h1, h2]; rfl))
              clear h1 h2
              go_wp2_with fail
              go_roundw
              case rel => exact ⟨s + 1, vs2, by omega, by go_num, by rw [← HSK.out]; exact HL⟩
              case measure => simp [intOf]; omega
            · rw [h2] at hsb
              simp only [Bool.not_true] at hsb
              have HFU := Lib.hid (midK_full M m p s N HN.out (by rw [HMK.out, kRow, h1, h2]; rfl))
              have HPF := Lib.hid (popP_full s m hm (by rw [← HN.out]; exact hsN))
              have hpk6 := popK_le s
              clear h1 h2
              go_wp2_with fail
              go_loopw [8, 9] (fun kk c wr => ∃ q : Nat, q ≤ m ∧ kk = .int .i64 (popP s q : Nat) ∧ c = .int .i64 q ∧ Hid (Law w [tM (.slice (some ⟨g2, 0, none⟩) N N) vs2 (lstR N (upQ M m p s)), tM (.slice (some ⟨g1, 0, none⟩) N N) vs (lstR N (kw M m p)), tBox w.heap.size (.int .i64 n) (.int .i64 m) (.slice (some ⟨gb, 0, none⟩) n cap)] wr ∧ vs2.length = N)) (fun _ c _ => m - (intOf c).toNat)
              case atStart => exact ⟨0, Nat.zero_le _, rfl, rfl, HL⟩
              case round =>
                clear HL
                obtain ⟨q, hq, rfl, rfl, HL⟩ := hrel
                have ⟨_, b0, b1, b2, _⟩ := HL.out.1.tl.tl.ownBox
                have hpq := popP_le s q
                by_cases hqm : q < m
                · obtain ⟨hb1, hb2⟩ := bit_num s q (by omega) (by omega)
                  have HPN := Lib.hid (show popP s (q + 1) = popP s q + (if s.testBit q then 1 else 0) from rfl)
                  have hd1 : (if s.testBit q then 1 else 0 : Nat) ≤ 1 := by split <;> omega
                  generalize (if s.testBit q then 1 else 0 : Nat) = d at *
                  generalize popP s q = pq at *
                  go_wp2_with fail
                  clear b0 b1 b2 hb1 hb2
                  go_roundw
                  case rel => exact ⟨q + 1, by omega, by rw [HPN.out]; go_num, by go_num, HL⟩
                  case measure => simp [intOf]; omega
                · obtain rfl : m = q := by omega
                  rw [HPF.out]
                  have HL5 : Hid (Law w [tM (.slice (some ⟨g2, 0, none⟩) N N) vs2 (lstR N (midK M m p s 0)), tM (.slice (some ⟨g1, 0, none⟩) N N) vs (lstR N (kw M m p)), tBox w.heap.size (.int .i64 n) (.int .i64 m) (.slice (some ⟨gb, 0, none⟩) n cap)] wr ∧ vs2.length = N) := Lib.hid (by rw [← midK_start]; exact HL.out)
                  clear HL hpq
                  go_wp2_with fail
                  clear b0 b1 b2
                  go_loopw [10, 11, 63] (fun _ _ j wr => ∃ (t : Nat) (vs3 : List Value), t ≤ N ∧ j = .int .i64 t ∧ Hid (Law w [tM (.slice (some ⟨g2, 0, none⟩) N N) vs3 (lstR N (midK M m p s t)), tM (.slice (some ⟨g1, 0, none⟩) N N) vs (lstR N (kw M m p)), tBox w.heap.size (.int .i64 n) (.int .i64 m) (.slice (some ⟨gb, 0, none⟩) n cap)] wr ∧ vs3.length = N)) (fun _ _ j _ => N - (intOf j).toNat)
                  case atStart => exact ⟨0, vs2, Nat.zero_le _, rfl, HL5⟩
                  case round =>
                    clear HL5
                    obtain ⟨t, vs3, ht, rfl, HL⟩ := hrel
                    by_cases htN : t < N
                    · have hM1 := HL.out.1.tl.ownM
                      have hl1 := hM1.len
                      rw [lstR_len] at hl1
                      have hrow := hM1.row t (by omega)
                      rw [lstR_get] at hrow
                      have hct := World.ownsRow.cellAt (by have := hM1.outer; rw [← hl1] at this; exact this) t (by omega)
                      rw [List.getElem?_eq_getElem (by omega)] at hct
                      obtain ⟨a2, c2, hv2, hrd2⟩ := hrow.reads
                      rw [hv2] at hct
                      have hap := apart_bits t s (by omega) (by omega)
                      have hnb := near_bits s (by omega)
                      clear hM1 hrow hv2 hl1
                      cases hqa : apartB t s
                      · rw [hqa] at hap
                        have HNX := Lib.hid (midK_no M m p s t N hqa)
                        clear hqa hrd2
                        generalize (kw M m p t).length = lt at *
                        go_wp2_with fail
                        go_roundw
                        case rel => exact ⟨t + 1, vs3, by omega, by go_num, by rw [← HNX.out]; exact HL⟩
                        case measure => simp [intOf]; omega
                      · rw [hqa] at hap
                        have hM0 := HL.out.1.ownM
                        have hrow0 := hM0.row s (by have := HL.out.2; omega)
                        rw [lstR_get, midK_at] at hrow0
                        have hcs := World.ownsRow.cellAt (by have := hM0.outer; rw [HL.out.2] at this; exact this) s (by have := HL.out.2; omega)
                        have hfs := World.ownsRow.frozenAt (by have := hM0.outer; rw [HL.out.2] at this; exact this) s
                        rw [List.getElem?_eq_getElem (by have := HL.out.2; omega)] at hcs
                        obtain ⟨a3, c3, hv3⟩ := row_shape hrow0
                        by_cases h0 : (kw M m p t).length = 0
                        · have HNX := Lib.hid (midK_nil M m p s t N hqa h0)
                          have hSM := Law.sameM HL.out.1 HL.out.2 s (by have := HL.out.2; omega)
                          rw [hv3] at hcs hSM
                          rw [HNX.out] at hSM
                          have HSM := Lib.hid (And.intro hSM HL.out.2)
                          rw [h0] at hct
                          generalize (upA (kw M m p) s (popK s) t).length = la at *
                          have HKN := Lib.hid (fun W => kiAdd_none (.slice a3 la c3) a2 c2 (popK s) W)
                          generalize popK s = pk at *
                          clear hSM hM0 hrow0 hv3 hrd2 HL hqa h0
                          go_wp2_with fail
                          refine (HKN.out _).mono ?_
                          rintro e w7 ⟨rfl, hw⟩
                          subst hw
                          go_wp2_with fail
                          go_roundw
                          case rel => exact ⟨t + 1, vs3, by omega, by go_num, HSM⟩
                          case measure => simp [intOf]; omega
                        · have HNX := Lib.hid (midK_set M m p s t N hqa)
                          obtain ⟨hub, hul⟩ := upA_bd M m hm p s t (by omega) (by omega)
                          have hkb := kw_bd M m hm p t
                          have hkl := kw_len M m p t
                          have hbk := bdK_le p (by omega)
                          have hKA := kiAdd_any (upA (kw M m p) s (popK s) t) (kw M m p t) (.slice a3 (upA (kw M m p) s (popK s) t).length c3) a2 c2 (popK s) wr (by omega) (by omega) (by omega) (by omega) (fun e => ⟨(hub e).1, by have := (hub e).2; omega⟩) (fun e => ⟨(hkb e).1, by have := (hkb e).2; omega⟩) (by rw [← hv3]; exact hrow0.src) hrd2
                          have HKA := Lib.hid hKA
                          rw [hv3] at hcs
                          generalize addL (upA (kw M m p) s (popK s) t) (upL (popK s) (kw M m p t)) = ys at *
                          generalize (upA (kw M m p) s (popK s) t).length = la at *
                          generalize (kw M m p t).length = lt at *
                          generalize popK s = pk at *
                          clear hKA hM0 hrow0 hv3 hrd2 hqa h0 hub hul hkb hkl hbk
                          go_wp2_with fail
                          refine HKA.out.mono ?_
                          rintro e w7 ⟨v7, rfl, hO, hb⟩
                          have hcs7 := cell_later hb hcs
                          have hL7 := HL.out.1.own hb hO
                          have hfs7 := World.ownsRow.frozenAt (by have := hL7.tl.ownM.outer; rw [HL.out.2] at this; exact this) s
                          have hP := hL7.putM HL.out.2 s (by omega)
                          rw [HNX.out] at hP
                          obtain ⟨a9, c9, hv9⟩ := row_shape hO
                          subst hv9
                          generalize ys.length = l9 at *
                          have HP := Lib.hid (And.intro hP (show (vs3.set s (.slice a9 l9 c9)).length = N by rw [List.length_set]; exact HL.out.2))
                          clear hP hL7 hO hb HL HKA HNX hcs hfs hct
                          go_wp2_with fail
                          go_roundw
                          case rel => exact ⟨t + 1, _, by omega, by go_num, HP⟩
                          case measure => simp [intOf]; omega
                    · obtain rfl : t = N := by omega
                      rw [HFU.out] at HL
                      go_wp2_with fail
                      go_roundw
                      case rel => exact ⟨s + 1, vs3, by omega, by go_num, HL⟩
                      case measure => simp [intOf]; omega
        · obtain rfl : s = N := by omega
          have HF := Lib.hid (And.intro (HL.out.1.sub (ts' := [tM (.slice (some ⟨g2, 0, none⟩) s s) vs2 (lstR s (upQ M m p s)), tBox w.heap.size (.int .i64 n) (.int .i64 m) (.slice (some ⟨gb, 0, none⟩) n cap)]) (by simp)) HL.out.2)
          rw [upQ_full] at HF
          clear HL
          go_wp2_with fail
          go_roundw
          case rel => exact ⟨p + 1, g2, vs2, by omega, by go_num, rfl, HF⟩
          case measure => simp [intOf]; omega
    · clear hpw1 hpw2
      obtain rfl : n = p := by omega
      have HL6 := Lib.hid (And.intro (HL.out.1.own (Below.refl _ _) (Own.nil _ _)) HL.out.2)
      have HFIN := Lib.hid (show sumKT (kw M m n) N = kingL M n m by unfold sumKT kingL; rw [HN.out])
      clear HL
      go_wp2_with fail
      go_loopw [12, 14, 94] (fun o _ j wr => ∃ t : Nat, t ≤ N ∧ j = .int .i64 t ∧ Hid (Law w [tOwn o (sumKT (kw M m n) t), tM (.slice (some ⟨g1, 0, none⟩) N N) vs (lstR N (kw M m n)), tBox w.heap.size (.int .i64 n) (.int .i64 m) (.slice (some ⟨gb, 0, none⟩) n cap)] wr ∧ vs.length = N)) (fun _ _ j _ => N - (intOf j).toNat)
      case atStart => exact ⟨0, Nat.zero_le _, rfl, HL6⟩
      case round =>
        clear HL6
        obtain ⟨t, ht, rfl, HL⟩ := hrel
        by_cases htN : t < N
        · have hM1 := HL.out.1.tl.ownM
          have hrow := hM1.row t (by have := HL.out.2; omega)
          rw [lstR_get] at hrow
          have hct := World.ownsRow.cellAt (by have := hM1.outer; rw [HL.out.2] at this; exact this) t (by have := HL.out.2; omega)
          rw [List.getElem?_eq_getElem (by have := HL.out.2; omega)] at hct
          obtain ⟨a2, c2, hv2, hrd2⟩ := hrow.reads
          rw [hv2] at hct
          obtain ⟨a3, c3, hv3⟩ := row_shape HL.out.1.ownInts
          have hsrc := HL.out.1.ownInts.src
          by_cases h0 : (kw M m n t).length = 0
          · have HNX := Lib.hid (show sumKT (kw M m n) t = sumKT (kw M m n) (t + 1) by rw [← sumKT_next, List.eq_nil_of_length_eq_zero h0, addL_nil])
            rw [HNX.out] at HL
            rw [h0] at hct
            have HKN := Lib.hid (fun W => kiAdd_none u12 a2 c2 0 W)
            rw [show ((0 : Nat) : Int) = 0 from rfl] at HKN
            clear hM1 hrow hv2 hrd2 h0 hsrc hv3
            go_wp2_with fail
            refine (HKN.out _).mono ?_
            rintro e w7 ⟨rfl, hw⟩
            subst hw
            go_wp2_with fail
            go_roundw
            case rel => exact ⟨t + 1, by omega, by go_num, HL⟩
            case measure => simp [intOf]; omega
          · obtain ⟨hub, hul⟩ := sumKT_bd M m hm n t hn (by omega)
            have hkb := kw_bd M m hm n t
            have hkl := kw_len M m n t
            have hbk := bdK_le n hn
            have hKA := kiAdd_any (sumKT (kw M m n) t) (kw M m n t) u12 a2 c2 0 wr (by omega) (by omega) (by omega) (by omega) (fun e => ⟨(hub e).1, by have := (hub e).2; omega⟩) (fun e => ⟨(hkb e).1, by have := (hkb e).2; omega⟩) hsrc hrd2
            rw [upL_zero, sumKT_next, show ((0 : Nat) : Int) = 0 from rfl] at hKA
            have HKA := Lib.hid hKA
            generalize (kw M m n t).length = lt at *
            clear hKA hM1 hrow hv2 hrd2 h0 hub hul hkb hkl hbk hsrc hv3
            go_wp2_with fail
            refine HKA.out.mono ?_
            rintro e w7 ⟨v7, rfl, hO, hb⟩
            have HL7 := Lib.hid (And.intro ((HL.out.1.own hb hO).sub (ts' := [tOwn v7 (sumKT (kw M m n) (t + 1)), tM (.slice (some ⟨g1, 0, none⟩) N N) vs (lstR N (kw M m n)), tBox w.heap.size (.int .i64 n) (.int .i64 m) (.slice (some ⟨gb, 0, none⟩) n cap)]) (by simp)) HL.out.2)
            clear hO hb HL HKA
            go_wp2_with fail
            go_roundw
            case rel => exact ⟨t + 1, by omega, by go_num, HL7⟩
            case measure => simp [intOf]; omega
        · obtain rfl : t = N := by omega
          rw [HFIN.out] at HL
          go_wp2_with fail
          go_ret
          exact ⟨_, rfl, HL.out.1.ownLo, HL.out.1.below⟩

end Go.Proofs.Ytakdiiccdkjjcab
