/- Rook numbers by a cell, in the program. No condition but the sizes. -/
import Derived.Test.YtakdiiccdkjjcabRd
import Derived.Test.YtakdiiccdkjjcabBd
import Derived.Test.YtakdiiccdkjjcabPc
namespace Go.Proofs.Ytakdiiccdkjjcab
open Go.RowKit Go.WideShapes

/-- The masks without one cell. -/
def lessM (M : Nat → Int) (i j : Nat) : Nat → Int := fun k => if k = i then M i - 2 ^ j else M k

theorem own_one (w : World) (x : Int) : Own (w.alloc (.cells #[.int .i64 x] 3)) w.heap.size (.slice (some ⟨w.heap.size, 0, none⟩) 1 1) [x] :=
  own_of_has (n := 1) (xs := [x]) (Has.new w [.int .i64 x] 3) (Nat.le_refl _) rfl (by unfold maxLen; omega)

set_option maxRecDepth 100000 in
set_option maxHeartbeats 12800000 in
theorem implBy_any (r c : Int) (xs : List Int) (i j : Int) (w : World) (hx : xs.length ≤ 1048576) (lo : Nat) (s : Value) (hO : Own w lo s xs) :
    Calls Try.prog 43 #[.agg #[.int .i64 r, .int .i64 c, s], .int .i64 i, .int .i64 j] w fun e w' => AnsLL (byB r c xs i j) w e w' := by
  have L0 := (Law.start w).box (.int .i64 r) (.int .i64 c) s 28
  have HO := Lib.hid hO
  obtain ⟨a, cap, rfl, hr⟩ := hO.reads
  have hr0 := L0.reads hr
  clear hO
  cases hg : goodB r c xs
  · rw [show byB r c xs i j = ⟨[], [], false⟩ by unfold byB placeB; rw [hg]; rfl]
    go_enter Try.func43, Try.ntmps43
    go_wp2_with fail
    refine (gridOf_no r c a cap xs _ hx hr0 hg).mono ?_
    rintro e w1 ⟨rfl, hb⟩
    have HB := Lib.hid (((L0.kept hb).kept (below_new (.cells #[.int .i64 0, .int .i64 0, .int .i64 0, .int .i64 0, .int .i64 0, .int .i64 0, .int .i64 0, .int .i64 0] 64))).below)
    clear L0 hb hg hr0
    go_wp2_with fail
    go_ret3
    exact ansLL_no _ _ HB.out
  · obtain ⟨M, hM, hc⟩ := gridOf_good r c a cap xs _ hx hr0 hg
    have HC := Lib.hid hc; clear hc
    have HI := Lib.hid (fun W => inside_any r c i j M W)
    have hgc := good_cell hg
    cases hi : insB r c i j
    · rw [show byB r c xs i j = ⟨[], [], false⟩ by unfold byB placeB; rw [hi, Bool.and_false]; rfl]
      rw [hi] at HI
      clear hg hr0 hM hi hgc
      go_enter Try.func43, Try.ntmps43
      go_wp2_with fail
      refine HC.out.mono ?_
      rintro e w1 ⟨rfl, hb⟩
      have HL := Lib.hid ((L0.kept hb).has (gl r c M) 64)
      clear L0 hb HC
      go_wp2_with fail
      refine (HI.out _).mono ?_
      rintro e w2 ⟨rfl, hb⟩
      have HB := Lib.hid (HL.out.kept hb).below
      clear HL hb HI
      go_wp2_with fail
      go_ret3
      exact ansLL_no _ _ HB.out
    · obtain ⟨h1, h2, h3, h4⟩ := insB_iff.1 hi
      obtain ⟨g1, g2, g3, _⟩ := good_facts hg
      obtain ⟨k, rfl⟩ := Int.eq_ofNat_of_zero_le h1
      obtain ⟨l, rfl⟩ := Int.eq_ofNat_of_zero_le h3
      have hbit : bitB xs k l = (xs.getD k 0).toNat.testBit l := by simp [bitB]
      have hmk := hgc k
      rw [← hM k] at hmk
      have HA := Lib.hid (fun W => at_any r c M k l W (by omega) (by omega) hmk)
      rw [← hM k] at hbit
      rw [hi] at HI
      cases hb1 : (M k).toNat.testBit l
      · rw [show byB r c xs k l = ⟨[], [], false⟩ by unfold byB; rw [hbit, hb1, Bool.and_false]; rfl]
        rw [hb1] at HA
        clear hg hr0 hM hi hgc hbit hb1
        go_enter Try.func43, Try.ntmps43
        go_wp2_with fail
        refine HC.out.mono ?_
        rintro e w1 ⟨rfl, hb⟩
        have L1 := (L0.kept hb).has (gl r c M) 64
        rw [show w1.alloc (.cells (gl r c M).toArray 64) = w1.alloc (.cells #[.int .i64 r, .int .i64 c, .int .i64 (M 0), .int .i64 (M 1), .int .i64 (M 2), .int .i64 (M 3), .int .i64 (M 4), .int .i64 (M 5)] 64) from rfl] at L1
        have HL := Lib.hid L1
        clear L0 hb HC L1
        go_upto_region 2 with fail
        generalize w1.alloc (.cells #[.int .i64 r, .int .i64 c, .int .i64 (M 0), .int .i64 (M 1), .int .i64 (M 2), .int .i64 (M 3), .int .i64 (M 4), .int .i64 (M 5)] 64) = w5 at *
        obtain ⟨e0, e1, e2, e3, e4, e5, e6, e7, _⟩ := HL.out.ownHas.eight
        go_wp2_with fail
        refine (HI.out _).mono ?_
        rintro e w2 ⟨rfl, hb⟩
        have L2 := HL.out.kept hb
        clear e0 e1 e2 e3 e4 e5 e6 e7 HL hb
        obtain ⟨e0, e1, e2, e3, e4, e5, e6, e7, _⟩ := L2.ownHas.eight
        have HL := Lib.hid L2
        clear L2
        go_wp2_with fail
        refine (HA.out _).mono ?_
        rintro e w3 ⟨rfl, hb⟩
        have HB := Lib.hid (HL.out.kept hb).below
        clear HL hb HA HI e0 e1 e2 e3 e4 e5 e6 e7
        go_wp2_with fail
        go_ret3
        exact ansLL_no _ _ HB.out
      · obtain ⟨n, rfl⟩ : ∃ n : Nat, r = (n : Int) + 1 := ⟨(r - 1).toNat, by omega⟩
        obtain ⟨m, rfl⟩ : ∃ m : Nat, c = (m : Int) + 1 := ⟨(c - 1).toNat, by omega⟩
        rw [show byB ((n : Int) + 1) ((m : Int) + 1) xs k l = ⟨numL (n + 1) (m + 1) (bt (lessL xs k l)), numL n m (bt (strikeL xs k l m)), true⟩ by
          have e1 : ((n : Int) + 1).toNat = n + 1 := by omega
          have e2 : ((m : Int) + 1).toNat = m + 1 := by omega
          unfold byB placeB
          rw [hg, hi, hbit, hb1, Bool.and_self, Bool.and_self, if_pos rfl, e1, e2]
          simp only [Int.toNat_natCast, Nat.add_sub_cancel]]
        rw [hb1] at HA
        have hkx : k < xs.length := by omega
        have hlM : ∀ q, lessM M k l q = (lessL xs k l).getD q 0 := fun q => by
          unfold lessM
          rw [lessL_get]
          by_cases e : q = k
          · subst e; rw [if_pos rfl, if_pos ⟨rfl, hkx⟩, hM]
          · rw [if_neg e, if_neg (fun h => e h.1), hM]
        have hlc := lessL_cell xs k l hgc (by omega) (by rw [← hM]; exact hb1)
        simp only [← hlM] at hlc
        have hn1 := fun W => rookNumbers_any (n + 1) (m + 1) (lessM M k l) W (by omega) (by omega) (fun q _ => hlc q)
        have hd1 : lstL (min (n + 1) (m + 1) + 1) (wR (m + 1) (bM (lessM M k l)) (n + 1) 0 0) = numL (n + 1) (m + 1) (bt (lessL xs k l)) := by
          rw [show bM (lessM M k l) = bt (lessL xs k l) by funext a b; simp only [bM, bt, hlM]]
          rfl
        rw [hd1, show ((n + 1 : Nat) : Int) = (n : Int) + 1 by push_cast; rfl, show ((m + 1 : Nat) : Int) = (m : Int) + 1 by push_cast; rfl] at hn1
        have hk6 : k < 6 := by omega
        have hS := fun (W : World) (hO : Own W lo (.slice a xs.length cap) xs) => implStrike_any ((n : Int) + 1) ((m : Int) + 1) xs k l W hx lo _ hO
        obtain ⟨_, _, hand, _, _⟩ := less_bd (M k) l hmk (by omega) hb1
        have hk0 : (0 : Int) ≤ k := by omega
        have hk1 : (k : Int) < 6 := by omega
        have hl0 : (0 : Int) ≤ l := by omega
        have hl64 : (l : Int) < 64 := by omega
        have HSL := Lib.hid (show (strikeL xs k l m).length = n by rw [strikeL_len _ _ _ _ hkx]; omega)
        have hpl : placeB ((n : Int) + 1) ((m : Int) + 1) xs k l = true := by unfold placeB; rw [hg, hi]; rfl
        generalize hqa : min (n + 1) (m + 1) = qa at *
        have HN1 := Lib.hid hn1
        by_cases hz : n = 0 ∨ m = 0
        · have hsz : strikeB ((n : Int) + 1) ((m : Int) + 1) xs k l = BR.zero := by
            unfold strikeB
            rw [if_neg]
            rw [hpl]
            simp only [Bool.true_and, Bool.and_eq_true, Bool.not_eq_true', beq_eq_false_iff_ne]
            omega
          have hS2 : ∀ (W : World), Own W lo (.slice a xs.length cap) xs → Calls Try.prog 83 #[.agg #[.int .i64 ((n : Int) + 1), .int .i64 ((m : Int) + 1), .slice a xs.length cap], .int .i64 k, .int .i64 l] W fun e w' => ∃ s, e = .returned (.tuple #[.agg #[.int .i64 0, .int .i64 0, s], .bool false]) ∧ Own w' W.heap.size s [] ∧ Below W.heap.size W w' := fun W hO => by
            have := hS W hO
            rw [hsz] at this
            exact this
          have HS := Lib.hid hS2
          have hA2 := numL_one n m (bt (strikeL xs k l m)) hz
          generalize numL n m (bt (strikeL xs k l m)) = A2 at *
          have HA2 := Lib.hid hA2
          generalize numL (n + 1) (m + 1) (bt (lessL xs k l)) = A1 at *
          clear hg hr0 hM hi hgc hbit hb1 hlM hlc hn1 hd1 hS hS2 hsz hpl hz hA2 hmk h1 h2 h3 h4 g1 g2 g3 hqa
          go_enter Try.func43, Try.ntmps43
          go_wp2_with fail
          refine HC.out.mono ?_
          rintro e w1 ⟨rfl, hb⟩
          have L1 := (L0.kept hb).has (gl ((n : Int) + 1) ((m : Int) + 1) M) 64
          rw [show w1.alloc (.cells (gl ((n : Int) + 1) ((m : Int) + 1) M).toArray 64) = w1.alloc (.cells #[.int .i64 ((n : Int) + 1), .int .i64 ((m : Int) + 1), .int .i64 (M 0), .int .i64 (M 1), .int .i64 (M 2), .int .i64 (M 3), .int .i64 (M 4), .int .i64 (M 5)] 64) from rfl] at L1
          have HL := Lib.hid L1
          clear L0 hb HC L1
          go_upto_region 2 with fail
          generalize w1.alloc (.cells #[.int .i64 ((n : Int) + 1), .int .i64 ((m : Int) + 1), .int .i64 (M 0), .int .i64 (M 1), .int .i64 (M 2), .int .i64 (M 3), .int .i64 (M 4), .int .i64 (M 5)] 64) = w5 at *
          obtain ⟨bg, hbg⟩ : ∃ bg, bg = w1.heap.size := ⟨_, rfl⟩
          rw [← hbg] at HL ⊢
          clear hbg
          obtain ⟨e0, e1, e2, e3, e4, e5, e6, e7, _⟩ := HL.out.ownHas.eight
          go_wp2_with fail
          refine (HI.out _).mono ?_
          rintro e w2 ⟨rfl, hb⟩
          have L2 := HL.out.kept hb
          clear e0 e1 e2 e3 e4 e5 e6 e7 HL hb
          obtain ⟨e0, e1, e2, e3, e4, e5, e6, e7, _⟩ := L2.ownHas.eight
          have HL := Lib.hid L2
          clear L2
          go_wp2_with fail
          refine (HA.out _).mono ?_
          rintro e w3 ⟨rfl, hb⟩
          have L3 := HL.out.kept hb
          have L4 := L3.own (below_new _) (own_one w3 1)
          have HL4 := Lib.hid L4
          clear HL hb HA HI e0 e1 e2 e3 e4 e5 e6 e7 L3 L4
          go_upto_region 5 with fail
          generalize w3.alloc (.cells #[.int .i64 1] 3) = w6 at *
          obtain ⟨bh, hbh⟩ : ∃ bh, bh = w3.heap.size := ⟨_, rfl⟩
          rw [← hbh] at HL4 ⊢
          clear hbh
          have ⟨_, k0, k1, k2, _⟩ := HL4.out.tl.tl.ownBox
          go_wp2_with fail
          refine (HS.out _ (HO.out.kept HL4.out.below)).mono ?_
          rintro e w7 ⟨s7, rfl, hO7, hb⟩
          obtain ⟨a7, p7, hs7, _⟩ := hO7.reads
          subst hs7
          have L5 := (HL4.out.own hb hO7).box (.int .i64 0) (.int .i64 0) (.slice a7 (List.length ([] : List Int)) p7) 28
          have HL5 := Lib.hid L5
          clear HL4 hO7 hb L5 k0 k1 k2
          go_upto_region 8 with fail
          generalize w7.alloc (.cells #[.int .i64 0, .int .i64 0, .slice a7 (List.length ([] : List Int)) p7] 28) = w8 at *
          have hce := HL5.out.tl.tl.tl.ownHas.cell (2 + k)
          have hfe := HL5.out.tl.tl.tl.ownHas.free (2 + k)
          have hS2 := Law.setHas (ts := [_, _, _]) HL5.out (2 + k) (.int .i64 (M k - 2 ^ l))
          rw [gl_get _ _ _ k hk6] at hce
          rw [gl_set _ _ M (lessM M k l) k hk6 _ (by unfold lessM; rw [if_pos rfl]) (fun q hq => by unfold lessM; rw [if_neg hq])] at hS2
          have HL7 := Lib.hid hS2.drew
          clear hS2 HL5
          go_region
          have L8 := HL7.out
          generalize (w8.setCell ⟨bg, 2 + k, none⟩ (.int .i64 (M k - 2 ^ l))).drew = w10 at *
          obtain ⟨e0, e1, e2, e3, e4, e5, e6, e7, _⟩ := L8.tl.tl.tl.ownHas.eight
          clear hce hfe
          go_wp2_with fail
          refine (HN1.out _).mono ?_
          rintro e w11 ⟨gA, pA, rfl, hOA, hb⟩
          have HL9 := Lib.hid (L8.own hb hOA)
          clear HL7 L8 hOA hb e0 e1 e2 e3 e4 e5 e6 e7
          go_wp2_with fail
          go_ret3
          exact ⟨.slice (some ⟨gA, 0, none⟩) (qa + 1) pA, .slice (some ⟨bh, 0, none⟩) 1 1, rfl, HL9.out.ownLo, by show Own _ _ _ A2; rw [HA2.out]; exact HL9.out.ownLoOf (by simp), (Law.apart (a := []) (b := [_, _]) HL9.out).1, HL9.out.below⟩
        · have hne : strikeB ((n : Int) + 1) ((m : Int) + 1) xs k l = ⟨n, m, strikeL xs k l m, true⟩ := by
            unfold strikeB
            rw [if_pos]
            · simp
            · rw [hpl]
              simp only [Bool.true_and, Bool.and_eq_true, Bool.not_eq_true', beq_eq_false_iff_ne]
              omega
          have hS2 : ∀ (W : World), Own W lo (.slice a xs.length cap) xs → Calls Try.prog 83 #[.agg #[.int .i64 ((n : Int) + 1), .int .i64 ((m : Int) + 1), .slice a xs.length cap], .int .i64 k, .int .i64 l] W fun e w' => ∃ s, e = .returned (.tuple #[.agg #[.int .i64 n, .int .i64 m, s], .bool true]) ∧ Own w' W.heap.size s (strikeL xs k l m) ∧ Below W.heap.size W w' := fun W hO => by
            have := hS W hO
            rw [hne] at this
            exact this
          have HS := Lib.hid hS2
          have hn2 : ∀ (W : World) (lo' : Nat) (s' : Value), Own W lo' s' (strikeL xs k l m) → Calls Try.prog 84 #[.agg #[.int .i64 n, .int .i64 m, s']] W fun e w' => ∃ s, e = .returned (.tuple #[s, .bool true]) ∧ Own w' W.heap.size s (numL n m (bt (strikeL xs k l m))) ∧ Below W.heap.size W w' := fun W lo' s' hO => by
            have := implNumbers_any n m (strikeL xs k l m) W (by rw [HSL.out]; omega) lo' s' hO
            rw [show numB n m (strikeL xs k l m) = ⟨numL n m (bt (strikeL xs k l m)), true⟩ by
              unfold numB
              rw [strike_good n m xs k l (by omega) hkx (by omega) (by omega), if_pos rfl]
              simp only [Int.toNat_natCast]] at this
            exact this
          have HN2 := Lib.hid hn2
          generalize numL n m (bt (strikeL xs k l m)) = A2 at *
          generalize numL (n + 1) (m + 1) (bt (lessL xs k l)) = A1 at *
          clear hg hr0 hM hi hgc hbit hb1 hlM hlc hn1 hd1 hS hS2 hne hpl hz hn2 hmk h1 h2 h3 h4 g1 g2 g3 hqa
          go_enter Try.func43, Try.ntmps43
          go_wp2_with fail
          refine HC.out.mono ?_
          rintro e w1 ⟨rfl, hb⟩
          have L1 := (L0.kept hb).has (gl ((n : Int) + 1) ((m : Int) + 1) M) 64
          rw [show w1.alloc (.cells (gl ((n : Int) + 1) ((m : Int) + 1) M).toArray 64) = w1.alloc (.cells #[.int .i64 ((n : Int) + 1), .int .i64 ((m : Int) + 1), .int .i64 (M 0), .int .i64 (M 1), .int .i64 (M 2), .int .i64 (M 3), .int .i64 (M 4), .int .i64 (M 5)] 64) from rfl] at L1
          have HL := Lib.hid L1
          clear L0 hb HC L1
          go_upto_region 2 with fail
          generalize w1.alloc (.cells #[.int .i64 ((n : Int) + 1), .int .i64 ((m : Int) + 1), .int .i64 (M 0), .int .i64 (M 1), .int .i64 (M 2), .int .i64 (M 3), .int .i64 (M 4), .int .i64 (M 5)] 64) = w5 at *
          obtain ⟨bg, hbg⟩ : ∃ bg, bg = w1.heap.size := ⟨_, rfl⟩
          rw [← hbg] at HL ⊢
          clear hbg
          obtain ⟨e0, e1, e2, e3, e4, e5, e6, e7, _⟩ := HL.out.ownHas.eight
          go_wp2_with fail
          refine (HI.out _).mono ?_
          rintro e w2 ⟨rfl, hb⟩
          have L2 := HL.out.kept hb
          clear e0 e1 e2 e3 e4 e5 e6 e7 HL hb
          obtain ⟨e0, e1, e2, e3, e4, e5, e6, e7, _⟩ := L2.ownHas.eight
          have HL := Lib.hid L2
          clear L2
          go_wp2_with fail
          refine (HA.out _).mono ?_
          rintro e w3 ⟨rfl, hb⟩
          have L3 := HL.out.kept hb
          have L4 := L3.own (below_new _) (own_one w3 1)
          have HL4 := Lib.hid L4
          clear HL hb HA HI e0 e1 e2 e3 e4 e5 e6 e7 L3 L4
          go_upto_region 5 with fail
          generalize w3.alloc (.cells #[.int .i64 1] 3) = w6 at *
          obtain ⟨bh, hbh⟩ : ∃ bh, bh = w3.heap.size := ⟨_, rfl⟩
          rw [← hbh] at HL4 ⊢
          clear hbh
          have ⟨_, k0, k1, k2, _⟩ := HL4.out.tl.tl.ownBox
          go_wp2_with fail
          refine (HS.out _ (HO.out.kept HL4.out.below)).mono ?_
          rintro e w7 ⟨s7, rfl, hO7, hb⟩
          obtain ⟨a7, p7, hs7, _⟩ := hO7.reads
          subst hs7
          have hz7 : (strikeL xs k l m).length = n := HSL.out
          rw [hz7] at hO7 ⊢
          clear hz7
          have L5 := (HL4.out.own hb hO7).box (.int .i64 n) (.int .i64 m) (.slice a7 n p7) 28
          have HL5 := Lib.hid L5
          have HO7 := Lib.hid (hO7.kept (below_new (.cells #[.int .i64 n, .int .i64 m, .slice a7 n p7] 28)))
          clear HL4 hO7 hb L5 k0 k1 k2
          go_upto_region 6 with fail
          generalize w7.alloc (.cells #[.int .i64 n, .int .i64 m, .slice a7 n p7] 28) = w8 at *
          have ⟨_, k0, k1, k2, _⟩ := HL5.out.ownBox
          go_wp2_with fail
          refine (HN2.out _ _ _ HO7.out).mono ?_
          rintro e w9 ⟨s9, rfl, hO9, hb⟩
          obtain ⟨a9, p9, hs9, _⟩ := hO9.reads
          subst hs9
          have HL6 := Lib.hid (HL5.out.own hb hO9)
          clear HL5 hO9 hb HO7 k0 k1 k2
          go_upto_region 8 with fail
          have hce := HL6.out.tl.tl.tl.tl.ownHas.cell (2 + k)
          have hfe := HL6.out.tl.tl.tl.tl.ownHas.free (2 + k)
          have hS2 := Law.setHas (ts := [_, _, _, _]) HL6.out (2 + k) (.int .i64 (M k - 2 ^ l))
          rw [gl_get _ _ _ k hk6] at hce
          rw [gl_set _ _ M (lessM M k l) k hk6 _ (by unfold lessM; rw [if_pos rfl]) (fun q hq => by unfold lessM; rw [if_neg hq])] at hS2
          have HL7 := Lib.hid hS2.drew
          clear hS2 HL6
          go_region
          have L8 := HL7.out
          generalize (w9.setCell ⟨bg, 2 + k, none⟩ (.int .i64 (M k - 2 ^ l))).drew = w10 at *
          obtain ⟨e0, e1, e2, e3, e4, e5, e6, e7, _⟩ := L8.tl.tl.tl.tl.ownHas.eight
          clear hce hfe
          go_wp2_with fail
          refine (HN1.out _).mono ?_
          rintro e w11 ⟨gA, pA, rfl, hOA, hb⟩
          have HL9 := Lib.hid (L8.own hb hOA)
          clear HL7 L8 hOA hb e0 e1 e2 e3 e4 e5 e6 e7
          go_wp2_with fail
          go_ret3
          exact ⟨.slice (some ⟨gA, 0, none⟩) (qa + 1) pA, .slice a9 A2.length p9, rfl, HL9.out.ownLo, HL9.out.ownLoOf (by simp), (Law.apart (a := []) (b := []) HL9.out).1, HL9.out.below⟩
end Go.Proofs.Ytakdiiccdkjjcab
