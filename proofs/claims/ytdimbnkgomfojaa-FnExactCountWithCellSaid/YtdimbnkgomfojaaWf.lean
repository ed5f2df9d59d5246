/- Placements counted with a rook at one place: both texts. No condition but the sizes. -/
import Derived.Test.YtdimbnkgomfojaaWe
import Derived.Test.YtdimbnkgomfojaaBd
namespace Go.Proofs.Ytdimbnkgomfojaa
open Go.RowKit Go.WideShapes

def cwcB (r c : Int) (xs : List Int) (i j k : Int) : R1 := if placeB r c xs i j && inB 0 k 6 then ⟨if k = 0 ∨ bitB xs i j = false then 0 else (numL (r.toNat - 1) (c.toNat - 1) (bt (strikeL xs i.toNat j.toNat (c.toNat - 1)))).getD (k.toNat - 1) 0, true⟩ else ⟨0, false⟩

set_option maxRecDepth 100000 in
set_option maxHeartbeats 6400000 in
theorem specCwc_any (r c : Int) (xs : List Int) (i j k : Int) (w : World) (hx : xs.length ≤ 1048576) (lo : Nat) (s : Value) (hO : Own w lo s xs) :
    Calls Try.prog 35 #[.agg #[.int .i64 r, .int .i64 c, s], .int .i64 i, .int .i64 j, .int .i64 k] w fun e w' => AnsIO (cwcB r c xs i j k) w e w' := by
  have L0 := (Law.start w).box (.int .i64 r) (.int .i64 c) s 29
  have hO0 := hO.kept L0.below
  have HO := Lib.hid hO
  obtain ⟨a, cap, rfl, _⟩ := hO.reads
  clear hO
  have HC := Lib.hid (boPlace_any r c xs i j _ hx lo _ hO0)
  have HI := Lib.hid (l1In_any k 0 6)
  cases hp : placeB r c xs i j
  · rw [show cwcB r c xs i j k = ⟨0, false⟩ by unfold cwcB; rw [hp]; rfl]
    rw [hp] at HC
    clear hp
    go_enter Try.func35, Try.ntmps35
    go_wp2_with fail
    refine HC.out.mono ?_
    rintro e w1 ⟨rfl, hb⟩
    have HB := Lib.hid (L0.kept hb).below
    clear hb L0 hO0 HC
    go_wp2_with fail
    go_ret2
    exact ⟨rfl, HB.out⟩
  · rw [hp] at HC
    cases hi : inB 0 k 6
    · rw [show cwcB r c xs i j k = ⟨0, false⟩ by unfold cwcB; rw [hi, Bool.and_false]; rfl]
      rw [hi] at HI
      clear hp hi
      go_enter Try.func35, Try.ntmps35
      go_wp2_with fail
      refine HC.out.mono ?_
      rintro e w1 ⟨rfl, hb⟩
      have HB := Lib.hid (L0.kept hb).below
      clear hb L0 hO0 HC
      go_wp2_with fail
      refine (HI.out _).mono ?_
      rintro e w' ⟨rfl, rfl⟩
      go_wp2_with fail
      go_ret2
      exact ⟨rfl, HB.out⟩
    · rw [hi] at HI
      have hp' := hp
      rw [placeB, Bool.and_eq_true, insB_iff] at hp'
      obtain ⟨hg, h1, h2, h3, h4⟩ := hp'
      obtain ⟨g1, g2, g3, _⟩ := good_facts hg
      have hk6 := inB_iff.1 hi
      obtain ⟨p, rfl⟩ := Int.eq_ofNat_of_zero_le h1
      obtain ⟨l, rfl⟩ := Int.eq_ofNat_of_zero_le h3
      obtain ⟨q, rfl⟩ := Int.eq_ofNat_of_zero_le hk6.1
      have hbit : bitB xs p l = (xs.getD p 0).toNat.testBit l := by simp [bitB]
      have hcell := good_cell hg
      by_cases hq0 : q = 0
      · subst hq0
        rw [show cwcB r c xs p l ((0 : Nat) : Int) = ⟨0, true⟩ by unfold cwcB; rw [hp, hi, Bool.and_self, if_pos rfl, if_pos (.inl rfl)]]
        rw [show ((0 : Nat) : Int) = 0 from rfl] at HI ⊢
        clear hp hi hbit hcell hg
        go_enter Try.func35, Try.ntmps35
        go_wp2_with fail
        refine HC.out.mono ?_
        rintro e w1 ⟨rfl, hb⟩
        have HB := Lib.hid (L0.kept hb).below
        clear hb L0 hO0 HC
        go_wp2_with fail
        refine (HI.out _).mono ?_
        rintro e w' ⟨rfl, rfl⟩
        go_wp2_with fail
        go_ret2
        exact ⟨rfl, HB.out⟩
      · have hqz : ((q : Int) == 0) = false := by rw [beq_eq_false_iff_ne]; omega
        have HH := Lib.hid (fun W (hO : Own W lo (.slice a xs.length cap) xs) => boHas_any r c xs p l W (by omega) hx (by omega) (hcell p) lo _ hO)
        cases hb1 : (xs.getD p 0).toNat.testBit l
        · rw [show cwcB r c xs p l q = ⟨0, true⟩ by unfold cwcB; rw [hp, hi, Bool.and_self, if_pos rfl, if_pos (.inr (by rw [hbit, hb1]))]]
          rw [hb1] at HH
          clear hp hi hbit hcell hg hb1
          go_enter Try.func35, Try.ntmps35
          go_wp2_with fail
          refine HC.out.mono ?_
          rintro e w1 ⟨rfl, hb⟩
          have ⟨_, k0, k1, k2, _⟩ := (L0.kept hb).ownBox
          have HL := Lib.hid (L0.kept hb)
          clear hb L0 hO0 HC
          go_wp2_with fail
          refine (HI.out _).mono ?_
          rintro e w' ⟨rfl, rfl⟩
          go_wp2_with fail
          refine (HH.out _ (HO.out.kept HL.out.below)).mono ?_
          rintro e w2 ⟨rfl, hb⟩
          have HB := Lib.hid (HL.out.kept hb).below
          clear hb HL HH k0 k1 k2
          go_wp2_with fail
          go_ret2
          exact ⟨rfl, HB.out⟩
        · obtain ⟨n, rfl⟩ : ∃ n : Nat, r = (n : Int) + 1 := ⟨(r - 1).toNat, by omega⟩
          obtain ⟨m, rfl⟩ : ∃ m : Nat, c = (m : Int) + 1 := ⟨(c - 1).toNat, by omega⟩
          rw [show cwcB ((n : Int) + 1) ((m : Int) + 1) xs p l q = ⟨(numL n m (bt (strikeL xs p l m))).getD (q - 1) 0, true⟩ by
            have e1 : ((n : Int) + 1).toNat = n + 1 := by omega
            have e2 : ((m : Int) + 1).toNat = m + 1 := by omega
            unfold cwcB
            rw [hp, hi, Bool.and_self, if_pos rfl, if_neg (by rw [hbit, hb1]; simp; omega), e1, e2]
            simp only [Int.toNat_natCast, Nat.add_sub_cancel]]
          rw [hb1] at HH
          have hs1 := fun (W : World) (hO : Own W lo (.slice a xs.length cap) xs) => boStrike_any ((n : Int) + 1) ((m : Int) + 1) xs p l m W hx hg (by omega) (by omega) rfl lo _ hO
          rw [show (n : Int) + 1 - 1 = n by omega] at hs1
          have hn2 := fun (W : World) (lo' : Nat) (s' : Value) (hO : Own W lo' s' (strikeL xs p l m)) => roOf_any n m (q - 1) (strikeL xs p l m) W (by rw [strikeL_len _ _ _ _ (by omega)]; omega) (by omega) (by omega) (by rw [strikeL_len _ _ _ _ (by omega)]; omega) (strikeL_cell xs p l m (by omega)) lo' s' hO
          rw [show ((q - 1 : Nat) : Int) = (q : Int) - 1 by omega] at hn2
          have HN2 := Lib.hid hn2
          have HS := Lib.hid hs1
          have hqb : (1 : Int) ≤ q ∧ (q : Int) ≤ 6 := by omega
          obtain ⟨hqb1, hqb2⟩ := hqb
          generalize (numL n m (bt (strikeL xs p l m))).getD (q - 1) 0 = y at *
          generalize strikeL xs p l m = vs at *
          clear hp hi hbit hcell hg hb1 hs1 hn2 g1 g2 g3
          go_enter Try.func35, Try.ntmps35
          go_wp2_with fail
          refine HC.out.mono ?_
          rintro e w1 ⟨rfl, hb⟩
          have ⟨_, k0, k1, k2, _⟩ := (L0.kept hb).ownBox
          have HL := Lib.hid (L0.kept hb)
          clear hb L0 hO0 HC
          go_wp2_with fail
          refine (HI.out _).mono ?_
          rintro e w' ⟨rfl, rfl⟩
          go_wp2_with fail
          refine (HH.out _ (HO.out.kept HL.out.below)).mono ?_
          rintro e w2 ⟨rfl, hb⟩
          have L2 := HL.out.kept hb
          clear hb HL HH k0 k1 k2
          have ⟨_, k0, k1, k2, _⟩ := L2.ownBox
          have HL := Lib.hid L2
          clear L2
          go_wp2_with fail
          refine (HS.out _ (HO.out.kept HL.out.below)).mono ?_
          rintro e w3 ⟨v, rfl, hO3, hb⟩
          have HL3 := Lib.hid (HL.out.kept hb)
          have HO3 := Lib.hid hO3
          clear HL hb hO3 HS k0 k1 k2
          go_wp2_with fail
          refine (HN2.out _ _ _ HO3.out).mono ?_
          rintro e w4 ⟨rfl, hb⟩
          have HB := Lib.hid (HL3.out.kept hb).below
          clear HL3 hb HO3 HN2
          go_wp2_with fail
          go_ret2
          exact ⟨rfl, HB.out⟩

theorem isRookCount_any (x : Int) (w : World) : Calls Try.prog 58 #[.int .i64 x] w fun e w' => e = .returned (.bool (inB 0 x 6)) ∧ w = w' := by
  by_cases h1 : 0 ≤ x
  · by_cases h2 : x ≤ 6
    · have HI := Lib.hid (inB_yes h1 h2)
      go_enter Try.func58, Try.ntmps58
      go_wp2
      all_goals go_ret
      all_goals exact ⟨ret_bool HI.out.symm, rfl⟩
    · have HI := Lib.hid (inB_no (lo := 0) (n := x) (hi := 6) (by omega))
      have h3 : 6 < x := by omega
      go_enter Try.func58, Try.ntmps58
      go_wp2
      all_goals go_ret
      all_goals exact ⟨ret_bool (by rw [HI.out]), rfl⟩
  · have HI := Lib.hid (inB_no (lo := 0) (n := x) (hi := 6) (by omega))
    have h3 : x < 0 := by omega
    go_enter Try.func58, Try.ntmps58
    go_wp2
    all_goals go_ret
    all_goals exact ⟨ret_bool (by rw [HI.out]), rfl⟩

set_option maxRecDepth 100000 in
set_option maxHeartbeats 1600000 in
theorem cwcWalk_any (br bc bs n m p l q : Nat) (M : Nat → Int) (w : World) (hn : n + 1 ≤ 6) (hm : m + 1 ≤ 6) (hq : q ≤ 6) (hp : p < n + 1) (hg : ∀ k, k < 6 → 0 ≤ M k ∧ M k < 64) (h1 : br < bs) (h2 : bc < bs)
    (H : Has w bs (sumP2 br bc 0) 83) (H1 : Has w br [.int .i64 p] 3) (H2 : Has w bc [.int .i64 l] 3) :
    Calls Try.prog 60 #[gv ((n : Int) + 1) ((m : Int) + 1) M, .int .i64 q, .func (.func 76) #[.pointer (some ⟨bs, 0, none⟩)] #[]] w fun e w' => e = .returned (.tuple #[]) ∧ Has w' bs (sumP2 br bc ((cR (m + 1) (bM M) p l (n + 1) 0 0 q : Nat) : Int)) 83 ∧ Chg (fun k => k = bs) w w' := by
  have h := walk_any (n + 1) (m + 1) q M 76 #[.pointer (some ⟨bs, 0, none⟩)] #[] (fun k => k = bs)
    (fun j wr => Has wr bs (sumP2 br bc ((totC (pl (m + 1) (bM M) (n + 1) 0 0 q) p l j : Nat) : Int)) 83 ∧ Has wr br [.int .i64 p] 3 ∧ Has wr bc [.int .i64 l] 3)
    (fun _ => true) w hn hm hq hg (fun b hb => by subst hb; exact H.lt)
    (fun j w1 w2 hc hi => ⟨Chg.has hc (by have := H.lt; omega) hi.1, Chg.has hc (by have := H1.lt; omega) hi.2.1, Chg.has hc (by have := H2.lt; omega) hi.2.2⟩)
    (fun _ _ => by kernel_rfl)
    (fun j P hj wr hi => by
      have hlt : j < (pl (m + 1) (bM M) (n + 1) 0 0 q).length := (List.getElem?_eq_some_iff.1 hj).1
      rw [pl_len] at hlt
      have hle := wR_le (m + 1) hm (bM M) (n + 1) 0 0 q
      have h7 : 7 ^ (n + 1) ≤ 7 ^ 6 := Nat.pow_le_pow_right (by omega) hn
      have htj := totC_le (pl (m + 1) (bM M) (n + 1) 0 0 q) p l j
      rw [Array.append_empty]
      refine (addP_any bs br bc p l _ (plF P (n + 1)) wr (by omega) hi.1 hi.2.1 hi.2.2 (by omega)).mono ?_
      rintro e w' ⟨rfl, hc, hh⟩
      refine ⟨rfl, ⟨?_, Chg.has hc (by omega) hi.2.1, Chg.has hc (by omega) hi.2.2⟩, hc⟩
      rw [totC_succ _ _ _ _ _ hj]
      have hpl : plF P (n + 1) p = P.getD p 0 := by unfold plF; rw [if_pos hp]
      rw [hpl] at hh
      by_cases e : P.getD p 0 = (l : Int)
      · rw [if_pos e] at hh ⊢
        exact hh
      · rw [if_neg e] at hh ⊢
        exact hh)
    ⟨H, H1, H2⟩
  refine h.mono ?_
  rintro e w' ⟨rfl, hi, hc⟩
  rw [runV_all _ (fun _ => rfl)] at hi
  refine ⟨rfl, ?_, hc⟩
  have := hi.1
  rw [totC_all] at this
  exact this

set_option maxRecDepth 100000 in
set_option maxHeartbeats 6400000 in
theorem implCwc_any (r c : Int) (xs : List Int) (i j k : Int) (w : World) (hx : xs.length ≤ 1048576) (lo : Nat) (s : Value) (hO : Own w lo s xs) :
    Calls Try.prog 36 #[.agg #[.int .i64 r, .int .i64 c, s], .int .i64 i, .int .i64 j, .int .i64 k] w fun e w' => AnsIO (cwcB r c xs i j k) w e w' := by
  have L0 := (((Law.start w).box (.int .i64 r) (.int .i64 c) s 29).has [.int .i64 i] 3).has [.int .i64 j] 3
  simp only [World.size_alloc] at L0
  obtain ⟨a, cap, rfl, hr⟩ := hO.reads
  have hr0 := L0.reads hr
  clear hO
  have HK := Lib.hid (isRookCount_any k)
  cases hg : goodB r c xs
  · rw [show cwcB r c xs i j k = ⟨0, false⟩ by unfold cwcB placeB; rw [hg]; rfl]
    go_enter Try.func36, Try.ntmps36
    go_wp2_with fail
    refine (gridOf_no r c a cap xs _ hx hr0 hg).mono ?_
    rintro e w1 ⟨rfl, hb⟩
    have HB := Lib.hid (((L0.kept hb).kept (below_new (.cells #[.int .i64 0, .int .i64 0, .int .i64 0, .int .i64 0, .int .i64 0, .int .i64 0, .int .i64 0, .int .i64 0] 59))).below)
    clear L0 hb hg hr0
    go_wp2_with fail
    go_ret2
    exact ⟨rfl, HB.out⟩
  · obtain ⟨M, hM, hc⟩ := gridOf_good r c a cap xs _ hx hr0 hg
    have HC := Lib.hid hc; clear hc
    have HI := Lib.hid (fun W => inside_any r c i j M W)
    cases hi : insB r c i j
    · rw [show cwcB r c xs i j k = ⟨0, false⟩ by unfold cwcB placeB; rw [hi, Bool.and_false]; rfl]
      rw [hi] at HI
      clear hg hr0 hM hi
      go_enter Try.func36, Try.ntmps36
      go_wp2_with fail
      refine HC.out.mono ?_
      rintro e w1 ⟨rfl, hb⟩
      have L1 := (L0.kept hb).has (gl r c M) 59
      rw [show w1.alloc (.cells (gl r c M).toArray 59) = w1.alloc (.cells #[.int .i64 r, .int .i64 c, .int .i64 (M 0), .int .i64 (M 1), .int .i64 (M 2), .int .i64 (M 3), .int .i64 (M 4), .int .i64 (M 5)] 59) from rfl] at L1
      have HL := Lib.hid L1
      clear L0 hb L1 HC
      go_upto_region 2 with fail
      generalize w1.alloc (.cells #[.int .i64 r, .int .i64 c, .int .i64 (M 0), .int .i64 (M 1), .int .i64 (M 2), .int .i64 (M 3), .int .i64 (M 4), .int .i64 (M 5)] 59) = w5 at *
      obtain ⟨bg, hbg⟩ : ∃ bg, bg = w1.heap.size := ⟨_, rfl⟩
      rw [← hbg] at HL ⊢
      clear hbg
      obtain ⟨e0, e1, e2, e3, e4, e5, e6, e7, _⟩ := HL.out.ownHas.eight
      have y1 := HL.out.tl.ownHas.cell 0
      have y2 := HL.out.tl.tl.ownHas.cell 0
      simp only [List.getElem?_cons_zero] at y1 y2
      go_wp2_with fail
      refine (HI.out _).mono ?_
      rintro e w2 ⟨rfl, hb⟩
      have L2 := HL.out.kept hb
      clear e0 e1 e2 e3 e4 e5 e6 e7 HL hb HI y1 y2
      have HB := Lib.hid L2.below
      clear L2
      go_wp2_with fail
      go_ret2
      exact ⟨rfl, HB.out⟩
    · rw [hi] at HI
      cases hk : inB 0 k 6
      · rw [show cwcB r c xs i j k = ⟨0, false⟩ by unfold cwcB; rw [hk, Bool.and_false]; rfl]
        rw [hk] at HK
        clear hg hr0 hM hi hk
        go_enter Try.func36, Try.ntmps36
        go_wp2_with fail
        refine HC.out.mono ?_
        rintro e w1 ⟨rfl, hb⟩
        have L1 := (L0.kept hb).has (gl r c M) 59
        rw [show w1.alloc (.cells (gl r c M).toArray 59) = w1.alloc (.cells #[.int .i64 r, .int .i64 c, .int .i64 (M 0), .int .i64 (M 1), .int .i64 (M 2), .int .i64 (M 3), .int .i64 (M 4), .int .i64 (M 5)] 59) from rfl] at L1
        have HL := Lib.hid L1
        clear L0 hb L1 HC
        go_upto_region 2 with fail
        generalize w1.alloc (.cells #[.int .i64 r, .int .i64 c, .int .i64 (M 0), .int .i64 (M 1), .int .i64 (M 2), .int .i64 (M 3), .int .i64 (M 4), .int .i64 (M 5)] 59) = w5 at *
        obtain ⟨bg, hbg⟩ : ∃ bg, bg = w1.heap.size := ⟨_, rfl⟩
        rw [← hbg] at HL ⊢
        clear hbg
        obtain ⟨e0, e1, e2, e3, e4, e5, e6, e7, _⟩ := HL.out.ownHas.eight
        have y1 := HL.out.tl.ownHas.cell 0
        have y2 := HL.out.tl.tl.ownHas.cell 0
        simp only [List.getElem?_cons_zero] at y1 y2
        go_wp2_with fail
        refine (HI.out _).mono ?_
        rintro e w2 ⟨rfl, hb⟩
        have L2 := HL.out.kept hb
        clear e0 e1 e2 e3 e4 e5 e6 e7 HL hb HI y1 y2
        have HB := Lib.hid L2.below
        clear L2
        go_wp2_with fail
        refine (HK.out _).mono ?_
        rintro e w' ⟨rfl, rfl⟩
        go_wp2_with fail
        go_ret2
        exact ⟨rfl, HB.out⟩
      · rw [hk] at HK
        obtain ⟨h1, h2, h3, h4⟩ := insB_iff.1 hi
        obtain ⟨g1, g2, g3, g4⟩ := good_facts hg
        have hk6 := inB_iff.1 hk
        have hgc := good_cell hg
        obtain ⟨p, rfl⟩ := Int.eq_ofNat_of_zero_le h1
        obtain ⟨l, rfl⟩ := Int.eq_ofNat_of_zero_le h3
        obtain ⟨q, rfl⟩ := Int.eq_ofNat_of_zero_le hk6.1
        have hbit : bitB xs p l = (xs.getD p 0).toNat.testBit l := by simp [bitB]
        obtain ⟨n, rfl⟩ : ∃ n : Nat, r = (n : Int) + 1 := ⟨(r - 1).toNat, by omega⟩
        obtain ⟨m, rfl⟩ : ∃ m : Nat, c = (m : Int) + 1 := ⟨(c - 1).toNat, by omega⟩
        have hBM : bM M = bt xs := by funext a b; simp only [bM, bt, hM]
        have hcount : cwcB ((n : Int) + 1) ((m : Int) + 1) xs p l q = ⟨(cR (m + 1) (bM M) p l (n + 1) 0 0 q : Nat), true⟩ := by
          have e1 : ((n : Int) + 1).toNat = n + 1 := by omega
          have e2 : ((m : Int) + 1).toNat = m + 1 := by omega
          unfold cwcB
          rw [show placeB ((n : Int) + 1) ((m : Int) + 1) xs p l = true by unfold placeB; rw [hg, hi]; rfl, hk, Bool.and_self, if_pos rfl, e1, e2, hbit, hBM]
          simp only [Int.toNat_natCast, Nat.add_sub_cancel]
          congr 1
          cases hb1 : (xs.getD p 0).toNat.testBit l
          · rw [if_pos (.inr rfl), cR_none (m + 1) (bt xs) l (by omega) p (n + 1) 0 0 q (by omega) (by rw [Nat.zero_add]; exact hb1)]
            rfl
          · rw [cR_strike m (bt xs) (bt (strikeL xs p l m)) l p (by omega) (fun a c => strike_bt xs p l m (by omega) (fun k hk => by have := g4 k hk; exact this) a c) hb1 p (n + 1) 0 0 0 q (by omega) (by omega) (by simp) (fun c => by simp)]
            by_cases hq : q = 0
            · subst hq; rw [if_pos (.inl rfl), if_pos rfl]; rfl
            · rw [if_neg (by simp; omega), if_neg hq, numL_all n m (by omega), Nat.add_sub_cancel]
        rw [hcount]
        obtain ⟨y, hy⟩ : ∃ y : Int, y = ((cR (m + 1) (bM M) p l (n + 1) 0 0 q : Nat) : Int) := ⟨_, rfl⟩
        rw [← hy]
        have HY := Lib.hid hy
        clear hy
        simp only [← hM] at hgc
        have HGC := Lib.hid hgc
        have hq6 : q ≤ 6 := by omega
        have hn6 : n + 1 ≤ 6 := by omega
        have hm6 : m + 1 ≤ 6 := by omega
        have hp6 : p < n + 1 := by omega
        clear hg hr0 hM hi hk hcount hBM hbit hgc g4
        go_enter Try.func36, Try.ntmps36
        go_wp2_with fail
        refine HC.out.mono ?_
        rintro e w1 ⟨rfl, hb⟩
        have L1 := (L0.kept hb).has (gl ((n : Int) + 1) ((m : Int) + 1) M) 59
        rw [show w1.alloc (.cells (gl ((n : Int) + 1) ((m : Int) + 1) M).toArray 59) = w1.alloc (.cells #[.int .i64 ((n : Int) + 1), .int .i64 ((m : Int) + 1), .int .i64 (M 0), .int .i64 (M 1), .int .i64 (M 2), .int .i64 (M 3), .int .i64 (M 4), .int .i64 (M 5)] 59) from rfl] at L1
        have HL := Lib.hid L1
        clear L0 hb L1 HC
        go_upto_region 2 with fail
        generalize w1.alloc (.cells #[.int .i64 ((n : Int) + 1), .int .i64 ((m : Int) + 1), .int .i64 (M 0), .int .i64 (M 1), .int .i64 (M 2), .int .i64 (M 3), .int .i64 (M 4), .int .i64 (M 5)] 59) = w5 at *
        obtain ⟨bg, hbg⟩ : ∃ bg, bg = w1.heap.size := ⟨_, rfl⟩
        rw [← hbg] at HL ⊢
        clear hbg
        obtain ⟨e0, e1, e2, e3, e4, e5, e6, e7, _⟩ := HL.out.ownHas.eight
        have y1 := HL.out.tl.ownHas.cell 0
        have y2 := HL.out.tl.tl.ownHas.cell 0
        simp only [List.getElem?_cons_zero] at y1 y2
        go_wp2_with fail
        refine (HI.out _).mono ?_
        rintro e w2 ⟨rfl, hb⟩
        have L2 := HL.out.kept hb
        clear e0 e1 e2 e3 e4 e5 e6 e7 HL hb HI y1 y2
        have HL2 := Lib.hid L2
        clear L2
        go_wp2_with fail
        refine (HK.out _).mono ?_
        rintro e w' ⟨rfl, rfl⟩
        have hz2 : w.heap.size + 1 + 1 < w2.heap.size := HL2.out.tl.ownHas.lt
        have L3 := HL2.out.has (sumP2 (w.heap.size + 1) (w.heap.size + 1 + 1) 0) 83
        rw [show w2.alloc (.cells (sumP2 (w.heap.size + 1) (w.heap.size + 1 + 1) 0).toArray 83) = w2.alloc (.cells #[.func (.func 75) #[] #[.pointer (some ⟨w.heap.size + 1, 0, none⟩), .pointer (some ⟨w.heap.size + 1 + 1, 0, none⟩)], .int .i64 0] 83) from rfl] at L3
        have HL3 := Lib.hid L3
        clear L3 HL2 HK
        go_upto_region 5 with fail
        generalize w2.alloc (.cells #[.func (.func 75) #[] #[.pointer (some ⟨w.heap.size + 1, 0, none⟩), .pointer (some ⟨w.heap.size + 1 + 1, 0, none⟩)], .int .i64 0] 83) = w6 at *
        obtain ⟨bs, hbs⟩ : ∃ bs, bs = w2.heap.size := ⟨_, rfl⟩
        rw [← hbs] at HL3 hz2 ⊢
        clear hbs
        have hw := (cwcWalk_any (w.heap.size + 1) (w.heap.size + 1 + 1) bs n m p l q M w6 hn6 hm6 hq6 hp6 (fun k _ => HGC.out k) (by omega) (by omega) HL3.out.ownHas HL3.out.tl.tl.tl.ownHas HL3.out.tl.tl.ownHas)
        rw [← HY.out] at hw
        have HW := Lib.hid hw
        clear hw
        obtain ⟨e0, e1, e2, e3, e4, e5, e6, e7, _⟩ := HL3.out.tl.ownHas.eight
        clear HGC HY
        go_wp2_with fail
        refine HW.out.mono ?_
        rintro e w7 ⟨rfl, hH, hC⟩
        have L4 := Law.write (ts := []) HL3.out (by exact hC) (tHas bs (sumP2 (w.heap.size + 1) (w.heap.size + 1 + 1) y) 83) rfl hH
        have HB := Lib.hid L4.below
        obtain ⟨f0, f1, _⟩ := hH.two
        clear e0 e1 e2 e3 e4 e5 e6 e7 HL3 HW hC L4 hH
        go_wp2_with fail
        go_ret2
        exact ⟨rfl, HB.out⟩
end Go.Proofs.Ytdimbnkgomfojaa
