/- How many rows a permutation hits: both texts. No condition but the sizes. -/
import Derived.Test.YtjmefcebldifaabIm
namespace Go.Proofs.Ytjmefcebldifaab
open Go.RowKit Go.WideShapes

def hitsB (r c : Int) (xs P : List Int) : R1 := if sqB r c xs && ordOk P r then ⟨(hitN (bt xs) P r.toNat : Nat), true⟩ else ⟨0, false⟩
theorem ord_facts {P : List Int} {n : Nat} (h : ordOk P n = true) : P.length = n ∧ ∀ k, k < n → 0 ≤ P.getD k 0 ∧ P.getD k 0 < n := by
  unfold ordOk at h
  rw [Bool.and_eq_true, decide_eq_true_eq, Bool.and_eq_true] at h
  have hl : P.length = n := by omega
  refine ⟨hl, fun k hk => ?_⟩
  have := List.all_eq_true.1 h.2.1 (P[k]'(by omega)) (List.getElem_mem _)
  rw [decide_eq_true_eq] at this
  simp only [List.getD, List.getElem?_eq_getElem (show k < P.length by omega), Option.getD_some]
  omega
theorem ord_short {P : List Int} {n : Int} (h : (P.length : Int) ≠ n) : ordOk P n = false := by
  unfold ordOk
  rw [decide_eq_false h]
  rfl

set_option maxRecDepth 100000 in
set_option maxHeartbeats 3200000 in
theorem specHitsOf_any (r c : Int) (xs P : List Int) (w : World) (hx : xs.length ≤ 1048576) (hp : P.length ≤ 1048576) (lo : Nat) (s : Value) (lo2 : Nat) (s2 : Value) (hO : Own w lo s xs) (hO2 : Own w lo2 s2 P) :
    Calls Try.prog 14 #[.agg #[.int .i64 r, .int .i64 c, s], s2] w fun e w' => AnsIO (hitsB r c xs P) w e w' := by
  have L0 := (Law.start w).box (.int .i64 r) (.int .i64 c) s 28
  have HO := Lib.hid hO
  have HP := Lib.hid hO2
  obtain ⟨a, cap, rfl, hr⟩ := hO.reads
  obtain ⟨a2, p2, rfl, hr2⟩ := hO2.reads
  have hr0 := L0.reads hr
  have HR2 := Lib.hid hr2
  clear hO hO2
  cases hs : sqB r c xs
  · rw [show hitsB r c xs P = ⟨0, false⟩ by simp [hitsB, hs]]
    have HC := Lib.hid (at_boolB (hiGood_any r c xs _ hx a cap hr0) hs)
    clear hs hr0 hr2
    go_enter Try.func14, Try.ntmps14
    go_wp2_with fail
    refine HC.out.mono ?_
    rintro e w1 ⟨rfl, hb⟩
    have HB := Lib.hid (L0.kept hb).below
    clear L0 hb
    go_wp2_with fail
    go_ret2
    exact ⟨rfl, HB.out⟩
  · obtain ⟨hg, he⟩ := sq_facts hs
    obtain ⟨g1, g2, g3, _⟩ := good_facts hg
    subst he
    obtain ⟨n, rfl⟩ := Int.eq_ofNat_of_zero_le (show 0 ≤ r by omega)
    have HC := Lib.hid (at_boolB (hiGood_any n n xs _ hx a cap hr0) hs)
    have HL := Lib.hid L0
    by_cases hlen : (P.length : Int) = n
    · have hne : ((P.length : Int) != n) = false := by simp [hlen]
      have hbo := fun (W : World) (h : Own W lo2 (.slice a2 P.length p2) P) => boOrder_any P n W hp g1 lo2 _ h
      cases ho : ordOk P n
      · rw [show hitsB n n xs P = ⟨0, false⟩ by simp [hitsB, ho]]
        have HBO := Lib.hid (fun W h => at_boolV (hbo W h) ho)
        clear hs hr0 hr2 hg g1 g2 g3 L0 hlen ho hbo
        go_enter Try.func14, Try.ntmps14
        go_wp2_with fail
        refine HC.out.mono ?_
        rintro e w1 ⟨rfl, hb⟩
        have L1 := HL.out.kept hb
        have ⟨_, k0, k1, k2, _⟩ := L1.ownBox
        have HPk := Lib.hid (HP.out.kept L1.below)
        have HB := Lib.hid L1.below
        clear HL hb L1
        go_wp2_with fail
        refine (HBO.out _ HPk.out).mono ?_
        rintro e w2 ⟨rfl, hw⟩
        subst hw
        go_wp2_with fail
        go_ret2
        exact ⟨rfl, HB.out⟩
      · rw [show hitsB n n xs P = ⟨(hitN (bt xs) P n : Nat), true⟩ by simp [hitsB, hs, ho]]
        obtain ⟨hl, hc⟩ := ord_facts ho
        have HBO := Lib.hid (fun W h => at_boolV (hbo W h) ho)
        have HH := Lib.hid (fun (W : World) (ho : Own W lo (.slice a xs.length cap) xs) (hr : Reads W a2 n P) => hiHits_any n n n xs P W hx (by omega) (by omega) (good_cell hg) (fun j hj => by have := hc j hj; omega) lo _ ho a2 p2 hr)
        have HLN := Lib.hid hl
        clear hs hr0 hr2 hg g1 g2 g3 L0 hlen ho hbo hc
        go_enter Try.func14, Try.ntmps14
        go_wp2_with fail
        refine HC.out.mono ?_
        rintro e w1 ⟨rfl, hb⟩
        have L1 := HL.out.kept hb
        have ⟨_, k0, k1, k2, _⟩ := L1.ownBox
        have HPk := Lib.hid (HP.out.kept L1.below)
        have HOk := Lib.hid (HO.out.kept L1.below)
        have hrd := L1.reads HR2.out
        rw [HLN.out] at hrd
        have HRD := Lib.hid hrd
        have HL1 := Lib.hid L1
        clear HL hb L1 hrd hl
        go_wp2_with fail
        refine (HBO.out _ HPk.out).mono ?_
        rintro e w2 ⟨rfl, hw⟩
        subst hw
        rw [HLN.out]
        go_wp2_with fail
        refine (HH.out _ HOk.out HRD.out).mono ?_
        rintro e w2 ⟨rfl, hb⟩
        have HB := Lib.hid (HL1.out.kept hb).below
        clear HL1 hb k0 k1 k2
        go_wp2_with fail
        go_ret2
        exact ⟨rfl, HB.out⟩
    · rw [show hitsB n n xs P = ⟨0, false⟩ by simp [hitsB, ord_short hlen]]
      have hne : ((P.length : Int) != n) = true := by simp [hlen]
      clear hs hr0 hr2 hg g1 g2 g3 L0 hlen
      go_enter Try.func14, Try.ntmps14
      go_wp2_with fail
      refine HC.out.mono ?_
      rintro e w1 ⟨rfl, hb⟩
      have L1 := HL.out.kept hb
      have ⟨_, k0, k1, k2, _⟩ := L1.ownBox
      have HB := Lib.hid L1.below
      clear HL hb L1
      go_wp2_with fail
      go_ret2
      exact ⟨rfl, HB.out⟩

theorem pl6_splice (P : List Int) (h : P.length ≤ 6) : splice (pl6 fun _ => 0) 0 (P.map (Value.int .i64)) = pl6 (fun k => P.getD k 0) := by
  rcases P with _ | ⟨a, _ | ⟨b, _ | ⟨c, _ | ⟨d, _ | ⟨e, _ | ⟨f, _ | ⟨g, P⟩⟩⟩⟩⟩⟩⟩ <;> first | rfl | (simp at h; done) | (simp at h; omega)

set_option maxRecDepth 100000 in
set_option maxHeartbeats 6400000 in
theorem implHitsOf_any (r c : Int) (xs P : List Int) (w : World) (hx : xs.length ≤ 1048576) (hp : P.length ≤ 1048576) (lo : Nat) (s : Value) (lo2 : Nat) (s2 : Value) (hO : Own w lo s xs) (hO2 : Own w lo2 s2 P) :
    Calls Try.prog 17 #[.agg #[.int .i64 r, .int .i64 c, s], s2] w fun e w' => AnsIO (hitsB r c xs P) w e w' := by
  have L0 := (Law.start w).box (.int .i64 r) (.int .i64 c) s 28
  have HP := Lib.hid hO2
  obtain ⟨a, cap, rfl, hr⟩ := hO.reads
  obtain ⟨a2, p2, rfl, hr2⟩ := hO2.reads
  have hr0 := L0.reads hr
  have HR2 := Lib.hid hr2
  clear hO hO2
  obtain ⟨R1, C1, M, hM, hc⟩ := squareOf_any r c a cap xs _ hx hr0
  cases hs : sqB r c xs
  · rw [show hitsB r c xs P = ⟨0, false⟩ by simp [hitsB, hs]]
    rw [hs] at hc
    have HC := Lib.hid hc
    clear hs hr0 hM hc hr2
    go_enter Try.func17, Try.ntmps17
    go_wp2_with fail
    refine HC.out.mono ?_
    rintro e w1 ⟨rfl, hb⟩
    have HB := Lib.hid ((L0.kept hb).kept (below_new (.cells #[.int .i64 R1, .int .i64 C1, .int .i64 (M 0), .int .i64 (M 1), .int .i64 (M 2), .int .i64 (M 3), .int .i64 (M 4), .int .i64 (M 5)] 56))).below
    clear L0 hb
    go_wp2_with fail
    go_ret2
    exact ⟨rfl, HB.out⟩
  · rw [hs] at hc
    obtain ⟨rfl, rfl, hMM⟩ := hM hs
    clear hM
    obtain ⟨hg, he⟩ := sq_facts hs
    obtain ⟨g1, g2, g3, _⟩ := good_facts hg
    subst he
    obtain ⟨n, rfl⟩ := Int.eq_ofNat_of_zero_le (show 0 ≤ R1 by omega)
    have hgc : ∀ k, 0 ≤ M k ∧ M k < 64 := fun k => by rw [hMM k]; exact good_cell hg k
    have hBM : bN M = bt xs := by funext a b; simp only [bN, bt, hMM]
    have hee := fun (W : World) (h : Own W lo2 (.slice a2 P.length p2) P) => hasEach_any P n W hp (by omega) lo2 _ h
    have HC := Lib.hid hc
    have HL := Lib.hid L0
    cases ho : ordOk P n
    · rw [show hitsB n n xs P = ⟨0, false⟩ by simp [hitsB, ho]]
      have HE := Lib.hid (fun W h => at_boolB (hee W h) ho)
      clear hs hr0 hMM hc hg g1 g2 g3 hgc hBM hee ho L0 hr2
      go_enter Try.func17, Try.ntmps17
      go_wp2_with fail
      refine HC.out.mono ?_
      rintro e w1 ⟨rfl, hb⟩
      have L1 := (HL.out.kept hb).has (gl n n M) 56
      rw [show w1.alloc (.cells (gl n n M).toArray 56) = w1.alloc (.cells #[.int .i64 n, .int .i64 n, .int .i64 (M 0), .int .i64 (M 1), .int .i64 (M 2), .int .i64 (M 3), .int .i64 (M 4), .int .i64 (M 5)] 56) from rfl] at L1
      have HL1 := Lib.hid L1
      clear L1 hb HL HC
      go_upto_region 2 with fail
      generalize w1.alloc (.cells #[.int .i64 n, .int .i64 n, .int .i64 (M 0), .int .i64 (M 1), .int .i64 (M 2), .int .i64 (M 3), .int .i64 (M 4), .int .i64 (M 5)] 56) = w5 at *
      have ⟨e0, e1, e2, e3, e4, e5, e6, e7, _⟩ := HL1.out.ownHas.eight
      go_wp2_with fail
      refine (HE.out _ (HP.out.kept HL1.out.below)).mono ?_
      rintro e w6 ⟨rfl, hb⟩
      have HB := Lib.hid (HL1.out.kept hb).below
      clear HL1 hb e0 e1 e2 e3 e4 e5 e6 e7
      go_wp2_with fail
      go_ret2
      exact ⟨rfl, HB.out⟩
    · rw [show hitsB n n xs P = ⟨(hitN (bt xs) P n : Nat), true⟩ by simp [hitsB, hs, ho]]
      obtain ⟨hl, hcel⟩ := ord_facts ho
      have HE := Lib.hid (fun W h => at_boolB (hee W h) ho)
      have hh := fun W => hitsOf_any n n M (fun k => P.getD k 0) P W (by omega) (fun r _ => hgc r) (fun r hr => ⟨rfl, by have := hcel r hr; omega⟩)
      rw [hBM] at hh
      have HH := Lib.hid hh
      have hsp := pl6_splice P (by omega)
      obtain ⟨F, hF⟩ : ∃ F : Nat → Int, F = fun k => P.getD k 0 := ⟨_, rfl⟩
      rw [← hF] at HH hsp
      have HSP := Lib.hid hsp
      have HLN := Lib.hid hl
      have HN6 := Lib.hid (show n ≤ 6 by omega)
      rw [hl] at hr2 HE HP ⊢
      have HR3 := Lib.hid hr2
      clear hs hr0 hMM hc hg g1 g2 g3 hgc hBM hee ho L0 hh hsp hF hl hcel HR2 hr2
      go_enter Try.func17, Try.ntmps17
      go_wp2_with fail
      refine HC.out.mono ?_
      rintro e w1 ⟨rfl, hb⟩
      have L1 := (HL.out.kept hb).has (gl n n M) 56
      rw [show w1.alloc (.cells (gl n n M).toArray 56) = w1.alloc (.cells #[.int .i64 n, .int .i64 n, .int .i64 (M 0), .int .i64 (M 1), .int .i64 (M 2), .int .i64 (M 3), .int .i64 (M 4), .int .i64 (M 5)] 56) from rfl] at L1
      have HL1 := Lib.hid L1
      clear L1 hb HL HC
      go_upto_region 2 with fail
      generalize w1.alloc (.cells #[.int .i64 n, .int .i64 n, .int .i64 (M 0), .int .i64 (M 1), .int .i64 (M 2), .int .i64 (M 3), .int .i64 (M 4), .int .i64 (M 5)] 56) = w5 at *
      have ⟨e0, e1, e2, e3, e4, e5, e6, e7, _⟩ := HL1.out.ownHas.eight
      go_wp2_with fail
      refine (HE.out _ (HP.out.kept HL1.out.below)).mono ?_
      rintro e w6 ⟨rfl, hb⟩
      have HZ6 := Lib.hid (Nat.lt_of_lt_of_le HL1.out.ownHas.lt hb.size)
      have HZ0 := Lib.hid (HL1.out.kept hb).below.size
      have L2 := (HL1.out.kept hb).has (pl6 fun _ => 0) 59
      rw [show w6.alloc (.cells (pl6 fun _ => 0).toArray 59) = w6.alloc (.cells #[.int .i64 0, .int .i64 0, .int .i64 0, .int .i64 0, .int .i64 0, .int .i64 0] 59) from rfl] at L2
      have HL2 := Lib.hid L2
      clear HL1 hb e0 e1 e2 e3 e4 e5 e6 e7 L2
      go_upto_region 5 with fail
      generalize w6.alloc (.cells #[.int .i64 0, .int .i64 0, .int .i64 0, .int .i64 0, .int .i64 0, .int .i64 0] 59) = w7 at *
      have hz6 : w1.heap.size < w6.heap.size := by
        have h1 := HL2.out.tl.ownHas.lt
        have h2 := HL2.out.ownHas.lt
        exact HZ6.out
      have hrd := HL2.out.reads HR3.out
      have hcp : 0 < (P.map (Value.int .i64)).length → (some (⟨w6.heap.size, 0, none⟩ : Addr)) = some ⟨w6.heap.size, 0, none⟩ ∧ ∃ ad, a2 = some ad ∧ ∀ j v, (P.map (Value.int .i64))[j]? = some v → w7.cell? (ad.add j) = some v := by
        intro h0
        obtain ⟨b, off, rfl, hlt, hcc⟩ := reads_row hrd (by have := HLN.out; simp at h0; omega)
        refine ⟨rfl, _, rfl, fun j v hj => ?_⟩
        obtain ⟨hx1, rfl⟩ := List.getElem?_eq_some_iff.1 hj
        simp only [List.length_map] at hx1
        rw [add_plain]
        have := hcc j (by have := HLN.out; omega)
        simp only [List.getElem_map]
        simpa [List.getD, hx1] using this
      have HCP := Lib.hid hcp
      have HM := Lib.hid (show (P.map (Value.int .i64)).length = Nat.min n 6 by rw [List.length_map, HLN.out]; exact (Nat.min_eq_left HN6.out).symm)
      have HF0 := Lib.hid (show 0 + (P.map (Value.int .i64)).length ≤ (pl6 fun _ => 0).length by rw [List.length_map, HLN.out]; simp [pl6]; exact HN6.out)
      have G1 := Lib.hid (show w7.heap[w6.heap.size]? = some (.cells (pl6 fun _ => 0).toArray 59 (0, 0)) from HL2.out.ownHas)
      clear hcp hrd
      go_wp2_with (with_reducible refine wpList_copy_splice rfl (.tmp 23) (.tmp 24) 22 22 rfl 3 Try.underlying22 (by kernel_rfl) _ _ 6 6 n p2 rfl rfl w6.heap.size 0 _ 59 G1.out _ HM.out HCP.out HF0.out (ints_oneCell _ _) w6.heap.size _ (Below.refl _ _) (Nat.le_refl _) ?_)
      intro w8 hg8 hb8
      have h8 : Has w8 w6.heap.size _ 59 := hg8.out
      rw [HSP.out] at h8
      have g8 : Has w8 w1.heap.size (gl n n M) 56 := (hb8.block _ hz6).trans HL2.out.tl.ownHas
      have ⟨e0, e1, e2, e3, e4, e5, e6, e7, _⟩ := g8.eight
      have ⟨f0, f1, f2, f3, f4, f5, _⟩ := h8.six
      have HB := Lib.hid (HL2.out.below.trans (hb8.mono HZ0.out))
      clear hg8 hb8 h8 g8 HL2
      go_wp2_with fail
      refine (HH.out _).mono ?_
      rintro e w9 ⟨rfl, hb⟩
      have HB2 := Lib.hid (below_on HB.out hb)
      clear hb HB e0 e1 e2 e3 e4 e5 e6 e7 f0 f1 f2 f3 f4 f5
      go_wp2_with fail
      go_ret2
      exact ⟨rfl, HB2.out⟩
end Go.Proofs.Ytjmefcebldifaab
