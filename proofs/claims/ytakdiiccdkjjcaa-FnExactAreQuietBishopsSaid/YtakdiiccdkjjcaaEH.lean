/- Cells on which pieces are quiet, in the specification. No condition but the sizes. -/
import Derived.Test.YtakdiiccdkjjcaaEG
import Derived.Test.YtakdiiccdkjjcaaMg
namespace Go.Proofs.Ytakdiiccdkjjcaa
open Go.RowKit Go.WideShapes

theorem row_at {W : World} {lo gv cv : Nat} {vs : List Value} {cs : List (List Int)} (h : OwnM W lo (.slice (some ⟨gv, 0, none⟩) cs.length cv) vs cs) (k : Nat) (hk : k < cs.length) : ∃ ax px, W.cell? ⟨gv, k, none⟩ = some (.slice ax cs[k].length px) := by
  have hl := h.len
  have hkv : k < vs.length := by omega
  have hc := (show OwnM W lo (.slice (some ⟨gv, 0, none⟩) vs.length cv) vs cs by rw [← hl]; exact h).cell k hkv
  obtain ⟨ax, px, hv, _⟩ := (h.row k hkv).reads
  exact ⟨ax, px, by rw [hc, hv]⟩
theorem cellOk_two {n m : Nat} {P : Nat → Nat → Bool} {x : List Int} (h : cellOk n m P x = true) : ∃ i j : Nat, x = [(i : Int), (j : Int)] ∧ i < n ∧ j < m ∧ P i j = true := by
  unfold cellOk at h
  simp only [Bool.and_eq_true, decide_eq_true_eq] at h
  obtain ⟨h1, h2, h3⟩ := h
  match x, h1 with
  | [i, j], _ =>
    obtain ⟨i1, i2, i3, i4⟩ := insB_iff.1 (show insB n m i j = true from h2)
    obtain ⟨q, rfl⟩ := Int.eq_ofNat_of_zero_le i1
    obtain ⟨l, rfl⟩ := Int.eq_ofNat_of_zero_le i3
    exact ⟨q, l, rfl, by omega, by omega, h3⟩

theorem all_stop (D : Int → Int → Bool) (rss : List (List Int)) (k j : Nat) (hj : j < k) (hk : j < rss.length) (x : List Int) (h : farB D x rss[j] = false) : (rss.take k).all (fun y => farB D x y) = false := by
  rw [List.all_eq_false]
  exact ⟨rss[j], List.mem_take_iff_getElem.2 ⟨j, by omega, rfl⟩, by rw [h]; decide⟩
theorem all_done (D : Int → Int → Bool) (rss : List (List Int)) (k : Nat) (x : List Int) (h : ∀ u (hu : u < rss.length), u < k → farB D x rss[u] = true) : (rss.take k).all (fun y => farB D x y) = true := by
  rw [List.all_eq_true]
  intro y hy
  obtain ⟨i, hi, rfl⟩ := List.mem_take_iff_getElem.1 hy
  exact h i (by omega) (by omega)
set_option maxRecDepth 100000 in
set_option maxHeartbeats 12800000 in
theorem biQuiet_any (kd : Int) (D : Int → Int → Bool)
    (hDI : ∀ (g1 c1 g2 c2 : Nat) (x0 x1 y0 y1 : Int) (w : World), ((0 ≤ x0 ∧ x0 < 6) ∧ (0 ≤ x1 ∧ x1 < 6)) → ((0 ≤ y0 ∧ y0 < 6) ∧ (0 ≤ y1 ∧ y1 < 6)) →
      w.cell? ⟨g1, 0, none⟩ = some (.int .i64 x0) → w.cell? ⟨g1, 1, none⟩ = some (.int .i64 x1) → w.cell? ⟨g2, 0, none⟩ = some (.int .i64 y0) → w.cell? ⟨g2, 1, none⟩ = some (.int .i64 y1) →
      Calls Try.prog 115 #[.slice (some ⟨g1, 0, none⟩) 2 c1, .slice (some ⟨g2, 0, none⟩) 2 c2, .int .i64 kd] w fun e w' => e = .returned (.bool (D (x0 - y0) (x1 - y1))) ∧ ∃ n, w' = w.drewN n)
    (n m : Nat) (xs : List Int) (rss : List (List Int)) (w : World) (hg : goodB n m xs = true) (hx : xs.length ≤ 1048576) (hl : rss.length ≤ 1048576) (lo1 : Nat) (s1 : Value) (hO1 : Own w lo1 s1 xs) (lo2 : Nat) (s2 : Value) (vs : List Value) (hO2 : OwnM w lo2 s2 vs rss) :
    Calls Try.prog 73 #[.agg #[.int .i64 n, .int .i64 m, s1], s2, .int .i64 kd] w fun e w' => e = .returned (.bool (decide (rss.length ≤ 36) && specQ D n m (bt xs) [] rss)) ∧ Below w.heap.size w w' := by
  obtain ⟨g1, g2, g3, g4⟩ := good_facts hg
  have hpw := (pw_bd (c := (m : Int)) (by omega)).2.1
  have hgc : ∀ k, k < xs.length → 0 ≤ xs.getD k 0 ∧ xs.getD k 0 < 64 := fun k hk => ⟨(g4 k hk).1, by have := (g4 k hk).2; omega⟩
  have L0 := (Law.start w).box (.int .i64 n) (.int .i64 m) s1 28
  obtain ⟨a1, cap1, rfl, _⟩ := hO1.reads
  obtain ⟨a2, cap2, rfl⟩ := hO2.formR
  have HL := Lib.hid L0
  have HO1 := Lib.hid hO1
  have HO2 := Lib.hid hO2
  have HF := Lib.hid (show ∀ k, k < rss.length → ∃ gv, a2 = some ⟨gv, 0, none⟩ ∧ rss.length ≤ cap2 ∧ cap2 ≤ maxLen by
    intro k hk
    rcases hO2.cases with ⟨h1, h2⟩ | ⟨g, cap, h1, _, _, h3, h4⟩
    · have e := hO2.len
      rw [h2, List.length_nil] at e
      omega
    · injection h1 with q1 q2 q3
      subst q3
      exact ⟨g, q1, by have := hO2.len; omega, h4⟩)
  have HDI := Lib.hid hDI
  by_cases h36 : rss.length ≤ 36
  · obtain ⟨y, hy⟩ : ∃ y, y = specQ D n m (bt xs) [] rss := ⟨_, rfl⟩
    rw [← hy, decide_eq_true h36, Bool.true_and]
    have HY := Lib.hid hy
    have HGC := Lib.hid hgc
    have HGD := Lib.hid hg
    have HXL := Lib.hid (show xs.length = n by omega)
    have HNM := Lib.hid (show n ≤ 6 ∧ m ≤ 6 by omega)
    have HX := Lib.hid hx
    clear L0 hO1 hO2 hDI hy hgc hg g1 g2 g3 g4 hpw hx hl
    go_enter Try.func73, Try.ntmps73
    go_upto_region 1 with fail
    generalize w.alloc _ = w1 at *
    go_wp2_with fail
    go_loopw [16] (fun iv wr => ∃ k : Nat, k ≤ rss.length ∧ iv = .int .i64 k ∧ Hid (specQ D n m (bt xs) (rss.take k) (rss.drop k) = y) ∧ Hid (∀ q (hq : q < rss.length), q < k → cellOk n m (bt xs) rss[q] = true) ∧ Hid (Law w [tBox w.heap.size (.int .i64 n) (.int .i64 m) (.slice a1 xs.length cap1)] wr)) (fun iv _ => rss.length - (intOf iv).toNat)
    case atStart => exact ⟨0, Nat.zero_le _, rfl, Lib.hid (by rw [List.take_zero, List.drop_zero]; exact HY.out.symm), Lib.hid (fun q _ h => absurd h (Nat.not_lt_zero q)), HL⟩
    case round =>
      clear HL HY
      obtain ⟨k, hk, rfl, HG, HC, HL⟩ := hrel
      by_cases hlt : k < rss.length
      · obtain ⟨gv, rfl, hc1, hc2⟩ := HF.out k hlt
        have hst := specQ_take D n m (bt xs) rss k hlt
        rw [HG.out] at hst
        have HOW := Lib.hid (HO1.out.kept HL.out.below)
        have HB := Lib.hid HL.out.below
        have hOM := ownM_kept HO2.out HL.out.below
        obtain ⟨ax, px, c1⟩ := row_at hOM k hlt
        have ⟨_, b0, b1, b2, _⟩ := HL.out.ownBox
        have f0 := cell_regrown b0
        have f1 := cell_regrown b1
        have f2 := cell_regrown b2
        by_cases hx2 : (rss[k]).length = 2
        · obtain ⟨i, j, hij⟩ : ∃ i j, rss[k] = [i, j] := by
            match h : rss[k], hx2 with
            | [i, j], _ => exact ⟨i, j, rfl⟩
          obtain ⟨gv', cv', gx, cx, hv1, hvx⟩ := two_form hOM k hlt i j hij
          have q1 := two_at hOM hlt hij hvx
          obtain ⟨c2, p0, p1⟩ := q1
          clear c1 hv1 b0 b1 b2
          have f8 := cell_regrown p0
          have f9 := cell_regrown p1
          cases hi : insB n m i j
          · have hy0 : y = false := by rw [hst]; unfold cellOk; rw [hij]; simp [hi]
            subst hy0
            have HI := Lib.hid (fun d os => Calls.regrown_of (w := wr) (d := d) (os := os) (at_boolB (boPlace_any n m xs i j _ HX.out lo1 _ (HOW.out.kept (below_regrown wr d os))) (show placeB n m xs i j = false by simp [placeB, hi])))
            clear hst hi HL p0 p1 hOM hij hx2 hvx
            go_wp2_with fail
            refine wp_region_quiet_below (by kernel_rfl) (by kernel_rfl) ?_
            repeat (go_big_quiet_step ((go_at_call 54; with_reducible exact HI.out _ _)))
            refine wpQuiet_nil ?_
            intro _ hw'
            obtain ⟨⟨dq, osq⟩, hw''⟩ := hw'
            subst hw''
            have HB2 := Lib.hid (below_on (w0 := w) HB.out (below_regrown wr dq osq))
            clear f0 f1 f2 f8 f9 c2
            go_wp2_with fail
            go_ret
            exact ⟨rfl, HB2.out⟩
          · obtain ⟨i1, i2, i3, i4⟩ := insB_iff.1 hi
            obtain ⟨q, rfl⟩ := Int.eq_ofNat_of_zero_le i1
            obtain ⟨l, rfl⟩ := Int.eq_ofNat_of_zero_le i3
            have HI := Lib.hid (fun d os => Calls.regrown_of (w := wr) (d := d) (os := os) (at_boolB (boPlace_any n m xs q l _ HX.out lo1 _ (HOW.out.kept (below_regrown wr d os))) (show placeB n m xs q l = true by simp [placeB, HGD.out, hi])))
            have hq6 : q < 6 ∧ l < 6 := by have := HNM.out; omega
            have hqx : q < xs.length := by have := HXL.out; omega
            cases hp : bt xs q l
            · have hy0 : y = false := by rw [hst]; unfold cellOk; rw [hij]; simp [hp]
              subst hy0
              have HA := Lib.hid (fun d os => Calls.regrown_of (w := wr) (d := d) (os := os) (at_boolB (boHas_any n m xs q l _ hqx HX.out hq6.2 (HGC.out q hqx) lo1 _ (HOW.out.kept (below_regrown wr d os))) (show (xs.getD q 0).toNat.testBit l = false from hp)))
              clear hst hi HL p0 p1 hOM hij hx2 hvx hp
              go_wp2_with fail
              refine wp_region_quiet_below (by kernel_rfl) (by kernel_rfl) ?_
              repeat (go_big_quiet_step (first | (go_at_call 54; with_reducible exact HI.out _ _) | (go_at_call 111; with_reducible exact HA.out _ _)))
              refine wpQuiet_nil ?_
              intro _ hw'
              obtain ⟨⟨dq, osq⟩, hw''⟩ := hw'
              subst hw''
              have HB2 := Lib.hid (below_on (w0 := w) HB.out (below_regrown wr dq osq))
              clear f0 f1 f2 f8 f9 c2
              go_wp2_with fail
              go_ret
              exact ⟨rfl, HB2.out⟩
            · have hck : cellOk n m (bt xs) rss[k] = true := by unfold cellOk; rw [hij]; simp [hi, hp]
              rw [hck, Bool.true_and, hij] at hst
              have HST := Lib.hid hst
              have HCK := Lib.hid hck
              have HIJ := Lib.hid hij
              have HVX := Lib.hid hvx
              have HA := Lib.hid (fun d os => Calls.regrown_of (w := wr) (d := d) (os := os) (at_boolB (boHas_any n m xs q l _ hqx HX.out hq6.2 (HGC.out q hqx) lo1 _ (HOW.out.kept (below_regrown wr d os))) (show (xs.getD q 0).toNat.testBit l = true from hp)))
              clear hst hck hi p0 p1 hOM hij hx2 hvx hp HG
              go_wp2_with fail
              refine wp_region_quiet_below (by kernel_rfl) (by kernel_rfl) ?_
              repeat (go_big_quiet_step (first | (go_at_call 54; with_reducible exact HI.out _ _) | (go_at_call 111; with_reducible exact HA.out _ _)))
              refine wpQuiet_nil ?_
              intro _ hw'
              obtain ⟨⟨dq, osq⟩, hw''⟩ := hw'
              subst hw''
              replace HL := Lib.hid (HL.out.kept (below_regrown wr dq osq))
              generalize Sort.grow (redrawn wr dq) osq = w6 at *
              clear f0 f1 f2 f8 f9 c2 HI HA HB HOW
              have hkc : (k : Int) ≤ (cap2 : Int) := by omega
              go_wp2_with fail
              go_loopw [50] (fun jv ws => ∃ j : Nat, j ≤ k ∧ jv = .int .i64 j ∧ Hid (∀ u (hu : u < rss.length), u < j → farB D [(q : Int), (l : Int)] rss[u] = true) ∧ Hid (Law w [tBox w.heap.size (.int .i64 n) (.int .i64 m) (.slice a1 xs.length cap1)] ws)) (fun jv _ => k - (intOf jv).toNat)
              case atStart => exact ⟨0, Nat.zero_le _, rfl, Lib.hid (fun u _ h => absurd h (Nat.not_lt_zero u)), HL⟩
              case round =>
                clear HL
                obtain ⟨j, hj, rfl, HFA, HL⟩ := hrel
                by_cases hjk : j < k
                · have hju : j < rss.length := by omega
                  obtain ⟨a', b', hab, ha, hb, _⟩ := cellOk_two (HC.out j hju hjk)
                  have hOM := ownM_kept HO2.out HL.out.below
                  obtain ⟨gv', cv', gy, cy, _, hvy⟩ := two_form hOM j hju a' b' hab
                  obtain ⟨d2, d0, d1⟩ := two_at hOM hju hab hvy
                  obtain ⟨_, p0, p1⟩ := two_at hOM hlt HIJ.out HVX.out
                  have hnm := HNM.out
                  have HD := Lib.hid (HDI.out gx cx gy cy q l a' b' wr ⟨⟨by omega, by omega⟩, ⟨by omega, by omega⟩⟩ ⟨⟨by omega, by omega⟩, ⟨by omega, by omega⟩⟩ p0 p1 d0 d1)
                  have hfb : farB D [(q : Int), (l : Int)] rss[j] = !D ((q : Int) - a') ((l : Int) - b') := by rw [hab]; rfl
                  clear hOM hvy hab p0 p1 d0 d1 ha hb
                  cases hd : D ((q : Int) - a') ((l : Int) - b')
                  · rw [hd] at HD hfb
                    have HFN := Lib.hid (show ∀ u (hu : u < rss.length), u < j + 1 → farB D [(q : Int), (l : Int)] rss[u] = true from fun u hu h => by
                      by_cases e : u < j
                      · exact HFA.out u hu e
                      · have e2 : u = j := by omega
                        subst e2
                        exact hfb)
                    clear hd hfb HFA
                    go_wp2_with fail
                    refine HD.out.mono ?_
                    rintro e w7 ⟨rfl, nd, hw⟩
                    subst hw
                    have HLN := Lib.hid (HL.out.kept (below_drewN (Below.refl _ _) nd))
                    generalize wr.drewN nd = w7 at *
                    clear HD d2 HL
                    go_wp2_with fail
                    go_roundw
                    case rel => exact ⟨j + 1, by omega, by go_num, HFN, HLN⟩
                    case measure => simp [intOf]; omega
                  · rw [hd] at HD hfb
                    have hy0 : y = false := by rw [HST.out, all_stop D rss k j hjk hju _ hfb]; rfl
                    subst hy0
                    clear hd hfb HFA HST
                    go_wp2_with fail
                    refine HD.out.mono ?_
                    rintro e w7 ⟨rfl, nd, hw⟩
                    subst hw
                    have HB2 := Lib.hid (below_drewN HL.out.below nd)
                    clear HD d2 HL
                    go_wp2_with fail
                    go_ret
                    exact ⟨rfl, HB2.out⟩
                · obtain rfl : k = j := by omega
                  have hst2 : specQ D n m (bt xs) (rss.take (k + 1)) (rss.drop (k + 1)) = y := by
                    rw [HST.out, ← HIJ.out, all_done D rss k _ (by rw [HIJ.out]; exact HFA.out), Bool.true_and]
                  have HG2 := Lib.hid hst2
                  have HC2 := Lib.hid (show ∀ u (hu : u < rss.length), u < k + 1 → cellOk n m (bt xs) rss[u] = true from fun u hu h => by
                    by_cases e : u < k
                    · exact HC.out u hu e
                    · have e2 : u = k := by omega
                      subst e2
                      exact HCK.out)
                  clear hst2
                  go_wp2_with fail
                  go_roundw
                  case rel => exact ⟨k + 1, by omega, by go_num, HG2, HC2, HL⟩
                  case measure => simp [intOf]; omega
        · have hy0 : y = false := by rw [hst]; unfold cellOk; simp [hx2]
          subst hy0
          have hx4 : (((rss[k]).length : Int) != 2) = true := by rw [bne_iff_ne]; omega
          generalize (rss[k]).length = xl at *
          clear hst HL hOM b0 b1 b2 f0 f1 f2
          go_wp2_with fail
          go_quiet (fail)
          have HB2 := Lib.hid (below_drewN HB.out nq)
          go_wp2_with fail
          go_ret
          exact ⟨rfl, HB2.out⟩
      · obtain rfl : rss.length = k := by omega
        have hg := HG.out
        rw [List.drop_length] at hg
        have hy1 : y = true := hg.symm
        subst hy1
        clear hg
        go_wp2_with fail
        go_ret
        exact ⟨rfl, HL.out.below⟩
  · rw [decide_eq_false h36, Bool.false_and]
    have HB := Lib.hid HL.out.below
    have h37 : 36 < (rss.length : Int) := by omega
    clear L0 hO1 hO2 HL HO1 HO2 HF hDI HDI hgc hg g1 g2 g3 g4 hpw
    generalize rss.length = N at *
    go_enter Try.func73, Try.ntmps73
    go_wp2_with fail
    go_ret
    exact ⟨rfl, HB.out⟩

end Go.Proofs.Ytakdiiccdkjjcaa
