/- The diagonals of a colour and the colour board, in the specification. No condition but the sizes. -/
import Derived.Test.YtakdiiccdkjjcaaEa
import Derived.Test.YtakdiiccdkjjcaaAp
import Derived.Test.YtakdiiccdkjjcaaP
import Derived.Test.YtakdiiccdkjjcaaK
import Derived.Deep.RegionWith
import Derived.Deep.RegionHeld3
import Derived.BigQuiet
namespace Go.Proofs.Ytakdiiccdkjjcaa
open Go.RowKit Go.WideShapes

theorem cntP_at (x : Int) (xs : List Int) : ∀ j, j ≤ xs.length → (∀ i, i < j → xs.getD i 0 < x) → (j < xs.length → x ≤ xs.getD j 0) → cntP xs x = j := by
  induction xs with
  | nil => intro j h _ _; simp at h; subst h; rfl
  | cons y l ih =>
    intro j h1 h2 h3
    unfold cntP at ih ⊢
    cases j with
    | zero =>
      have := h3 (by simp)
      simp only [List.getD_cons_zero] at this
      rw [List.takeWhile_cons, if_neg (by simp; omega)]
      rfl
    | succ j =>
      have := h2 0 (by omega)
      simp only [List.getD_cons_zero] at this
      rw [List.takeWhile_cons, if_pos (by simpa using this), List.length_cons, ih j (by simpa using h1) (fun i hi => by have := h2 (i + 1) (by omega); simpa using this) (fun h => by have := h3 (by simpa using h); simpa using this)]
theorem putI_at (x : Int) (xs : List Int) (j : Nat) (h1 : j ≤ xs.length) (h2 : ∀ i, i < j → xs.getD i 0 < x) (h3 : j < xs.length → x < xs.getD j 0) : putI xs x = xs.take j ++ [x] ++ xs.drop j := by
  have e := cntP_at x xs j h1 h2 (fun h => by have := h3 h; omega)
  unfold putI
  rw [e, if_neg]
  by_cases h : j < xs.length
  · have h4 := h3 h
    rw [List.getD_eq_getElem?_getD, List.getElem?_eq_getElem h] at h4 ⊢
    simp only [Option.getD_some] at h4 ⊢
    omega
  · rw [List.getD_eq_getElem?_getD, List.getElem?_eq_none (by omega)]
    simp only [Option.getD_none]
    omega
theorem putI_has (x : Int) (xs : List Int) (j : Nat) (h1 : j < xs.length) (h2 : ∀ i, i < j → xs.getD i 0 < x) (h3 : xs.getD j 0 = x) : putI xs x = xs := by
  have e := cntP_at x xs j (by omega) h2 (fun _ => by omega)
  unfold putI
  rw [e, if_pos]
  rw [List.getD_eq_getElem?_getD, List.getElem?_eq_getElem h1] at h3 ⊢
  simpa using h3

set_option maxRecDepth 100000 in
set_option maxHeartbeats 6400000 in
theorem l1Put_any (xs : List Int) (x : Int) (v : Value) (lo : Nat) (w : World) (hl : xs.length ≤ 1000) (hO : Own w lo v xs) :
    Calls Try.prog 118 #[v, .int .i64 x] w fun e w' => ∃ u, e = .returned u ∧ Below w.heap.size w w' ∧ ((putI xs x = xs ∧ u = v) ∨ Own w' w.heap.size u (putI xs x)) := by
  rcases hO.cases with ⟨rfl, rfl⟩ | ⟨g, cap, rfl, g1, g2, g3, g4⟩
  · have HP := Lib.hid (putI_at x [] 0 (by simp) (fun i h => by omega) (fun h => by simp at h))
    have HO0 := Lib.hid (own_empty w)
    clear hO hl
    go_enter Try.func118, Try.ntmps118
    go_wp2_with fail
    refine wp_loop_rounds 1 ?_
    rw [rounds_succ]
    go_wp2_with (at_builtin; refine wp_append rfl _ _ rfl w.heap.size _ [] [] _ rfl rfl HO0.out (.inl ⟨rfl, rfl⟩) (by simp) (by simp) ?_)
    intro v2 w2 hO2 hg2
    have L2 := ((Law.start w).own ((below_new (w := w) (.cells #[] 3)).grown hg2 (by simp) (fun k e => by simp [Value.ownBlock] at e; omega)) hO2).kept (below_new (.cells #[.int .i64 x] 3))
    have HL2 := Lib.hid L2
    have HX := Lib.hid (show (w2.alloc (.cells #[.int .i64 x] 3)).cell? ⟨w2.heap.size, 0, none⟩ = some (.int .i64 x) by rw [World.cell?_alloc_at _ _ _ _ rfl]; rfl)
    clear L2 hO2 hg2 HO0
    go_wp2_with (at_builtin; refine wp_appendI rfl _ _ rfl x HL2.out w2.heap.size rfl rfl HX.out (by simp) [x] rfl ?_)
    intro g cap w3 L3
    have HL3 := Lib.hid L3
    clear L3 HL2 HX
    go_wp2_with (at_builtin; refine wp_append rfl _ _ rfl w.heap.size _ [x] [] _ rfl rfl HL3.out.ownLo (.inl ⟨rfl, rfl⟩) (by simp) HL3.out.below.size ?_)
    intro v4 w4 hO4 hg4
    have HF := Lib.hid (And.intro hO4 (HL3.out.below.grown hg4 HL3.out.below.size (fun k e => (own_lt HL3.out.ownLo k e).1)))
    clear hO4 hg4 HL3
    go_wp2_with fail
    go_ret
    exact ⟨_, rfl, HF.out.2, .inr (by rw [HP.out]; exact HF.out.1)⟩
  · obtain ⟨k, hk⟩ : ∃ k, k = xs.length := ⟨_, rfl⟩
    have HC := Lib.hid (fun j (hj : j < k) => show w.cell? ⟨g, j, none⟩ = some (.int .i64 (xs.getD j 0)) from Own.cell hO j (by omega))
    have HR := Lib.hid (show Own w lo (.slice (some ⟨g, 0, none⟩) k cap) xs by rw [hk]; exact hO)
    rw [← hk] at g3 hl ⊢
    have hg0 : g < w.heap.size := g2
    have HP := Lib.hid hk
    have HO0 := Lib.hid (own_empty w)
    clear hO hk
    go_enter Try.func118, Try.ntmps118
    go_wp2_with fail
    go_loop [5] (fun i => ∃ j : Nat, j ≤ k ∧ i = .int .i64 j ∧ Hid (∀ i, i < j → xs.getD i 0 < x)) (fun i => k - (intOf i).toNat)
    case atStart => exact ⟨0, Nat.zero_le _, rfl, (fun i h => by omega : ∀ i, i < 0 → xs.getD i 0 < x)⟩
    case round =>
      obtain ⟨j, hj, rfl, HQ⟩ := hrel
      by_cases hjk : j < k
      · have hcj := HC.out j hjk
        by_cases hxy : xs.getD j 0 < x
        · have HQ2 := Lib.hid (show ∀ i, i < j + 1 → xs.getD i 0 < x from fun i h => by
            by_cases e : i = j
            · subst e; exact hxy
            · exact HQ.out i (by omega))
          generalize xs.getD j 0 = y at *
          clear HQ
          go_wp2_with fail
          go_round
          case rel => exact ⟨j + 1, by omega, by go_num, HQ2.out⟩
          case measure => simp [intOf]; omega
        · by_cases hxe : xs.getD j 0 = x
          · have HI := Lib.hid (putI_has x xs j (by have := HP.out; omega) HQ.out hxe)
            have hb1 : Below w.heap.size w w := Below.refl _ _
            rw [hxe] at hcj
            clear hxy HQ
            have hlx : (x < x) = False := by simp
            go_wp2_with fail
            go_ret
            exact ⟨_, rfl, hb1, .inl ⟨HI.out, rfl⟩⟩
          · have HI := Lib.hid (putI_at x xs j (by have := HP.out; omega) HQ.out (fun _ => by omega))
            have hlx : x < xs.getD j 0 := by omega
            have hne : (xs.getD j 0 == x) = false := by simpa using hxe
            generalize xs.getD j 0 = y at *
            clear hxy hxe HQ
            have hjc : j ≤ cap := by omega
            have hj0 : (0 : Int) ≤ j := by omega
            have hj1 : (j : Int) ≤ k := by omega
            have hj2 : (j : Int) ≤ cap := by omega
            have hsrc : Src (w.alloc (.cells #[] 3)) (.slice (some ⟨g, 0, none⟩) j cap) (xs.take j) := by
              have hl : (xs.take j).length = j := by rw [List.length_take]; have := HP.out; omega
              refine .inr ⟨⟨g, 0, none⟩, cap, by rw [hl], fun i hi => ?_⟩
              rw [hl] at hi
              rw [Addr.add_lit, Nat.zero_add, (below_new (w := w) (.cells #[] 3)).cell (p := ⟨g, i, none⟩) hg0, HC.out i (by omega)]
              simp [List.getD, hi]
            have HSR := Lib.hid hsrc
            clear hsrc
            have hl0 : (xs.take j).length = j := by rw [List.length_take]; have := HP.out; omega
            have HL0 := Lib.hid hl0
            clear hl0
            go_wp2_with (at_builtin; refine wp_append rfl _ _ rfl w.heap.size _ [] (xs.take j) _ rfl rfl HO0.out HSR.out (by rw [HL0.out]; simp; omega) (by simp) ?_)
            intro v2 w2 hO2 hg2
            have L2 := ((Law.start w).own ((below_new (w := w) (.cells #[] 3)).grown hg2 (by simp) (fun k e => by simp [Value.ownBlock] at e; omega)) hO2).kept (below_new (.cells #[.int .i64 x] 3))
            have HL2 := Lib.hid L2
            have HX := Lib.hid (show (w2.alloc (.cells #[.int .i64 x] 3)).cell? ⟨w2.heap.size, 0, none⟩ = some (.int .i64 x) by rw [World.cell?_alloc_at _ _ _ _ rfl]; rfl)
            clear L2 hO2 hg2 HO0 HSR
            have hl1 : (xs.take j ++ [x]).length = j + 1 := by rw [List.length_append, HL0.out]; simp
            have HL1 := Lib.hid hl1
            clear hl1
            go_wp2_with (at_builtin; refine wp_appendI rfl _ _ rfl x HL2.out w2.heap.size rfl rfl HX.out (by rw [HL0.out]; omega) (xs.take j ++ [x]) rfl ?_)
            intro g1 cap1 w3 L3
            rw [show min j xs.length = j by have := HP.out; omega] at L3 ⊢
            have HL3 := Lib.hid L3
            clear L3 HL2 HX
            have HS2 := Lib.hid (show Src w3 (.slice (some ⟨g, j, none⟩) (k - j) (cap - j)) (xs.drop j) by
              have hl : (xs.drop j).length = k - j := by rw [List.length_drop]; have := HP.out; omega
              refine .inr ⟨⟨g, j, none⟩, cap - j, by rw [hl], fun i hi => ?_⟩
              rw [hl] at hi
              rw [Addr.add_lit, HL3.out.below.cell (p := ⟨g, j + i, none⟩) hg0, HC.out (j + i) (by omega)]
              simp [List.getD])
            go_wp2_with (at_builtin; refine wp_append rfl _ _ rfl w.heap.size (.slice (some ⟨g1, 0, none⟩) (j + 1) cap1) (xs.take j ++ [x]) (xs.drop j) (.slice (some ⟨g, j, none⟩) (k - j) (cap - j)) rfl rfl HL3.out.ownLo HS2.out (by rw [HL1.out, List.length_drop]; have := HP.out; omega) HL3.out.below.size ?_)
            intro v4 w4 hO4 hg4
            have HF := Lib.hid (And.intro hO4 (HL3.out.below.grown hg4 HL3.out.below.size (fun k e => (own_lt HL3.out.ownLo k e).1)))
            clear hO4 hg4 HL3
            go_wp2_with fail
            go_ret
            exact ⟨_, rfl, HF.out.2, .inr (by rw [HI.out, List.append_assoc]; exact HF.out.1)⟩
      · obtain rfl : j = k := by omega
        have HI := Lib.hid (putI_at x xs j (by have := HP.out; omega) HQ.out (fun h => by have := HP.out; omega))
        clear HQ
        by_cases hcapj : cap = j
        · obtain rfl : j = cap := hcapj.symm
          have hj0 : (0 : Int) ≤ j := by omega
          have hsrc : Src (w.alloc (.cells #[] 3)) (.slice (some ⟨g, 0, none⟩) j j) (xs.take j) := by
            have hl : (xs.take j).length = j := by rw [List.length_take]; have := HP.out; omega
            refine .inr ⟨⟨g, 0, none⟩, j, by rw [hl], fun i hi => ?_⟩
            rw [hl] at hi
            rw [Addr.add_lit, Nat.zero_add, (below_new (w := w) (.cells #[] 3)).cell (p := ⟨g, i, none⟩) hg0, HC.out i (by omega)]
            simp [List.getD, hi]
          have HSR := Lib.hid hsrc
          clear hsrc
          have hl0 : (xs.take j).length = j := by rw [List.length_take]; have := HP.out; omega
          have HL0 := Lib.hid hl0
          clear hl0
          go_wp2_with (at_builtin; refine wp_append rfl _ _ rfl w.heap.size _ [] (xs.take j) _ rfl rfl HO0.out HSR.out (by rw [HL0.out]; simp; omega) (by simp) ?_)
          intro v2 w2 hO2 hg2
          have L2 := ((Law.start w).own ((below_new (w := w) (.cells #[] 3)).grown hg2 (by simp) (fun k e => by simp [Value.ownBlock] at e; omega)) hO2).kept (below_new (.cells #[.int .i64 x] 3))
          have HL2 := Lib.hid L2
          have HX := Lib.hid (show (w2.alloc (.cells #[.int .i64 x] 3)).cell? ⟨w2.heap.size, 0, none⟩ = some (.int .i64 x) by rw [World.cell?_alloc_at _ _ _ _ rfl]; rfl)
          clear L2 hO2 hg2 HO0 HSR
          have hl1 : (xs.take j ++ [x]).length = j + 1 := by rw [List.length_append, HL0.out]; simp
          have HL1 := Lib.hid hl1
          clear hl1
          go_wp2_with (at_builtin; refine wp_appendI rfl _ _ rfl x HL2.out w2.heap.size rfl rfl HX.out (by rw [HL0.out]; omega) (xs.take j ++ [x]) rfl ?_)
          intro g1 cap1 w3 L3
          rw [show min j xs.length = j by have := HP.out; omega] at L3 ⊢
          have HL3 := Lib.hid L3
          clear L3 HL2 HX
          have HS2 := Lib.hid (show Src w3 (.slice (some ⟨g, 0, none⟩) 0 0) (xs.drop j) by
            have hl : (xs.drop j).length = 0 := by rw [List.length_drop]; have := HP.out; omega
            exact .inr ⟨⟨g, 0, none⟩, 0, by rw [hl], fun i hi => by omega⟩)
          go_wp2_with (at_builtin; refine wp_append rfl _ _ rfl w.heap.size (.slice (some ⟨g1, 0, none⟩) (j + 1) cap1) (xs.take j ++ [x]) (xs.drop j) (.slice (some ⟨g, 0, none⟩) 0 0) rfl rfl HL3.out.ownLo HS2.out (by rw [HL1.out, List.length_drop]; have := HP.out; omega) HL3.out.below.size ?_)
          intro v4 w4 hO4 hg4
          have HF := Lib.hid (And.intro hO4 (HL3.out.below.grown hg4 HL3.out.below.size (fun k e => (own_lt HL3.out.ownLo k e).1)))
          clear hO4 hg4 HL3
          go_wp2_with fail
          go_ret
          exact ⟨_, rfl, HF.out.2, .inr (by rw [HI.out, List.append_assoc]; exact HF.out.1)⟩
        · skip
          have hjc : j ≤ cap := by omega
          have hj0 : (0 : Int) ≤ j := by omega
          have hj2 : (j : Int) ≤ cap := by omega
          have hsrc : Src (w.alloc (.cells #[] 3)) (.slice (some ⟨g, 0, none⟩) j cap) (xs.take j) := by
            have hl : (xs.take j).length = j := by rw [List.length_take]; have := HP.out; omega
            refine .inr ⟨⟨g, 0, none⟩, cap, by rw [hl], fun i hi => ?_⟩
            rw [hl] at hi
            rw [Addr.add_lit, Nat.zero_add, (below_new (w := w) (.cells #[] 3)).cell (p := ⟨g, i, none⟩) hg0, HC.out i (by omega)]
            simp [List.getD, hi]
          have HSR := Lib.hid hsrc
          clear hsrc
          have hl0 : (xs.take j).length = j := by rw [List.length_take]; have := HP.out; omega
          have HL0 := Lib.hid hl0
          clear hl0
          go_wp2_with (at_builtin; refine wp_append rfl _ _ rfl w.heap.size _ [] (xs.take j) _ rfl rfl HO0.out HSR.out (by rw [HL0.out]; simp; omega) (by simp) ?_)
          intro v2 w2 hO2 hg2
          have L2 := ((Law.start w).own ((below_new (w := w) (.cells #[] 3)).grown hg2 (by simp) (fun k e => by simp [Value.ownBlock] at e; omega)) hO2).kept (below_new (.cells #[.int .i64 x] 3))
          have HL2 := Lib.hid L2
          have HX := Lib.hid (show (w2.alloc (.cells #[.int .i64 x] 3)).cell? ⟨w2.heap.size, 0, none⟩ = some (.int .i64 x) by rw [World.cell?_alloc_at _ _ _ _ rfl]; rfl)
          clear L2 hO2 hg2 HO0 HSR
          have hl1 : (xs.take j ++ [x]).length = j + 1 := by rw [List.length_append, HL0.out]; simp
          have HL1 := Lib.hid hl1
          clear hl1
          go_wp2_with (at_builtin; refine wp_appendI rfl _ _ rfl x HL2.out w2.heap.size rfl rfl HX.out (by rw [HL0.out]; omega) (xs.take j ++ [x]) rfl ?_)
          intro g1 cap1 w3 L3
          rw [show min j xs.length = j by have := HP.out; omega] at L3 ⊢
          have HL3 := Lib.hid L3
          clear L3 HL2 HX
          have HS2 := Lib.hid (show Src w3 (.slice (some ⟨g, j, none⟩) 0 (cap - j)) (xs.drop j) by
            have hl : (xs.drop j).length = 0 := by rw [List.length_drop]; have := HP.out; omega
            exact .inr ⟨⟨g, j, none⟩, cap - j, by rw [hl], fun i hi => by omega⟩)
          go_wp2_with (at_builtin; refine wp_append rfl _ _ rfl w.heap.size (.slice (some ⟨g1, 0, none⟩) (j + 1) cap1) (xs.take j ++ [x]) (xs.drop j) (.slice (some ⟨g, j, none⟩) 0 (cap - j)) rfl rfl HL3.out.ownLo HS2.out (by rw [HL1.out, List.length_drop]; have := HP.out; omega) HL3.out.below.size ?_)
          intro v4 w4 hO4 hg4
          have HF := Lib.hid (And.intro hO4 (HL3.out.below.grown hg4 HL3.out.below.size (fun k e => (own_lt HL3.out.ownLo k e).1)))
          clear hO4 hg4 HL3
          go_wp2_with fail
          go_ret
          exact ⟨_, rfl, HF.out.2, .inr (by rw [HI.out, List.append_assoc]; exact HF.out.1)⟩

end Go.Proofs.Ytakdiiccdkjjcaa
