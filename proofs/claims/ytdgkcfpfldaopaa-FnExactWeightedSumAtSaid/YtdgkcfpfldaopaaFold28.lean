import Derived.Test.YtdgkcfpfldaopaaFold19

section
namespace Go.Proofs.Ytdgkcfpfldaopaa
open Go.RowKit Go.WideShapes

theorem Chg.set (b j : Nat) (v : Value) (w : World) : Chg (fun k => k = b) w (w.setCell ⟨b, j, none⟩ v) :=
  ⟨rfl, rfl, rfl, by simp [World.setCell], fun k _ hf => Below.heap_setCell w ⟨b, j, none⟩ v k (fun e => hf e)⟩
theorem Chg.drew {foot : Nat → Prop} (w : World) : Chg foot w w.drew := Chg.of_below (Below.refl _ _).drew

theorem Has.drewN {w : World} {b : Nat} {cs : List Value} {t : TypeId} (h : Has w b cs t) (n : Nat) : Has (w.drewN n) b cs t := h.kept (below_drewN (Below.refl w.heap.size w) n) h.lt
theorem Chg.drewN {foot : Nat → Prop} {w w' : World} (h : Chg foot w w') (n : Nat) : Chg foot w (w'.drewN n) := h.trans (Chg.of_below (below_drewN (Below.refl _ _) n))

/-- A series' numbers by a list. -/
abbrev fl (L : List Int) : Nat → Int := fun k => L.getD k 0

/-- In the middle of bringing x in. -/
def cur (p : List Int) (x : Int) (rest : List Int) (j : Nat) : List Int := p.take j ++ x :: (p.drop j ++ rest)
theorem cur_mid (A D : List Int) (u v : Int) : (A ++ u :: v :: D).getD A.length 0 = u ∧ (A ++ u :: v :: D).getD (A.length + 1) 0 = v ∧ ∀ u' v' k, k ≠ A.length → k ≠ A.length + 1 → (A ++ u' :: v' :: D).getD k 0 = (A ++ u :: v :: D).getD k 0 := by
  refine ⟨by simp [List.getD], by simp [List.getD], fun u' v' k h1 h2 => ?_⟩
  by_cases h : k < A.length
  · simp [List.getD, List.getElem?_append_left h]
  · obtain ⟨q, rfl⟩ : ∃ q, k = A.length + (q + 2) := ⟨k - A.length - 2, by omega⟩
    simp only [List.getD, List.getElem?_append_right (Nat.le_add_right _ _), Nat.add_sub_cancel_left]
    rfl
theorem cur_facts (p : List Int) (x : Int) (rest : List Int) (j : Nat) (hj : j + 1 ≤ p.length) :
    (cur p x rest (j + 1)).getD (j + 1) 0 = x ∧ (cur p x rest (j + 1)).getD j 0 = p.getD j 0 ∧ (cur p x rest j).getD j 0 = x ∧ (cur p x rest j).getD (j + 1) 0 = p.getD j 0 ∧ ∀ k, k ≠ j → k ≠ j + 1 → (cur p x rest j).getD k 0 = (cur p x rest (j + 1)).getD k 0 := by
  have l : (p.take j).length = j := by simp; omega
  have e1 : cur p x rest (j + 1) = p.take j ++ p.getD j 0 :: x :: (p.drop (j + 1) ++ rest) := by
    unfold cur
    rw [List.take_succ_eq_append_getElem (by omega : j < p.length), List.append_assoc]
    simp [List.getD, show j < p.length by omega]
  have e2 : cur p x rest j = p.take j ++ x :: p.getD j 0 :: (p.drop (j + 1) ++ rest) := by
    unfold cur
    have e : p.drop j = p.getD j 0 :: p.drop (j + 1) := by
      rw [List.drop_eq_getElem_cons (by omega : j < p.length)]
      simp [List.getD, show j < p.length by omega]
    rw [e]
    rfl
  obtain ⟨a1, a2, a3⟩ := cur_mid (p.take j) (p.drop (j + 1) ++ rest) (p.getD j 0) x
  obtain ⟨b1, b2, _⟩ := cur_mid (p.take j) (p.drop (j + 1) ++ rest) x (p.getD j 0)
  rw [l] at a1 a2 a3 b1 b2
  rw [e1, e2]
  exact ⟨a2, a1, b1, b2, fun k h1 h2 => a3 _ _ k h1 h2⟩
theorem cur_start (xs : List Int) (i : Nat) (hi : i < xs.length) : sortL (xs.take i) ++ xs.drop i = cur (sortL (xs.take i)) (xs.getD i 0) (xs.drop (i + 1)) i := by
  have l : (sortL (xs.take i)).length = i := by rw [sortL_len, List.length_take]; omega
  unfold cur
  have e1 : (sortL (xs.take i)).take i = sortL (xs.take i) := List.take_of_length_le (by omega)
  have e2 : (sortL (xs.take i)).drop i = [] := List.drop_eq_nil_of_le (by omega)
  have e3 : xs.drop i = xs.getD i 0 :: xs.drop (i + 1) := by
    rw [List.drop_eq_getElem_cons hi]
    simp [List.getD, hi]
  rw [e1, e2, e3, List.nil_append]
theorem cur_done (xs : List Int) (i j : Nat) (hi : i < xs.length) (hj : j ≤ i) (h1 : ∀ q, j ≤ q → q < i → xs.getD i 0 < (sortL (xs.take i)).getD q 0) (h2 : 0 < j → (sortL (xs.take i)).getD (j - 1) 0 ≤ xs.getD i 0) :
    cur (sortL (xs.take i)) (xs.getD i 0) (xs.drop (i + 1)) j = sortL (xs.take (i + 1)) ++ xs.drop (i + 1) := by
  have l : (sortL (xs.take i)).length = i := by rw [sortL_len, List.length_take]; omega
  rw [sortL_succ xs i hi, insL_at _ _ j (by omega)]
  · simp [cur]
  · intro q hq
    have := h2 (by omega)
    by_cases e : q = j - 1
    · subst e; exact this
    · have := sortL_get (xs.take i) q (j - 1) (by omega) (by rw [List.length_take]; omega)
      omega
  · intro hq
    exact h1 j (Nat.le_refl _) (by omega)

set_option maxRecDepth 100000 in
set_option maxHeartbeats 3200000 in
theorem insSort_any (b : Nat) (c : Int) (L0 : List Int) (w : World) (h1 : 1 ≤ L0.length) (h6 : L0.length ≤ 6) (hH : Has w b (sl c (fl L0)) 59) :
    Calls Try.prog 133 #[.slice (some ⟨b, 1, none⟩) L0.length 6, .int .i64 0, .int .i64 L0.length] w fun e w' => (∃ v, e = .returned v) ∧ Has w' b (sl c (fl (sortL L0))) 59 ∧ Chg (fun k => k = b) w w' := by
  obtain ⟨n, hn⟩ : ∃ n, n = L0.length := ⟨_, rfl⟩
  rw [← hn] at h1 h6 ⊢
  have HN := Lib.hid hn
  clear hn
  go_enter Try.func133, Try.ntmps133
  go_wp2_with fail
  go_loopw [6] (fun i wr => ∃ k : Nat, 1 ≤ k ∧ k ≤ n ∧ i = .int .i64 k ∧ Has wr b (sl c (fl (sortL (L0.take k) ++ L0.drop k))) 59 ∧ Chg (fun k => k = b) w wr) (fun i _ => n - (intOf i).toNat)
  case atStart =>
    refine ⟨1, Nat.le_refl _, h1, rfl, ?_, Chg.refl _ _⟩
    have e : sortL (L0.take 1) ++ L0.drop 1 = L0 := by
      have := HN.out
      match L0, this with
      | [], h => simp at h; omega
      | x :: t, _ => simp [sortL, insL]
    rw [e]
    exact hH
  case round =>
    clear hH
    obtain ⟨k, hk1, hk, rfl, hH, hC⟩ := hrel
    by_cases hlt : k < n
    · have hkl : k < L0.length := by have := HN.out; omega
      rw [cur_start L0 k hkl] at hH
      obtain ⟨p, hp⟩ : ∃ p, p = sortL (L0.take k) := ⟨_, rfl⟩
      have hpl : p.length = k := by rw [hp, sortL_len, List.length_take]; omega
      have hdone := fun j hj => cur_done L0 k j hkl hj
      rw [← hp] at hH hdone
      generalize L0.getD k 0 = x at *
      obtain ⟨rest, hrest⟩ : ∃ rest, rest = L0.drop (k + 1) := ⟨_, rfl⟩
      rw [← hrest] at hH hdone
      have HR := Lib.hid hrest
      clear hrest
      have HH := Lib.hid (And.intro hH hC)
      have HD := Lib.hid hdone
      have HP := Lib.hid hpl
      clear hH hC hdone hpl hp hkl
      go_wp2_with fail
      go_loopw [7] (fun jv wr => ∃ j : Nat, j ≤ k ∧ jv = .int .i64 j ∧ Hid (∀ q, j ≤ q → q < k → x < p.getD q 0) ∧ Has wr b (sl c (fl (cur p x rest j))) 59 ∧ Chg (fun k => k = b) w wr) (fun i _ => (intOf i).toNat)
      case atStart => exact ⟨k, Nat.le_refl _, rfl, (fun q h1 h2 => by omega : ∀ q, k ≤ q → q < k → x < p.getD q 0), HH.out.1, HH.out.2⟩
      case round =>
        clear HH
        obtain ⟨j, hj, rfl, HQ, hH, hC⟩ := hrel
        by_cases hj0 : j = 0
        · subst hj0
          have hd := HD.out 0 (Nat.zero_le _) (fun q h1 h2 => HQ.out q h1 h2) (fun h => by omega)
          rw [hd, HR.out] at hH
          have HH := Lib.hid (And.intro hH hC)
          clear hH hC hd HQ HD
          simp only [show ((0 : Nat) : Int) = 0 from rfl]
          go_wp2_with fail
          go_quiet (fail)
          go_wp2_with fail
          go_roundw
          case rel => exact ⟨k + 1, by omega, by omega, by go_num, HH.out.1.drewN _, HH.out.2.drewN _⟩
          case measure => simp [intOf]; omega
        · obtain ⟨i, rfl⟩ : ∃ i, j = i + 1 := ⟨j - 1, by omega⟩
          obtain ⟨f1, f2, f3, f4, f5⟩ := cur_facts p x rest i (by have := HP.out; omega)
          have c1 := hH.cell (1 + (i + 1))
          rw [sl_get _ _ (i + 1) (by omega)] at c1
          have c2 := hH.cell (1 + i)
          rw [sl_get _ _ i (by omega)] at c2
          simp only [f1] at c1
          simp only [f2] at c2
          have hfr := hH.free
          have hk0 : (0 : Int) < ((i + 1 : Nat) : Int) := by omega
          have hk1 : (0 : Int) ≤ ((i + 1 : Nat) : Int) - 1 := by omega
          have hk2 : (((i + 1 : Nat) : Int) - 1).toNat = i := by omega
          have hk3 : ((i + 1 : Nat) : Int) - 1 < n := by omega
          have hk4 : IntKind.i64.wrap (((i + 1 : Nat) : Int) - 1) = ((i + 1 : Nat) : Int) - 1 := IntWalk.i64_in _ (by omega)
          have hk5 : ((i + 1 : Nat) : Int) < n := by omega
          by_cases hxy : x < p.getD i 0
          · have HQ2 := Lib.hid (show ∀ q, i ≤ q → q < k → x < p.getD q 0 from fun q h1 h2 => by
              by_cases e : q = i
              · subst e; exact hxy
              · exact HQ.out q (by omega) h2)
            have HL := Lib.hid (less_at x (p.getD i 0) true (decide_eq_true hxy))
            have HG := Lib.hid (show ∀ m, Has (((wr.drewN m).setCell ⟨b, 1 + (i + 1), none⟩ (.int .i64 (p.getD i 0))).setCell ⟨b, 1 + i, none⟩ (.int .i64 x)) b (sl c (fl (cur p x rest i))) 59 ∧ Chg (fun k => k = b) w (((wr.drewN m).setCell ⟨b, 1 + (i + 1), none⟩ (.int .i64 (p.getD i 0))).setCell ⟨b, 1 + i, none⟩ (.int .i64 x)) from fun m => by
              have g1 := (hH.drewN m).set (1 + (i + 1)) (.int .i64 (p.getD i 0))
              rw [sl_set c (fl (cur p x rest (i + 1))) (fun q => if q = i + 1 then p.getD i 0 else (cur p x rest (i + 1)).getD q 0) (i + 1) (by omega) (p.getD i 0) (by simp) (fun q hq => by simp [hq])] at g1
              have g2 := g1.set (1 + i) (.int .i64 x)
              rw [sl_set c _ (fl (cur p x rest i)) i (by omega) x f3 (fun q hq => by
                by_cases e : q = i + 1
                · subst e; rw [if_pos rfl]; exact f4
                · rw [if_neg e]; exact f5 q hq e)] at g2
              have k2 := ((hC.drewN m).trans (Chg.set b (1 + (i + 1)) (.int .i64 (p.getD i 0)) (wr.drewN m))).trans (Chg.set b (1 + i) (.int .i64 x) _)
              exact ⟨g2, k2⟩)
            generalize p.getD i 0 = y at *
            clear hH hC f1 f2 f3 f4 f5 HQ hxy hj0
            go_wp2_with fail
            go_quiet ((go_at_call 131; with_reducible exact Calls.quiet_of_same (HL.out _)))
            go_wp2_with fail
            go_region
            go_wp2_with fail
            go_roundw
            case rel => exact ⟨i, by omega, rfl, HQ2.out, (HG.out _).1, (HG.out _).2⟩
            case measure => simp [intOf]
          · have HL := Lib.hid (less_at x (p.getD i 0) false (decide_eq_false hxy))
            have hd := HD.out (i + 1) hj (fun q h1 h2 => HQ.out q h1 h2) (fun _ => by rw [Nat.add_sub_cancel]; omega)
            rw [hd, HR.out] at hH
            have HH := Lib.hid (And.intro hH hC)
            generalize p.getD i 0 = y at *
            clear hH hC f1 f2 f3 f4 f5 HQ hxy hj0 hd HD
            go_wp2_with fail
            go_quiet ((go_at_call 131; with_reducible exact Calls.quiet_of_same (HL.out _)))
            go_wp2_with fail
            go_roundw
            case rel => exact ⟨k + 1, by omega, by omega, by go_num, HH.out.1.drewN _, HH.out.2.drewN _⟩
            case measure => simp [intOf]; omega
    · obtain rfl : k = n := by omega
      have hl := HN.out
      have e : sortL (L0.take k) ++ L0.drop k = sortL L0 := by rw [hl, List.take_length, List.drop_length, List.append_nil]
      rw [e] at hH
      clear hl e
      go_wp2_with fail
      refine bodyPost_end (results_none rfl _ _ _) rfl ?_
      exact ⟨⟨_, rfl⟩, hH, hC⟩

set_option maxRecDepth 100000 in
set_option maxHeartbeats 3200000 in
theorem pdq_any (b : Nat) (c : Int) (L0 : List Int) (lim : Int) (w : World) (h1 : 1 ≤ L0.length) (h6 : L0.length ≤ 6) (hH : Has w b (sl c (fl L0)) 59) :
    Calls Try.prog 129 #[.slice (some ⟨b, 1, none⟩) L0.length 6, .int .i64 0, .int .i64 L0.length, .int .i64 lim] w fun e w' => (∃ v, e = .returned v) ∧ Has w' b (sl c (fl (sortL L0))) 59 ∧ Chg (fun k => k = b) w w' := by
  have HC := Lib.hid (insSort_any b c L0 w h1 h6 hH)
  have hl : (L0.length : Int) ≤ 12 := by omega
  clear hH
  go_enter Try.func129, Try.ntmps129
  go_wp2_with fail
  refine wp_loop_rounds 1 ?_
  rw [rounds_succ]
  go_wp2_with fail
  refine HC.out.mono ?_
  rintro e w2 ⟨⟨v, rfl⟩, hH, hC⟩
  go_wp2_with fail
  refine bodyPost_ret (results_none rfl _ _ _) rfl ?_
  exact ⟨⟨_, rfl⟩, hH, hC⟩

set_option maxRecDepth 100000 in
theorem len64_any (n : Nat) (w : World) (h1 : 1 ≤ n) (h6 : n ≤ 6) : Calls Try.prog 142 #[.int .u64 n] w fun e w' => (∃ k, e = .returned (.int .i64 k)) ∧ w' = w := by
  have hc : n = 1 ∨ n = 2 ∨ n = 3 ∨ n = 4 ∨ n = 5 ∨ n = 6 := by omega
  rcases hc with rfl | rfl | rfl | rfl | rfl | rfl
  all_goals
    go_enter Try.func142, Try.ntmps142
    go_wp2_with fail
    go_ret
    exact ⟨⟨_, rfl⟩, rfl⟩
theorem len_any (n : Nat) (w : World) (h1 : 1 ≤ n) (h6 : n ≤ 6) : Calls Try.prog 130 #[.int .u64 n] w fun e w' => (∃ k, e = .returned (.int .i64 k)) ∧ w' = w := by
  have HC := Lib.hid (len64_any n w h1 h6)
  go_enter Try.func130, Try.ntmps130
  go_wp2_with fail
  refine HC.out.mono ?_
  rintro e w2 ⟨⟨v, rfl⟩, rfl⟩
  go_wp2_with fail
  go_ret
  exact ⟨⟨_, rfl⟩, rfl⟩

set_option maxRecDepth 100000 in
theorem sort_any (b : Nat) (c : Int) (L0 : List Int) (w : World) (h1 : 1 ≤ L0.length) (h6 : L0.length ≤ 6) (hH : Has w b (sl c (fl L0)) 59) :
    Calls Try.prog 119 #[.slice (some ⟨b, 1, none⟩) L0.length 6] w fun e w' => (∃ v, e = .returned v) ∧ Has w' b (sl c (fl (sortL L0))) 59 ∧ Chg (fun k => k = b) w w' := by
  have HC := Lib.hid (fun lim => pdq_any b c L0 lim w h1 h6 hH)
  have HL := Lib.hid (len_any L0.length w h1 h6)
  clear hH
  go_enter Try.func119, Try.ntmps119
  go_wp2_with fail
  refine HL.out.mono ?_
  rintro e w2 ⟨⟨k, rfl⟩, hww⟩
  subst hww
  go_wp2_with fail
  refine (HC.out _).mono ?_
  rintro e w2 ⟨⟨v, rfl⟩, hH, hC⟩
  go_wp2_with fail
  refine bodyPost_end (results_none rfl _ _ _) rfl ?_
  exact ⟨⟨_, rfl⟩, hH, hC⟩

end Go.Proofs.Ytdgkcfpfldaopaa
end

section
namespace Go.Proofs.Ytdgkcfpfldaopaa
open Go.RowKit Go.WideShapes

abbrev sl0 : List Value := [.int .i64 0, .int .i64 0, .int .i64 0, .int .i64 0, .int .i64 0, .int .i64 0, .int .i64 0]

set_option maxRecDepth 100000 in
set_option maxHeartbeats 1600000 in
theorem factors_any (xs : List Int) (w : World) (h1 : 1 ≤ xs.length) (h6 : xs.length ≤ 6) (hb : ∀ k, -1000 ≤ xs.getD k 0 ∧ xs.getD k 0 ≤ 1000) :
    Calls Try.prog 86 #[sv xs.length (fl xs)] w fun e w' => e = .returned (sv xs.length (fl (facs xs))) ∧ Below w.heap.size w w' := by
  have L0 := ((Law.start w).has (sl xs.length (fl xs)) 59).has sl0 59
  simp only [World.size_alloc] at L0
  obtain ⟨n, hn⟩ : ∃ n, n = xs.length := ⟨_, rfl⟩
  have hu : (facU xs).length = n := by rw [facU_len, hn]
  have hug := facU_get xs
  rw [← hn] at h1 h6 L0 hug ⊢
  have hov := over_zero (facU xs) xs
  rw [show fl xs = fl (over (facU xs) xs 0) by rw [hov]] at L0 ⊢
  have HL := Lib.hid L0
  have HN := Lib.hid hn.symm
  have HU := Lib.hid (And.intro hu hug)
  clear L0 hn hu hug hov
  generalize hM : fl (over (facU xs) xs 0) = M at *
  have HM := Lib.hid hM
  clear hM
  go_enter Try.func86, Try.ntmps86
  go_upto_region 1 with fail
  generalize ((w.alloc _).alloc _) = w5 at *
  have ⟨e0, _⟩ := HL.out.tl.ownHas.seven
  go_wp2_with fail
  go_loopw [6] (fun i wr => ∃ k : Nat, k ≤ n ∧ i = .int .i64 k ∧ Law w [tHas (w.heap.size + 1) sl0 59, tHas w.heap.size (sl n (fl (over (facU xs) xs k))) 59] wr) (fun i _ => n - (intOf i).toNat)
  case atStart => exact ⟨0, Nat.zero_le _, rfl, by rw [HM.out]; exact HL.out⟩
  case round =>
    clear HL e0 HM
    obtain ⟨k, hk, rfl, L⟩ := hrel
    by_cases hlt : k < n
    · have c1 := L.tl.ownHas.cell (1 + k)
      rw [sl_get _ _ k (by omega)] at c1
      simp only [fl, over_get (facU xs) xs k n HU.out.1 HN.out hlt] at c1
      have hfr := L.tl.ownHas.free (1 + k)
      have hS := Law.setHas (ts := [_]) L (1 + k) (.int .i64 (xs.getD k 0 - k))
      rw [sl_set n _ (fl (over (facU xs) xs (k + 1))) k (by omega) (xs.getD k 0 - k) (by
          simp only [fl]
          rw [← over_set (facU xs) xs k n HU.out.1 HN.out hlt (xs.getD k 0 - k) (HU.out.2 k hlt), List.getD_eq_getElem?_getD, List.getElem?_set_self (by rw [over_len (facU xs) xs k n HU.out.1 HN.out hk]; exact hlt)]
          rfl) (fun q hq => by
          simp only [fl]
          rw [← over_set (facU xs) xs k n HU.out.1 HN.out hlt (xs.getD k 0 - k) (HU.out.2 k hlt), List.getD_eq_getElem?_getD, List.getElem?_set_ne (fun e => hq e.symm), ← List.getD_eq_getElem?_getD])] at hS
      have HS := Lib.hid hS
      have hx := hb k
      generalize xs.getD k 0 = x at *
      have hw : IntKind.i64.wrap (x - k) = x - k := IntWalk.i64_in _ (by omega)
      clear L hS hx hb
      go_wp2_with fail
      go_roundw
      case rel => exact ⟨k + 1, by omega, by go_num, HS.out⟩
      case measure => simp [intOf]; omega
    · obtain rfl : k = n := by omega
      rw [over_full (facU xs) xs k HU.out.1 HN.out] at L
      have hlen := HU.out.1
      have ⟨e0, _⟩ := L.tl.ownHas.seven
      have HL := Lib.hid L
      have hk0 : (0 : Int) ≤ k := by omega
      have hk1 : (k : Int) ≤ 6 := by omega
      have hc := fun (W : World) (hH : Has W w.heap.size (sl (facU xs).length (fl (facU xs))) 59) => sort_any w.heap.size (facU xs).length (facU xs) W (by omega) (by omega) hH
      rw [hlen] at hc
      have HC := Lib.hid hc
      clear L hc hlen hlt
      go_wp2_with fail
      refine (HC.out _ HL.out.tl.ownHas).mono ?_
      rintro e w2 ⟨⟨v, rfl⟩, hH, hC⟩
      have L2 := Law.write (ts := [_]) HL.out hC (tHas w.heap.size (sl k (fl (sortL (facU xs)))) 59) rfl hH
      obtain ⟨f0, f1, f2, f3, f4, f5, f6, _⟩ := L2.ownHas.seven
      obtain ⟨e0, e1, e2, e3, e4, e5, e6, _⟩ := L2.tl.ownHas.seven
      have HB := Lib.hid L2.below
      clear HL L2 hH hC HC
      go_wp2_with fail
      refine bodyPost_ret (v := sv k (fl (facs xs))) (by simp [results, Try.results86, go_sem, f0, f1, f2, f3, f4, f5, f6, facs]) rfl ⟨rfl, ?_⟩
      have h2 := HB.out
      repeat (refine Below.setCell ?_ (by simp <;> omega) _)
      exact h2

theorem sl_vals (n : Int) (L : List Int) (h : L.length ≤ 6) (j : Nat) (v : Value) (hj : (L.map (Value.int .i64))[j]? = some v) : (sl n (fl L))[1 + j]? = some v := by
  obtain ⟨hx1, rfl⟩ := List.getElem?_eq_some_iff.1 hj
  simp only [List.length_map] at hx1
  rw [sl_get _ _ j (by omega)]
  simp [hx1]

end Go.Proofs.Ytdgkcfpfldaopaa
end
