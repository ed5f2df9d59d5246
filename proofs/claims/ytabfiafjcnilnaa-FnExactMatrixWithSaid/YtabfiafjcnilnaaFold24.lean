import Derived.Test.YtabfiafjcnilnaaFold23
namespace Go.Proofs.Ytabfiafjcnilnaa
open Go.RowKit Go.WideShapes

theorem offC_le (S : Nat → Int) (h : ∀ k, 0 ≤ S k ∧ S k ≤ 6) : ∀ k, offC S k ≤ 6 * k
  | 0 => Nat.le_refl _
  | k + 1 => by
    have := offC_le S h k
    have := h k
    rw [offC]
    omega
theorem offC_far (S : Nat → Int) (n N : Nat) (hz : ∀ k, n ≤ k → S k = 0) (hN : n ≤ N) : offC S N = offC S n := by
  induction N with
  | zero => rw [show n = 0 by omega]
  | succ N ih =>
    by_cases e : n = N + 1
    · rw [e]
    · rw [offC, ih (by omega), hz N (by omega)]
      rfl
set_option maxRecDepth 100000 in
set_option maxHeartbeats 1600000 in
theorem cellsO_any (n : Nat) (M : Nat → Int) (w : World) (hn6 : n ≤ 6) (hz : ∀ k, n ≤ k → M k = 0) (hx : ∀ k, 0 ≤ M k ∧ M k ≤ 6) :
    Calls Try.prog 53 #[sv n M] w fun e w' => e = .returned (.int .i64 (offC M n : Nat)) ∧ Below w.heap.size w w' := by
  have L0 := (Law.start w).has (sl n M) 47
  rw [show (w.alloc (.cells (sl n M).toArray 47)) = (w.alloc (.cells #[.int .i64 n, .int .i64 (M 0), .int .i64 (M 1), .int .i64 (M 2), .int .i64 (M 3), .int .i64 (M 4), .int .i64 (M 5)] 47)) from rfl] at L0
  have HC := Lib.hid (offC_le M hx)
  have HE := Lib.hid (offC_far M n 6 hz hn6)
  have HX := Lib.hid hx
  have HL := Lib.hid L0
  have hs : ∀ j, j < 6 → (offC M (j + 1) : Int) = (offC M j : Int) + M j := fun j hj => by
    have := hx j
    rw [offC]
    omega
  have HS := Lib.hid hs
  clear hx hz L0 hs
  obtain ⟨e0, e1, e2, e3, e4, e5, e6, _⟩ := HL.out.ownHas.seven
  go_enter Try.func53, Try.ntmps53
  go_wp2_with fail
  clear e0 e1 e2 e3 e4 e5 e6
  go_loopw [3, 8] (fun f i wr => ∃ k : Nat, k ≤ 6 ∧ i = .int .i64 k ∧ f = .int .i64 (offC M k : Nat) ∧ Law w [tHas w.heap.size (sl n M) 47] wr) (fun _ i _ => 6 - (intOf i).toNat)
  case atStart => exact ⟨0, Nat.zero_le _, rfl, rfl, HL.out⟩
  case round =>
    clear HL
    obtain ⟨k, hk, rfl, rfl, L⟩ := hrel
    have HL := Lib.hid L
    clear L
    by_cases hlt : k < 6
    · have h6 : k = 0 ∨ k = 1 ∨ k = 2 ∨ k = 3 ∨ k = 4 ∨ k = 5 := by omega
      clear hk hlt
      rcases h6 with rfl | rfl | rfl | rfl | rfl | rfl
      · have hs := HS.out 0 (by omega)
        simp only [Nat.reduceAdd] at hs
        have hc := HC.out 0
        have hc1 := HC.out 1
        have hw : wrap64 ((offC M 0 : Int) + M 0) = (offC M 0 : Int) + M 0 := IntWalk.wrap64_in _ (by omega)
        have HW := Lib.hid (hw.trans hs.symm)
        clear hs hc hc1 hw
        generalize (offC M 0 : Int) = S at *
        rw [show ((0 : Nat) : Int) = 0 from rfl]
        have hidx : ∀ w, (Instr.index 45 (.agg #[.int .i64 (M 0), .int .i64 (M 1), .int .i64 (M 2), .int .i64 (M 3), .int .i64 (M 4), .int .i64 (M 5)]) (.int .i64 0)).run Try.prog w = .ok (.int .i64 (M 0)) w := fun _ => by kernel_rfl
        go_wp2_with fail
        go_roundw
        case rel => exact ⟨1, by omega, by first | rfl | go_num, by rw [HW.out], HL.out⟩
        case measure => simp [intOf]
      · have hs := HS.out 1 (by omega)
        simp only [Nat.reduceAdd] at hs
        have hc := HC.out 1
        have hc1 := HC.out 2
        have hw : wrap64 ((offC M 1 : Int) + M 1) = (offC M 1 : Int) + M 1 := IntWalk.wrap64_in _ (by omega)
        have HW := Lib.hid (hw.trans hs.symm)
        clear hs hc hc1 hw
        generalize (offC M 1 : Int) = S at *
        rw [show ((1 : Nat) : Int) = 1 from rfl]
        have hidx : ∀ w, (Instr.index 45 (.agg #[.int .i64 (M 0), .int .i64 (M 1), .int .i64 (M 2), .int .i64 (M 3), .int .i64 (M 4), .int .i64 (M 5)]) (.int .i64 1)).run Try.prog w = .ok (.int .i64 (M 1)) w := fun _ => by kernel_rfl
        go_wp2_with fail
        go_roundw
        case rel => exact ⟨2, by omega, by first | rfl | go_num, by rw [HW.out], HL.out⟩
        case measure => simp [intOf]
      · have hs := HS.out 2 (by omega)
        simp only [Nat.reduceAdd] at hs
        have hc := HC.out 2
        have hc1 := HC.out 3
        have hw : wrap64 ((offC M 2 : Int) + M 2) = (offC M 2 : Int) + M 2 := IntWalk.wrap64_in _ (by omega)
        have HW := Lib.hid (hw.trans hs.symm)
        clear hs hc hc1 hw
        generalize (offC M 2 : Int) = S at *
        rw [show ((2 : Nat) : Int) = 2 from rfl]
        have hidx : ∀ w, (Instr.index 45 (.agg #[.int .i64 (M 0), .int .i64 (M 1), .int .i64 (M 2), .int .i64 (M 3), .int .i64 (M 4), .int .i64 (M 5)]) (.int .i64 2)).run Try.prog w = .ok (.int .i64 (M 2)) w := fun _ => by kernel_rfl
        go_wp2_with fail
        go_roundw
        case rel => exact ⟨3, by omega, by first | rfl | go_num, by rw [HW.out], HL.out⟩
        case measure => simp [intOf]
      · have hs := HS.out 3 (by omega)
        simp only [Nat.reduceAdd] at hs
        have hc := HC.out 3
        have hc1 := HC.out 4
        have hw : wrap64 ((offC M 3 : Int) + M 3) = (offC M 3 : Int) + M 3 := IntWalk.wrap64_in _ (by omega)
        have HW := Lib.hid (hw.trans hs.symm)
        clear hs hc hc1 hw
        generalize (offC M 3 : Int) = S at *
        rw [show ((3 : Nat) : Int) = 3 from rfl]
        have hidx : ∀ w, (Instr.index 45 (.agg #[.int .i64 (M 0), .int .i64 (M 1), .int .i64 (M 2), .int .i64 (M 3), .int .i64 (M 4), .int .i64 (M 5)]) (.int .i64 3)).run Try.prog w = .ok (.int .i64 (M 3)) w := fun _ => by kernel_rfl
        go_wp2_with fail
        go_roundw
        case rel => exact ⟨4, by omega, by first | rfl | go_num, by rw [HW.out], HL.out⟩
        case measure => simp [intOf]
      · have hs := HS.out 4 (by omega)
        simp only [Nat.reduceAdd] at hs
        have hc := HC.out 4
        have hc1 := HC.out 5
        have hw : wrap64 ((offC M 4 : Int) + M 4) = (offC M 4 : Int) + M 4 := IntWalk.wrap64_in _ (by omega)
        have HW := Lib.hid (hw.trans hs.symm)
        clear hs hc hc1 hw
        generalize (offC M 4 : Int) = S at *
        rw [show ((4 : Nat) : Int) = 4 from rfl]
        have hidx : ∀ w, (Instr.index 45 (.agg #[.int .i64 (M 0), .int .i64 (M 1), .int .i64 (M 2), .int .i64 (M 3), .int .i64 (M 4), .int .i64 (M 5)]) (.int .i64 4)).run Try.prog w = .ok (.int .i64 (M 4)) w := fun _ => by kernel_rfl
        go_wp2_with fail
        go_roundw
        case rel => exact ⟨5, by omega, by first | rfl | go_num, by rw [HW.out], HL.out⟩
        case measure => simp [intOf]
      · have hs := HS.out 5 (by omega)
        simp only [Nat.reduceAdd] at hs
        have hc := HC.out 5
        have hc1 := HC.out 6
        have hw : wrap64 ((offC M 5 : Int) + M 5) = (offC M 5 : Int) + M 5 := IntWalk.wrap64_in _ (by omega)
        have HW := Lib.hid (hw.trans hs.symm)
        clear hs hc hc1 hw
        generalize (offC M 5 : Int) = S at *
        rw [show ((5 : Nat) : Int) = 5 from rfl]
        have hidx : ∀ w, (Instr.index 45 (.agg #[.int .i64 (M 0), .int .i64 (M 1), .int .i64 (M 2), .int .i64 (M 3), .int .i64 (M 4), .int .i64 (M 5)]) (.int .i64 5)).run Try.prog w = .ok (.int .i64 (M 5)) w := fun _ => by kernel_rfl
        go_wp2_with fail
        go_roundw
        case rel => exact ⟨6, by omega, by first | rfl | go_num, by rw [HW.out], HL.out⟩
        case measure => simp [intOf]
    · obtain rfl : k = 6 := by omega
      rw [HE.out, show ((6 : Nat) : Int) = 6 from rfl]
      go_wp2_with fail
      go_ret
      exact ⟨rfl, HL.out.below⟩

set_option maxRecDepth 100000 in
set_option maxHeartbeats 1600000 in
theorem weCellsO_any (n : Nat) (xs : List Int) (M : Nat → Int) (hM : ∀ k, M k = xs.getD k 0) (a : Option Addr) (p : Nat) (w : World) (hn : xs.length = n) (hn6 : n ≤ 6) (hx : ∀ k, 0 ≤ xs.getD k 0 ∧ xs.getD k 0 ≤ 6) (hr : Reads w a n xs) :
    Calls Try.prog 38 #[.slice a n p] w fun e w' => e = .returned (.int .i64 (offC M n : Nat)) ∧ w = w' := by
  have HC := Lib.hid (offC_le M (fun k => by rw [hM]; exact hx k))
  have hs : ∀ j, (offC M (j + 1) : Int) = (offC M j : Int) + xs.getD j 0 := fun j => by
    have := hx j
    rw [offC, hM]
    omega
  have HS := Lib.hid hs
  have HR := Lib.hid (show Reads w a xs.length xs by rw [hn]; exact hr)
  have HN := Lib.hid hn
  have HX := Lib.hid hx
  clear hx hr hs hn hM
  go_enter Try.func38, Try.ntmps38
  go_wp2_with fail
  go_loopw [3, 8] (fun f i wr => ∃ k : Nat, k ≤ n ∧ i = .int .i64 k ∧ f = .int .i64 (offC M k : Nat) ∧ w = wr) (fun _ i _ => n - (intOf i).toNat)
  case atStart => exact ⟨0, Nat.zero_le _, rfl, rfl, rfl⟩
  case round =>
    obtain ⟨k, hk, rfl, rfl, hww⟩ := hrel
    subst hww
    by_cases hlt : k < n
    · obtain ⟨b, off, ha, hb0, hcc⟩ := reads_row HR.out (by have := HN.out; omega)
      subst ha
      have hck := hcc k (by have := HN.out; omega)
      have hst := HS.out k
      have hc0 := HC.out k
      have hxk := HX.out k
      have HW := Lib.hid ((show wrap64 ((offC M k : Int) + xs.getD k 0) = (offC M k : Int) + xs.getD k 0 from IntWalk.wrap64_in _ (by omega)).trans hst.symm)
      clear hst hc0 hxk hcc
      generalize xs.getD k 0 = y at *
      go_wp2_with fail
      go_roundw
      case rel => exact ⟨k + 1, by omega, by go_num, by rw [HW.out], trivial⟩
      case measure => simp [intOf]; omega
    · obtain rfl : k = n := by omega
      go_wp2_with fail
      go_ret
      exact ⟨rfl, rfl⟩

theorem OwnM.formN {W : World} {lo n : Nat} {v : Value} {vs : List Value} {rss : List (List Int)} (h : OwnM W lo v vs rss) (hn : rss.length = n) : ∃ a cap, v = .slice a n cap := by
  subst hn
  exact h.formR
theorem OwnM.atN {W : World} {lo n m cap : Nat} {a : Option Addr} {vs : List Value} {rss : List (List Int)} (h : OwnM W lo (.slice a n cap) vs rss) (hn : rss.length = n) (k : Nat) (hk : k < n) (zs : List Int) (hz : rss[k]? = some zs) (hm : zs.length = m) (h0 : 0 < m) :
    ∃ g gr cr, a = some ⟨g, 0, none⟩ ∧ W.cell? ⟨g, k, none⟩ = some (.slice (some ⟨gr, 0, none⟩) m cr) ∧ Own W lo (.slice (some ⟨gr, 0, none⟩) m cr) zs ∧ ∃ hkv : k < vs.length, vs[k] = .slice (some ⟨gr, 0, none⟩) m cr := by
  have hvl : vs.length = rss.length := h.len.symm
  have hkv : k < vs.length := by omega
  obtain ⟨a', cap', hv, hc⟩ := h.form
  obtain ⟨g, ha, c0⟩ := hc k hkv
  injection hv with e1 e2 e3
  have hrow := h.row k hkv
  have ez : rss[k]'(by omega) = zs := by
    rw [List.getElem?_eq_getElem (by omega)] at hz
    injection hz
  rw [ez] at hrow
  rcases hrow.cases with ⟨_, e⟩ | ⟨gr, cr, e, _⟩
  · subst e
    simp at hm
    omega
  · rw [hm] at e
    rw [e] at c0 hrow
    exact ⟨g, gr, cr, by rw [e1, ha], c0, hrow, hkv, e⟩
theorem rowM6_set (c : Nat) (S : Nat → Int) (q N r j : Nat) (hc : c ≤ 6) : (rowM6 c (mS S q N r j) r).set j (cel S q N r j) = rowM6 c (mS S q N r (j + 1)) r := by
  refine List.ext_getElem (by simp [rowM6]) (fun i h1 h2 => ?_)
  rw [List.getElem_set]
  simp only [rowM6, List.getElem_map, List.getElem_range]
  simp only [rowM6, List.length_map, List.length_range] at h2
  have e1 : (6 * r + i) / 6 = r := by omega
  have e2 : (6 * r + i) % 6 = i := by omega
  unfold mS
  rw [e1, e2]
  by_cases h : j = i
  · subst h
    rw [if_pos rfl, if_pos (by omega)]
  · rw [if_neg h]
    by_cases h3 : i < j
    · rw [if_pos (by omega), if_pos (by omega)]
    · rw [if_neg (by omega), if_neg (by omega)]
theorem rowM6_other (c : Nat) (S : Nat → Int) (q N r j i : Nat) (hi : i ≠ r) (hc : c ≤ 6) : rowM6 c (mS S q N r j) i = rowM6 c (mS S q N r (j + 1)) i := by
  refine List.map_congr_left (fun x hx => ?_)
  have hx2 := List.mem_range.1 hx
  have e1 : (6 * i + x) / 6 = i := by omega
  unfold mS
  rw [e1]
  by_cases h : i < r
  · rw [if_pos (.inl h), if_pos (.inl h)]
  · rw [if_neg (by omega), if_neg (by omega)]
theorem rowsM_set (n c : Nat) (S : Nat → Int) (q N r j : Nat) (hc : c ≤ 6) : (rowsM n c (mS S q N r j)).set r ((rowM6 c (mS S q N r j) r).set j (cel S q N r j)) = rowsM n c (mS S q N r (j + 1)) := by
  rw [rowM6_set c S q N r j hc]
  refine List.ext_getElem (by simp [rowsM]) (fun i h1 h2 => ?_)
  rw [List.getElem_set]
  simp only [rowsM, List.getElem_map, List.getElem_range]
  by_cases h : r = i
  · subst h; rw [if_pos rfl]
  · rw [if_neg h, rowM6_other c S q N r j i (fun e => h e.symm) hc]
theorem rowsM_zero (n c : Nat) (S : Nat → Int) (q N : Nat) : rowsM n c (mS S q N 0 0) = List.replicate n (List.replicate c 0) := by
  rw [mS_zero]
  refine List.ext_getElem (by simp [rowsM]) (fun i h1 h2 => ?_)
  simp only [rowsM, List.getElem_map, List.getElem_replicate, rowM6]
  exact List.ext_getElem (by simp) (fun a b d => by simp)

set_option maxRecDepth 100000 in
set_option maxHeartbeats 12800000 in
theorem weMatrix_any (xs : List Int) (n q N : Nat) (S : Nat → Int) (hxn : xs.length = n) (hSx : S = fun k => xs.getD k 0) (hq : 1 ≤ q ∧ q ≤ 3) (w : World) (a : Option Addr) (p : Nat) (hr : Reads w a n xs) (hn : n ≤ 6) (hSb : ∀ k, 0 ≤ S k ∧ S k ≤ 6) (hSn : ∀ k, S k ≤ n) (hN : N ≤ 6561) :
    Calls Try.prog 39 #[.slice a n p, .int .i64 q, .int .i64 N] w fun e w' => ∃ v vs, e = .returned v ∧ OwnM w' w.heap.size v vs (rowsM n n (mS S q N n 0)) ∧ Below w.heap.size w w' := by
  have hmk : ∀ w, (Instr.makeSlice 22 (.int .i64 (n : Int)) (.int .i64 (n : Int))).run Try.prog w = .ok (.slice (some ⟨w.heap.size, 0, none⟩) n n) (w.alloc (.cells (madeCells #[.int .i64 0] n) 3)) := by
    intro w
    exact run_make_row' (P := Try.prog) 22 3 (.int .i64 0) 8 Try.underlying22 Try.infoI rfl .i64 .i64 n (by omega) (by omega) w
  have HL := Lib.hid (Law.start w).nilM
  have HRD := Lib.hid (show Reads w a xs.length xs by rw [hxn]; exact hr)
  have HXN := Lib.hid hxn
  have HSX := Lib.hid hSx
  have HSB := Lib.hid hSb
  have HSN := Lib.hid hSn
  have hn6 : (n : Int) ≤ 6 := by omega
  have hq0 : (q : Int) ≠ 0 := by omega
  clear hr hxn hSx hSb hSn
  go_enter Try.func39, Try.ntmps39
  go_wp2_with fail
  go_loopw [7, 13] (fun v i wr => ∃ (k : Nat) (vs : List Value), k ≤ n ∧ i = .int .i64 k ∧ Hid (vs.length = k) ∧ Hid (Law w [tM v vs (List.replicate k (List.replicate n 0))] wr)) (fun _ i _ => n - (intOf i).toNat)
  case atStart => exact ⟨0, [], Nat.zero_le _, rfl, rfl, HL.out⟩
  case round =>
    clear HL
    obtain ⟨k, vs, hk, rfl, HV, HLr⟩ := hrel
    rename World => wr
    by_cases hlt : k < n
    · have HL2 := Lib.hid ((HLr.out.own (below_new _) (own_made wr n _ wr.heap.size rfl (Nat.le_refl _) (by omega))).kept (below_new (.cells #[.slice (some ⟨wr.heap.size, 0, none⟩) n n] 22)))
      have hln : vs.length + 1 ≤ 1048576 := by have := HV.out; omega
      go_wp2_with (at_builtin; refine wp_appendM rfl _ _ rfl HL2.out (wr.heap.size + 1) rfl rfl ?c1 rfl hln ?_)
      case c1 => simp
      intro g cp w3 L3
      rw [← List.replicate_succ'] at L3
      have HL3 := Lib.hid L3
      have HV3 : Hid ((vs ++ [Value.slice (some ⟨wr.heap.size, 0, none⟩) n n]).length = k + 1) := by show _ = _; rw [List.length_append, HV.out]; rfl
      clear L3 HL2 hln
      go_wp2_with fail
      go_roundw
      case rel => exact ⟨k + 1, _, by omega, by go_num, HV3.out, by first | exact HL3.out | exact (HV.out ▸ HL3.out)⟩
      case measure => simp [intOf]; omega
    · obtain rfl : k = n := by omega
      have hL := HLr.out
      rw [← rowsM_zero k k S q N] at hL
      obtain ⟨av, cv, rfl⟩ := OwnM.formN hL.ownM (rowsM_len k k _)
      have HL := Lib.hid hL
      clear hL HLr hmk
      go_wp2_with fail
      go_loopw [2, 24] (fun num i wq => ∃ r : Nat, r ≤ k ∧ i = .int .i64 r ∧ num = .int .i64 ((N / q ^ (offC S r) : Nat) : Int) ∧ Hid (Law w [tM (.slice av k cv) vs (rowsM k k (mS S q N r 0))] wq)) (fun _ i _ => k - (intOf i).toNat)
      case atStart => exact ⟨0, Nat.zero_le _, rfl, by simp [offC], HL.out⟩
      case round =>
        clear HL
        obtain ⟨r, hr, rfl, rfl, HLr⟩ := hrel
        rename World => wq
        by_cases hlr : r < k
        · obtain ⟨b, off, ha, hb0, hcc⟩ := reads_row (HRD.out.kept HLr.out.below) (by have := HXN.out; omega)
          subst ha
          have hck := hcc r (by have := HXN.out; omega)
          rw [show xs.getD r 0 = S r by rw [HSX.out]] at hck
          have hSr := HSB.out r
          have hSr2 := HSN.out r
          obtain ⟨c0, hc0⟩ : ∃ c0, c0 = (S r).toNat := ⟨_, rfl⟩
          have ec : S r = (c0 : Int) := by omega
          rw [ec] at hck
          have hc6 : c0 ≤ k := by omega
          have HC0 := Lib.hid hc0
          have HNX := Lib.hid (mS_row S q N r c0 hc0.symm)
          have HOF : Hid (offC S r + c0 = offC S (r + 1)) := by show _ = _; rw [offC, hc0]
          clear hc0 ec hSr hSr2 hcc
          go_wp2_with fail
          go_loopw [2, 10] (fun num i wc => ∃ c : Nat, c ≤ c0 ∧ i = .int .i64 c ∧ num = .int .i64 ((N / q ^ (offC S r + c) : Nat) : Int) ∧ Hid (Law w [tM (.slice av k cv) vs (rowsM k k (mS S q N r c))] wc)) (fun _ i _ => c0 - (intOf i).toNat)
          case atStart => exact ⟨0, Nat.zero_le _, rfl, rfl, HLr.out⟩
          case round =>
            clear HLr hck
            obtain ⟨c, hc, rfl, rfl, HLc⟩ := hrel
            rename World => wc
            by_cases hlc : c < c0
            · have hcel := cel_in S q N r c (by rw [← HC0.out]; exact hlc)
              have hstep := num_step N q (offC S r + c)
              have hset := rowsM_set k k S q N r c hn
              have hM0 : N / q ^ (offC S r + c) ≤ 6561 := Nat.le_trans (Nat.div_le_self _ _) hN
              obtain ⟨M, hM⟩ : ∃ M, M = N / q ^ (offC S r + c) := ⟨_, rfl⟩
              rw [← hM] at hcel hstep hM0 ⊢
              have HCL := Lib.hid hcel
              have HST := Lib.hid hstep
              have HSET := Lib.hid hset
              have hmod := mod_small M q hM0
              have hd1 := (div_small M q hM0).1
              have hd2 := (div_small M q hM0).2
              clear hcel hstep hset hM
              have LD := HLc.out.drew
              obtain ⟨g, gr, cr, rfl, cg, hO, hkv, er⟩ := OwnM.atN (n := k) LD.ownM (rowsM_len k k _) r hlr (rowM6 k (mS S q N r c) r) (by rw [List.getElem?_eq_getElem (by rw [rowsM_len]; exact hlr), rowsM_get]) (rowM6_len k _ r) (by omega)
              have hcx : wc.drew.cell? ⟨gr, c, none⟩ = some (.int .i64 ((rowM6 k (mS S q N r c) r).getD c 0)) := Own.cell (by rw [rowM6_len]; exact hO) c (by rw [rowM6_len]; omega)
              have hfx : wc.drew.frozen? ⟨gr, c, none⟩ = false := Own.free (xs := rowM6 k (mS S q N r c) r) (by rw [rowM6_len]; exact hO) c
              have hs1 := own_store hO (rowM6_len k _ r) c (cel S q N r c)
              have hs2 := (World.ownsRow.stored (by unfold Own at hO; rw [rowM6_len] at hO; exact hO) c (.int .i64 (cel S q N r c))).2
              have OM := LD.ownM.write r hkv (ys := (rowM6 k (mS S q N r c) r).set c (cel S q N r c)) (by rw [er]; exact hs1) (by rw [er]; exact hs2)
              have L4 := Law.markM (ts := []) LD (Chg.of_grown hs2 (fun j e => .inr ⟨_, List.getElem_mem hkv, by rw [er]; first | exact e | (rw [e]; rfl)⟩)) OM
              rw [HSET.out] at L4
              have HL4 := Lib.hid L4
              have hcr : (c : Int) < k := by omega
              have hc00 : (c : Int) < c0 := by omega
              have hrr : (r : Int) < k := by omega
              clear L4 OM hs1 hs2 hO er LD HLc
              generalize (rowM6 k (mS S q N r c) r).getD c 0 = old at *
              go_upto_region 12 with fail
              go_region
              rw [show ((M : Int) % (q : Int)) = cel S q N r c by rw [HCL.out]; exact (Int.natCast_emod M q).symm]
              have HL5 : Hid (Law w [tM (.slice (some ⟨g, 0, none⟩) k cv) vs (rowsM k k (mS S q N r (c + 1)))] (wc.setCell ⟨gr, c, none⟩ (.int .i64 (cel S q N r c))).drew) := HL4.out
              clear cg hcx hfx HL4
              generalize (wc.setCell _ _).drew = wd at *
              go_wp2_with fail
              go_roundw
              case rel => exact ⟨c + 1, by omega, by go_num, by rw [show offC S r + (c + 1) = offC S r + c + 1 from rfl, ← HST.out]; push_cast; rw [div_wr M q hM0], HL5.out⟩
              case measure => simp [intOf]; omega
            · obtain rfl : c = c0 := by omega
              go_wp2_with fail
              go_roundw
              case rel => exact ⟨r + 1, by omega, by go_num, by rw [← HOF.out], by rw [← HNX.out]; exact HLc.out⟩
              case measure => simp [intOf]; omega
        · obtain rfl : r = k := by omega
          go_wp2_with fail
          go_ret
          exact ⟨_, vs, rfl, HLr.out.ownMLo, HLr.out.below⟩

end Go.Proofs.Ytabfiafjcnilnaa
