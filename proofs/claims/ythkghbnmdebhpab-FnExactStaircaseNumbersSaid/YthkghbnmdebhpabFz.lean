/- Rook numbers of a series; both texts of the numbers of lengths. No condition but the sizes. -/
import Derived.Test.YthkghbnmdebhpabFx
namespace Go.Proofs.Ythkghbnmdebhpab
open Go.RowKit Go.WideShapes

set_option maxRecDepth 100000 in
set_option maxHeartbeats 3200000 in
theorem rookNumbers3_any (xs : List Int) (M : Nat → Int) (w : World) (h6 : xs.length ≤ 6) (hbd : ∀ k, 0 ≤ xs.getD k 0 ∧ xs.getD k 0 ≤ 6) (hs : sortB xs = true) (hM : ∀ k, k < 6 → M k = xs.getD k 0) :
    Calls Try.prog 50 #[sv xs.length M] w fun e w' => ∃ s, e = .returned s ∧ Own w' w.heap.size s (numLen xs) ∧ Below w.heap.size w w' := by
  have L0 := (Law.start w).has (sl xs.length M) 64
  have hz := numS_zero xs (fun k => (hbd k).1) (fun i j hij hj => sortB_up hs i j hij hj)
  obtain ⟨n, hn⟩ : ∃ n, n = xs.length := ⟨_, rfl⟩
  rw [show numLen xs = lstI (n + 1) (numS xs n) by rw [hn]; rfl]
  have hno := fun i (hi : i ≤ 6) j => numS_in xs (fun k => (hbd k).2) i j hi
  rw [← hn] at h6 L0 hz ⊢
  have HNO := Lib.hid hno
  have HBD := Lib.hid hbd
  have HZ := Lib.hid hz
  have HM := Lib.hid hM
  have HL0 := Lib.hid L0
  have HSO := Lib.hid (show ∀ i, i < n → 0 < i → xs.getD (i - 1) 0 ≤ xs.getD i 0 from fun i hi h0 => sortB_up hs (i - 1) i (by omega) (by omega))
  clear hn hno hbd hz hM hs L0
  have hmk : ∀ w, (Instr.makeSlice 22 (.int .i64 ((n : Int) + 1)) (.int .i64 ((n : Int) + 1))).run Try.prog w = .ok (.slice (some ⟨w.heap.size, 0, none⟩) (n + 1) (n + 1)) (w.alloc (.cells (madeCells #[.int .i64 0] (n + 1)) 3)) := by
    intro w
    have := run_make_row' (P := Try.prog) 22 3 (.int .i64 0) 8 Try.underlying22 Try.infoI rfl .i64 .i64 (n + 1) (by omega) (by omega) w
    rw [show ((n : Int) + 1) = ((n + 1 : Nat) : Int) by push_cast; rfl]
    exact this
  go_enter Try.func50, Try.ntmps50
  go_upto_region 1 with fail
  generalize w.alloc _ = w4 at *
  have ⟨e0, _⟩ := HL0.out.ownHas.seven
  have L1 := HL0.out.own (below_new _) (own_made w4 (n + 1) _ w4.heap.size rfl (Nat.le_refl _) (by omega))
  rw [lstI_zero] at L1
  have hS0 := Law.store (ts := []) L1 (lstI_len _ _) 0 1
  rw [num_start xs n] at hS0
  have o0 := L1.ownInts
  have d1 := Own.cell (by rw [lstI_len]; exact o0) 0 (by rw [lstI_len]; omega)
  have d2 := Own.free (by rw [lstI_len]; exact o0) 0
  rw [lstI_get _ _ 0 (by omega)] at d1
  have hb0 := HL0.out.ownHas.lt
  have d3 := hS0.tl.ownHas.cell 0
  have HL := Lib.hid hS0
  clear hS0 o0 L1 HL0
  go_upto_region 2 with fail
  generalize w4.alloc (.cells (madeCells #[.int .i64 0] (n + 1)) 3) = w5 at *
  clear hmk
  have hn0 : 0 < n + 1 := by omega
  go_upto_region 3 with fail
  generalize w5.setCell _ _ = w6 at *
  have ⟨e1, _⟩ := HL.out.tl.ownHas.seven
  clear d1 d2 hn0 e0
  go_wp2_with fail
  clear e1 d3
  go_loopw [14] (fun i wr => ∃ k : Nat, k ≤ n ∧ i = .int .i64 k ∧ Law w [tOwn (.slice (some ⟨w4.heap.size, 0, none⟩) (n + 1) (n + 1)) (lstI (n + 1) (numS xs k)), tHas w.heap.size (sl n M) 64] wr) (fun i _ => n - (intOf i).toNat)
  case atStart => exact ⟨0, Nat.zero_le _, rfl, HL.out⟩
  case round =>
    clear HL
    obtain ⟨i, hi, rfl, L⟩ := hrel
    obtain ⟨wo, rfl⟩ : ∃ wo : World, wo = wr := ⟨_, rfl⟩
    by_cases hlt : i < n
    · have hm := HBD.out i
      have HMI := Lib.hid (HM.out i (by omega))
      have HNX := Lib.hid (numS_succ xs i)
      have hz := HZ.out i (by omega)
      have hzz : ∀ j : Nat, (i < j ∨ xs.getD i 0 < j) → numS xs i j = 0 := by
        intro j h
        rcases h with h | h
        · exact hz j (.inl h)
        · by_cases h0 : i = 0
          · exact hz j (.inl (by omega))
          · have := HSO.out i hlt (by omega)
            exact hz j (.inr ⟨by omega, by omega⟩)
      obtain ⟨f, hf⟩ : ∃ f, f = numS xs i := ⟨_, rfl⟩
      have HFB := Lib.hid (show ∀ j, 0 ≤ f j ∧ f j ≤ 117649 from fun j => by rw [hf]; exact HNO.out i (by omega) j)
      rw [← hf] at L HNX hzz
      have e0 := L.tl.ownHas.cell 0
      simp only [List.getElem?_cons_zero] at e0
      generalize xs.getD i 0 = m at *
      rw [lstI_congr (n + 1) f (midS m f (i + 1)) (fun k hk => by
        by_cases h : i + 1 < k
        · unfold midS
          rw [if_pos h, rowS, if_neg (by omega), hzz k (.inl (by omega)), hzz (k - 1) (.inl (by omega))]
          simp
        · exact (midS_at m f _ k (by omega)).symm)] at L
      have HL := Lib.hid L
      have HZZ := Lib.hid hzz
      clear L hf hz hzz e0
      go_wp2_with fail
      go_loopw [5] (fun v wr => (∃ k : Nat, k ≤ i ∧ v = .int .i64 k ∧ Law w [tOwn (.slice (some ⟨w4.heap.size, 0, none⟩) (n + 1) (n + 1)) (lstI (n + 1) (midS m f (k + 1))), tHas w.heap.size (sl n M) 64] wr) ∨ (v = .int .i64 (-1) ∧ Law w [tOwn (.slice (some ⟨w4.heap.size, 0, none⟩) (n + 1) (n + 1)) (lstI (n + 1) (midS m f 0)), tHas w.heap.size (sl n M) 64] wr)) (fun v _ => (intOf v + 1).toNat)
      case atStart => exact .inl ⟨i, Nat.le_refl _, rfl, HL.out⟩
      case round =>
        clear HL
        obtain ⟨wo2, rfl⟩ : ∃ wo : World, wo = wr := ⟨_, rfl⟩
        rcases hrel with ⟨k, hk, rfl, L⟩ | ⟨rfl, L⟩
        · have o := L.ownInts
          have c1 := Own.cell (by rw [lstI_len]; exact o) (k + 1) (by rw [lstI_len]; omega)
          have c2 := Own.cell (by rw [lstI_len]; exact o) k (by rw [lstI_len]; omega)
          have c3 := Own.free (by rw [lstI_len]; exact o) (k + 1)
          rw [lstI_get _ _ (k + 1) (by omega), midS_at _ _ _ _ (Nat.le_refl _)] at c1
          rw [lstI_get _ _ k (by omega), midS_at _ _ _ _ (by omega)] at c2
          have c4 := L.tl.ownHas.cell (1 + i)
          rw [sl_get _ _ i (by omega), HMI.out] at c4
          have y1 := HFB.out (k + 1)
          have y2 := HFB.out k
          obtain ⟨v, hv⟩ : ∃ v, v = f k * (m - k) := ⟨_, rfl⟩
          have hve : v = f k * max 0 (m - k) := by
            by_cases h : m < k
            · rw [hv, HZZ.out k (.inr h)]; simp
            · rw [hv, show max 0 (m - (k : Int)) = m - k by omega]
          have hpr := mul6 (f k) (max 0 (m - k)) 117649 y2 (by omega)
          rw [← hve] at hpr
          have hw1 : IntKind.i64.wrap (f k * (m - k)) = v := by rw [← hv]; exact IntWalk.i64_in _ (by omega)
          have hw2 : wrap64 (f k * (m - k)) = v := by rw [← hv]; exact IntWalk.wrap64_in _ (by omega)
          have hw3 : IntKind.i64.wrap (f (k + 1) + v) = f (k + 1) + v := IntWalk.i64_in _ (by omega)
          have hw3' : wrap64 (f (k + 1) + v) = f (k + 1) + v := IntWalk.wrap64_in _ (by omega)
          have hw4 : IntKind.i64.wrap (m - (k : Int)) = m - (k : Int) := IntWalk.i64_in _ (by omega)
          have hk1 : (0 : Int) ≤ (k : Int) := by omega
          have hk2 : (0 : Int) ≤ (k : Int) + 1 := by omega
          have hk3 : ((k : Int) + 1).toNat = k + 1 := by omega
          have hk4 : (k : Int) + 1 < (n : Int) + 1 := by omega
          have hk5 : (k : Int) < (n : Int) + 1 := by omega
          have hka : k < n + 1 := by omega
          have hkb : k + 1 < n + 1 := by omega
          have hS := Law.store (ts := []) L (lstI_len _ _) (k + 1) (f (k + 1) + v)
          rw [lstI_set (n + 1) _ (midS m f k) (k + 1) _ (by rw [midS_step, hve]) (fun j _ hj => midS_ne m f k j hj)] at hS
          have HS := Lib.hid hS.drew
          generalize f (k + 1) = y at *
          generalize f k = z at *
          clear L hS o y1 y2 hv hve hpr
          go_wp2_with fail
          go_region
          go_wp2_with fail
          go_roundw
          case rel =>
            by_cases hk0 : k = 0
            · subst hk0
              exact .inr ⟨rfl, HS.out⟩
            · exact .inl ⟨k - 1, by omega, by rw [show (k : Int) - 1 = ((k - 1 : Nat) : Int) by omega], by rw [show k - 1 + 1 = k by omega]; exact HS.out⟩
          case measure => simp [intOf]
        · rw [lstI_congr (n + 1) (midS m f 0) (numS xs (i + 1)) (fun j _ => by rw [midS_end, HNX.out])] at L
          have HL := Lib.hid L
          clear L
          go_wp2_with fail
          go_roundw
          case rel => exact ⟨i + 1, by omega, by go_num, HL.out⟩
          case measure => simp [intOf]; omega
    · obtain rfl : i = n := by omega
      have HL := Lib.hid L
      clear L
      go_wp2_with fail
      go_ret
      exact ⟨_, rfl, HL.out.ownLo, HL.out.below⟩

def numR (xs : List Int) : LR := if lenB xs then ⟨numLen xs, true⟩ else ⟨[], false⟩
theorem numR_len (xs : List Int) : (numR xs).ys.length ≤ 1048576 := by
  unfold numR
  split
  · rename_i h
    have := len_facts h
    show (numLen xs).length ≤ _
    rw [numLen_len]
    omega
  · simp



/-- 0, 1, .. -/
def stairL (n : Nat) : List Int := (List.range n).map (fun (i : Nat) => (i : Int))
theorem stairL_len (n : Nat) : (stairL n).length = n := by simp [stairL]
theorem stairL_get (n k : Nat) (h : k < n) : (stairL n).getD k 0 = k := by simp [stairL, List.getD, h]
theorem stairL_bd (n : Nat) (h6 : n ≤ 6) (k : Nat) : 0 ≤ (stairL n).getD k 0 ∧ (stairL n).getD k 0 ≤ 6 := by
  by_cases h : k < n
  · rw [stairL_get n k h]; omega
  · rw [List.getD_eq_getElem?_getD, List.getElem?_eq_none (by rw [stairL_len]; omega)]; simp
theorem stairL_sort (n : Nat) : sortB (stairL n) = true := by
  rw [sortB_iff]
  intro k hk
  rw [stairL_len] at hk
  rw [stairL_get n k (by omega), stairL_get n (k + 1) hk]
  omega
theorem stairL_snoc (n : Nat) : stairL n ++ [(n : Int)] = stairL (n + 1) := by simp [stairL, List.range_succ]
/-- What StaircaseNumbers answers. -/
def stairR (n : Int) : LR := if inB 1 n 6 then ⟨numLen (stairL n.toNat), true⟩ else ⟨[], false⟩
theorem stairR_len (n : Int) : (stairR n).ys.length ≤ 1048576 := by
  unfold stairR
  split
  · rename_i h
    have := inB_iff.1 h
    show (numLen _).length ≤ _
    rw [numLen_len, stairL_len]
    omega
  · simp

end Go.Proofs.Ythkghbnmdebhpab
