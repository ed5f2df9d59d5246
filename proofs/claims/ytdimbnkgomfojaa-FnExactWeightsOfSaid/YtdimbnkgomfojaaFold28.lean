import Derived.Test.YtdimbnkgomfojaaFold24
import Derived.Test.YtdimbnkgomfojaaFold25
import Derived.Test.YtdimbnkgomfojaaFold27
import Derived.Deep.RegionWith

section
namespace Go.Proofs.Ytdimbnkgomfojaa
open Go.RowKit Go.WideShapes

theorem celN_far (xs : List Int) (n N : Nat) (h : xs.length ≤ n) (hN : n ≤ N) : celN xs N = celN xs n := by
  induction N with
  | zero => rw [show n = 0 by omega]
  | succ N ih =>
    by_cases e : n = N + 1
    · rw [e]
    · rw [celN, ih (by omega), show lenN xs N = 0 by unfold lenN; rw [getD_far xs N (by omega)]; rfl]
      rfl
theorem celN_le (xs : List Int) (h : ∀ k, 0 ≤ xs.getD k 0 ∧ xs.getD k 0 ≤ 6) (k : Nat) : celN xs k ≤ 6 * k := by
  induction k with
  | zero => exact Nat.le_refl _
  | succ k ih =>
    have := h k
    rw [celN]
    unfold lenN
    omega
set_option maxRecDepth 100000 in
set_option maxHeartbeats 1600000 in
theorem cells_any (n : Nat) (xs : List Int) (M : Nat → Int) (w : World) (hn : xs.length = n) (hn6 : n ≤ 6) (hM : ∀ k, M k = xs.getD k 0) (hx : ∀ k, 0 ≤ xs.getD k 0 ∧ xs.getD k 0 ≤ 6) :
    Calls Try.prog 122 #[sv n M] w fun e w' => e = .returned (.int .i64 (celN xs n : Nat)) ∧ Below w.heap.size w w' := by
  have L0 := (Law.start w).has (sl n M) 88
  rw [show (w.alloc (.cells (sl n M).toArray 88)) = (w.alloc (.cells #[.int .i64 n, .int .i64 (M 0), .int .i64 (M 1), .int .i64 (M 2), .int .i64 (M 3), .int .i64 (M 4), .int .i64 (M 5)] 88)) from rfl] at L0
  have HC := Lib.hid (celN_le xs hx)
  have HE := Lib.hid (celN_far xs n 6 (by omega) hn6)
  have HX := Lib.hid hx
  have HM := Lib.hid hM
  have HL := Lib.hid L0
  have hs : ∀ j, j < 6 → (celN xs (j + 1) : Int) = (celN xs j : Int) + M j := fun j hj => by
    have := hx j
    rw [celN, hM]
    unfold lenN
    omega
  have HS := Lib.hid hs
  clear hn hx hM L0 hs
  obtain ⟨e0, e1, e2, e3, e4, e5, e6, _⟩ := HL.out.ownHas.seven
  go_enter Try.func122, Try.ntmps122
  go_wp2_with fail
  clear e0 e1 e2 e3 e4 e5 e6
  go_loopw [3, 8] (fun f i wr => ∃ k : Nat, k ≤ 6 ∧ i = .int .i64 k ∧ f = .int .i64 (celN xs k : Nat) ∧ Law w [tHas w.heap.size (sl n M) 88] wr) (fun _ i _ => 6 - (intOf i).toNat)
  case atStart => exact ⟨0, Nat.zero_le _, rfl, rfl, HL.out⟩
  case round =>
    clear HL
    obtain ⟨k, hk, rfl, rfl, L⟩ := hrel
    have HL := Lib.hid L
    clear L
    by_cases hlt : k < 6
    · have h6 : k = 0 ∨ k = 1 ∨ k = 2 ∨ k = 3 ∨ k = 4 ∨ k = 5 := by omega
      clear hk hlt
      rcases h6 with rfl | rfl | rfl | rfl | rfl | rfl
      · have hs := HS.out 0 (by omega)
        simp only [Nat.reduceAdd] at hs
        have hc := HC.out 0
        have hc1 := HC.out 1
        have hw : wrap64 ((celN xs 0 : Int) + M 0) = (celN xs 0 : Int) + M 0 := IntWalk.wrap64_in _ (by omega)
        have HW := Lib.hid (hw.trans hs.symm)
        clear hs hc hc1 hw
        generalize (celN xs 0 : Int) = S at *
        rw [show ((0 : Nat) : Int) = 0 from rfl]
        have hidx : ∀ w, (Instr.index 57 (.agg #[.int .i64 (M 0), .int .i64 (M 1), .int .i64 (M 2), .int .i64 (M 3), .int .i64 (M 4), .int .i64 (M 5)]) (.int .i64 0)).run Try.prog w = .ok (.int .i64 (M 0)) w := fun _ => by kernel_rfl
        go_wp2_with fail
        go_roundw
        case rel => exact ⟨1, by omega, by first | rfl | go_num, by rw [HW.out], HL.out⟩
        case measure => simp [intOf]
      · have hs := HS.out 1 (by omega)
        simp only [Nat.reduceAdd] at hs
        have hc := HC.out 1
        have hc1 := HC.out 2
        have hw : wrap64 ((celN xs 1 : Int) + M 1) = (celN xs 1 : Int) + M 1 := IntWalk.wrap64_in _ (by omega)
        have HW := Lib.hid (hw.trans hs.symm)
        clear hs hc hc1 hw
        generalize (celN xs 1 : Int) = S at *
        rw [show ((1 : Nat) : Int) = 1 from rfl]
        have hidx : ∀ w, (Instr.index 57 (.agg #[.int .i64 (M 0), .int .i64 (M 1), .int .i64 (M 2), .int .i64 (M 3), .int .i64 (M 4), .int .i64 (M 5)]) (.int .i64 1)).run Try.prog w = .ok (.int .i64 (M 1)) w := fun _ => by kernel_rfl
        go_wp2_with fail
        go_roundw
        case rel => exact ⟨2, by omega, by first | rfl | go_num, by rw [HW.out], HL.out⟩
        case measure => simp [intOf]
      · have hs := HS.out 2 (by omega)
        simp only [Nat.reduceAdd] at hs
        have hc := HC.out 2
        have hc1 := HC.out 3
        have hw : wrap64 ((celN xs 2 : Int) + M 2) = (celN xs 2 : Int) + M 2 := IntWalk.wrap64_in _ (by omega)
        have HW := Lib.hid (hw.trans hs.symm)
        clear hs hc hc1 hw
        generalize (celN xs 2 : Int) = S at *
        rw [show ((2 : Nat) : Int) = 2 from rfl]
        have hidx : ∀ w, (Instr.index 57 (.agg #[.int .i64 (M 0), .int .i64 (M 1), .int .i64 (M 2), .int .i64 (M 3), .int .i64 (M 4), .int .i64 (M 5)]) (.int .i64 2)).run Try.prog w = .ok (.int .i64 (M 2)) w := fun _ => by kernel_rfl
        go_wp2_with fail
        go_roundw
        case rel => exact ⟨3, by omega, by first | rfl | go_num, by rw [HW.out], HL.out⟩
        case measure => simp [intOf]
      · have hs := HS.out 3 (by omega)
        simp only [Nat.reduceAdd] at hs
        have hc := HC.out 3
        have hc1 := HC.out 4
        have hw : wrap64 ((celN xs 3 : Int) + M 3) = (celN xs 3 : Int) + M 3 := IntWalk.wrap64_in _ (by omega)
        have HW := Lib.hid (hw.trans hs.symm)
        clear hs hc hc1 hw
        generalize (celN xs 3 : Int) = S at *
        rw [show ((3 : Nat) : Int) = 3 from rfl]
        have hidx : ∀ w, (Instr.index 57 (.agg #[.int .i64 (M 0), .int .i64 (M 1), .int .i64 (M 2), .int .i64 (M 3), .int .i64 (M 4), .int .i64 (M 5)]) (.int .i64 3)).run Try.prog w = .ok (.int .i64 (M 3)) w := fun _ => by kernel_rfl
        go_wp2_with fail
        go_roundw
        case rel => exact ⟨4, by omega, by first | rfl | go_num, by rw [HW.out], HL.out⟩
        case measure => simp [intOf]
      · have hs := HS.out 4 (by omega)
        simp only [Nat.reduceAdd] at hs
        have hc := HC.out 4
        have hc1 := HC.out 5
        have hw : wrap64 ((celN xs 4 : Int) + M 4) = (celN xs 4 : Int) + M 4 := IntWalk.wrap64_in _ (by omega)
        have HW := Lib.hid (hw.trans hs.symm)
        clear hs hc hc1 hw
        generalize (celN xs 4 : Int) = S at *
        rw [show ((4 : Nat) : Int) = 4 from rfl]
        have hidx : ∀ w, (Instr.index 57 (.agg #[.int .i64 (M 0), .int .i64 (M 1), .int .i64 (M 2), .int .i64 (M 3), .int .i64 (M 4), .int .i64 (M 5)]) (.int .i64 4)).run Try.prog w = .ok (.int .i64 (M 4)) w := fun _ => by kernel_rfl
        go_wp2_with fail
        go_roundw
        case rel => exact ⟨5, by omega, by first | rfl | go_num, by rw [HW.out], HL.out⟩
        case measure => simp [intOf]
      · have hs := HS.out 5 (by omega)
        simp only [Nat.reduceAdd] at hs
        have hc := HC.out 5
        have hc1 := HC.out 6
        have hw : wrap64 ((celN xs 5 : Int) + M 5) = (celN xs 5 : Int) + M 5 := IntWalk.wrap64_in _ (by omega)
        have HW := Lib.hid (hw.trans hs.symm)
        clear hs hc hc1 hw
        generalize (celN xs 5 : Int) = S at *
        rw [show ((5 : Nat) : Int) = 5 from rfl]
        have hidx : ∀ w, (Instr.index 57 (.agg #[.int .i64 (M 0), .int .i64 (M 1), .int .i64 (M 2), .int .i64 (M 3), .int .i64 (M 4), .int .i64 (M 5)]) (.int .i64 5)).run Try.prog w = .ok (.int .i64 (M 5)) w := fun _ => by kernel_rfl
        go_wp2_with fail
        go_roundw
        case rel => exact ⟨6, by omega, by first | rfl | go_num, by rw [HW.out], HL.out⟩
        case measure => simp [intOf]
    · obtain rfl : k = 6 := by omega
      rw [HE.out, show ((6 : Nat) : Int) = 6 from rfl]
      go_wp2_with fail
      go_ret
      exact ⟨rfl, HL.out.below⟩

/-- What stands in a listed placement. -/
theorem pl_vals (m : Nat) (B : Nat → Nat → Bool) (d : Nat) : ∀ f t k, ∀ P ∈ pl m B d f t k, ∀ i, i < d → P.getD i 0 = -1 ∨ ∃ c : Nat, P.getD i 0 = c ∧ c < m ∧ B (f + i) c = true := by
  induction d with
  | zero => intro f t k P _ i hi; omega
  | succ d ih =>
    intro f t k P h i hi
    rw [pl, List.mem_append, List.mem_map, List.mem_flatMap] at h
    rcases h with ⟨Q, hQ, rfl⟩ | ⟨c, hc, h⟩
    · cases i with
      | zero => exact .inl rfl
      | succ i =>
        have := ih _ _ _ Q hQ i (by omega)
        rw [show f + (i + 1) = f + 1 + i by omega]
        simpa using this
    · split at h
      · rename_i hb
        simp only [Bool.and_eq_true, decide_eq_true_eq] at hb
        obtain ⟨Q, hQ, rfl⟩ := List.mem_map.1 h
        cases i with
        | zero => exact .inr ⟨c, rfl, List.mem_range.1 hc, hb.2.1⟩
        | succ i =>
          have := ih _ _ _ Q hQ i (by omega)
          rw [show f + (i + 1) = f + 1 + i by omega]
          simpa using this
      · simp at h
theorem tkn_small (P : List Int) (n : Nat) (h : ∀ i, i < n → P.getD i 0 = -1 ∨ (0 ≤ P.getD i 0 ∧ P.getD i 0 < 6)) (i : Nat) (hi : i ≤ n) : tkn P i < 64 := by
  induction i with
  | zero => simp [tkn]
  | succ i ih =>
    have := ih (by omega)
    rw [tkn]
    split
    · exact this
    · rename_i he
      rcases h i (by omega) with h | h
      · exact absurd h he
      · exact Nat.or_lt_two_pow (n := 6) this (Nat.pow_lt_pow_right (by omega) (by omega))
theorem bM_msk (xs : List Int) (M : Nat → Int) (n : Nat) (hn : xs.length = n) (hM : ∀ k, M k = xs.getD k 0) (hx : ∀ k, 0 ≤ xs.getD k 0) : bM (mskG M n) = bLen xs := by
  funext f c
  unfold bM bLen mskG lenN
  by_cases h : f < n
  · rw [if_pos h, hM]
    obtain ⟨l, hl⟩ := Int.eq_ofNat_of_zero_le (hx f)
    rw [hl]
    have : (pw (l : Int) - 1).toNat = 2 ^ l - 1 := by
      unfold pw
      rw [Int.toNat_natCast]
      have : 0 < 2 ^ l := Nat.pow_pos (by omega)
      have h2 : ((2 : Int) ^ l) = ((2 ^ l : Nat) : Int) := by push_cast; rfl
      rw [h2]
      omega
    rw [this, Nat.testBit_two_pow_sub_one, Int.toNat_natCast]
  · rw [if_neg h, getD_far xs f (by omega)]
    simp

/-- The counts so far. -/
def cntW (xs : List Int) (LL : List (List Int)) (j e : Nat) : Int := (gW xs (LL.take j) e : Nat)
theorem cntW_zero (xs : List Int) (LL : List (List Int)) (N : Nat) : List.replicate N (0 : Int) = lstI N (cntW xs LL 0) := by
  rw [lstI_zero]
  exact lstI_congr _ _ _ (fun k _ => by simp [cntW, gW_nil])
theorem cntW_succ (xs : List Int) (LL : List (List Int)) (j : Nat) (P : List Int) (h : LL[j]? = some P) (e : Nat) : cntW xs LL (j + 1) e = cntW xs LL j e + if freeW xs P 0 0 = e then 1 else 0 := by
  obtain ⟨hj, hP⟩ := List.getElem?_eq_some_iff.1 h
  unfold cntW
  rw [List.take_succ_eq_append_getElem hj, hP, gW_snoc]
  push_cast
  congr 1
  split <;> rfl
theorem cntW_set (xs : List Int) (LL : List (List Int)) (j N : Nat) (P : List Int) (h : LL[j]? = some P) : (lstI N (cntW xs LL j)).set (freeW xs P 0 0) (cntW xs LL j (freeW xs P 0 0) + 1) = lstI N (cntW xs LL (j + 1)) :=
  lstI_set N _ _ _ _ (by rw [cntW_succ xs LL j P h, if_pos rfl]) (fun k _ hk => by rw [cntW_succ xs LL j P h, if_neg (fun e => hk e.symm), Int.add_zero])
theorem cntW_bd (xs : List Int) (LL : List (List Int)) (j e : Nat) (h : LL.length ≤ 1000000) : 0 ≤ cntW xs LL j e ∧ cntW xs LL j e ≤ 1000000 := by
  have := gW_le xs (LL.take j) e
  rw [List.length_take] at this
  unfold cntW
  omega
end Go.Proofs.Ytdimbnkgomfojaa
end

section
namespace Go.Proofs.Ytdimbnkgomfojaa
open Go.RowKit Go.WideShapes

/-- What the visitor keeps behind j placements. -/
structure InvW (bw bs g N n : Nat) (M : Nat → Int) (xs : List Int) (LL : List (List Int)) (j : Nat) (w : World) : Prop where
  box : Has w bw [.slice (some ⟨g, 0, none⟩) N N] 22
  ser : Has w bs (sl n M) 88
  row : Own w 0 (.slice (some ⟨g, 0, none⟩) N N) (lstI N (cntW xs LL j))
theorem InvW.stay {bw bs g N n : Nat} {M : Nat → Int} {xs : List Int} {LL : List (List Int)} {j : Nat} {w w' : World} (h : InvW bw bs g N n M xs LL j w) {bp : Nat} (hc : Chg (fun b => b = bp) w w') (h1 : bw ≠ bp) (h2 : bs ≠ bp) (h3 : g ≠ bp) : InvW bw bs g N n M xs LL j w' := by
  refine ⟨Chg.has hc h1 h.box, Chg.has hc h2 h.ser, ?_⟩
  exact World.ownsRow.kept h.row (row := some bp) ⟨hc.os, hc.tape, hc.output, hc.size, fun k hk hn => hc.block k hk (fun e => hn (by rw [e]))⟩ (.inr (by simp [Value.ownBlock]; exact h3))
theorem InvW.below {bw bs g N n : Nat} {M : Nat → Int} {xs : List Int} {LL : List (List Int)} {j : Nat} {w w' : World} (h : InvW bw bs g N n M xs LL j w) (hb : Below w.heap.size w w') : InvW bw bs g N n M xs LL j w' :=
  ⟨h.box.kept hb h.box.lt, h.ser.kept hb h.ser.lt, h.row.kept hb⟩

set_option maxRecDepth 100000 in
set_option maxHeartbeats 6400000 in
theorem visW_any (bw bs g N n : Nat) (xs P : List Int) (M : Nat → Int) (LL : List (List Int)) (j : Nat) (w : World) (hbw : bw ≠ g) (hbs : bs ≠ g) (hLL : LL.length ≤ 1000000)
    (hfc : ∀ W, Calls Try.prog 125 #[sv n M, pv6 (plF P n)] W fun e w' => e = .returned (.int .i64 (freeW xs P 0 0 : Nat)) ∧ Below W.heap.size W w') (hF : freeW xs P 0 0 < N) (hP : LL[j]? = some P) (hI : InvW bw bs g N n M xs LL j w) :
    Calls Try.prog 124 (#[pv6 (plF P n)] ++ #[.pointer (some ⟨bw, 0, none⟩), .pointer (some ⟨bs, 0, none⟩)]) w fun e w' => e = .returned (.bool true) ∧ InvW bw bs g N n M xs LL (j + 1) w' ∧ Chg (fun b => b = g) w w' := by
  have hset := cntW_set xs LL j N P hP
  have hbd := cntW_bd xs LL j (freeW xs P 0 0) hLL
  have hx1 : IntKind.i64.wrap (cntW xs LL j (freeW xs P 0 0) + 1) = cntW xs LL j (freeW xs P 0 0) + 1 := IntWalk.i64_in _ (by omega)
  have hx2 : wrap64 (cntW xs LL j (freeW xs P 0 0) + 1) = cntW xs LL j (freeW xs P 0 0) + 1 := IntWalk.wrap64_in _ (by omega)
  have hf0 : (0 : Int) ≤ (freeW xs P 0 0 : Nat) := by omega
  have hf1 : ((freeW xs P 0 0 : Nat) : Int) < (N : Int) := by omega
  have HFC := Lib.hid hfc
  have HSET := Lib.hid hset
  have hnew := Has.new w (pl6 (plF P n)) 70
  rw [show w.alloc (.cells (pl6 (plF P n)).toArray 70) = w.alloc (.cells #[.int .i64 (plF P n 0), .int .i64 (plF P n 1), .int .i64 (plF P n 2), .int .i64 (plF P n 3), .int .i64 (plF P n 4), .int .i64 (plF P n 5)] 70) from rfl] at hnew
  have hI1 := hI.below (below_new (.cells #[.int .i64 (plF P n 0), .int .i64 (plF P n 1), .int .i64 (plF P n 2), .int .i64 (plF P n 3), .int .i64 (plF P n 4), .int .i64 (plF P n 5)] 70))
  have hB := below_new (w := w) (.cells #[.int .i64 (plF P n 0), .int .i64 (plF P n 1), .int .i64 (plF P n 2), .int .i64 (plF P n 3), .int .i64 (plF P n 4), .int .i64 (plF P n 5)] 70)
  have hcy := fun (W : World) (h : Own W 0 (.slice (some ⟨g, 0, none⟩) N N) (lstI N (cntW xs LL j))) => Own.cell (by rw [lstI_len]; exact h) (freeW xs P 0 0) (by rw [lstI_len]; exact hF)
  simp only [lstI_get N (cntW xs LL j) _ hF] at hcy
  have hfy := fun (W : World) (h : Own W 0 (.slice (some ⟨g, 0, none⟩) N N) (lstI N (cntW xs LL j))) => Own.free (by rw [lstI_len]; exact h) (freeW xs P 0 0)
  have HCY := Lib.hid hcy
  have HFY := Lib.hid hfy
  generalize hpf : plF P n = F at *
  generalize hff : freeW xs P 0 0 = f at *
  generalize hcc : cntW xs LL j f = x at *
  clear hset hfc hI hbd hcy hfy hpf hff hcc hF hP
  have HI := Lib.hid hI1
  have HN := Lib.hid hnew
  have HB := Lib.hid hB
  clear hI1 hnew hB
  go_enter Try.func124, Try.ntmps124
  go_upto_region 1 with fail
  generalize w.alloc _ = w5 at *
  obtain ⟨p0, p1, p2, p3, p4, p5, _⟩ := (show Has w5.drew w.heap.size (pl6 F) _ from HN.out).six
  obtain ⟨s0, s1, s2, s3, s4, s5, s6, _⟩ := (show Has w5.drew bs (sl n M) _ from HI.out.ser).seven
  have b0 := (show Has w5.drew bw _ _ from HI.out.box).cell 0
  simp only [List.getElem?_cons_zero] at b0
  replace HI := Lib.hid (HI.out.below (Below.refl _ _).drew)
  replace HB := Lib.hid HB.out.drew
  go_region_with ((go_at_call 125; ((with_reducible refine (HFC.out _).mono ?_); rintro e w2 ⟨rfl, hb⟩; have HI2 := Lib.hid (HI.out.below hb); have z0 := HCY.out _ HI2.out.row; have z1 := HFY.out _ HI2.out.row; have HB2 := Lib.hid hb; have b9 := cell_later hb b0; clear hb)))
  all_goals
    have hS := own_store HI2.out.row (lstI_len _ _) f (x + 1)
    rw [HSET.out] at hS
    have HE := Lib.hid (show InvW bw bs g N n M xs LL (j + 1) (w2.setCell ⟨g, f, none⟩ (.int .i64 (x + 1))) ∧ Chg (fun b => b = g) w (w2.setCell ⟨g, f, none⟩ (.int .i64 (x + 1))) from
      ⟨⟨HI2.out.box.other _ (fun e => hbw e.symm) _, HI2.out.ser.other _ (fun e => hbs e.symm) _, hS⟩, ((Chg.of_below HB.out).trans (Chg.of_below HB2.out)).trans ⟨rfl, rfl, rfl, by simp [World.setCell], fun k _ hf => Below.heap_setCell w2 ⟨g, f, none⟩ _ k hf⟩⟩)
    clear hS HI2 z0 z1 b9
    go_wp2_with fail
    go_ret
    exact ⟨rfl, HE.out.1, HE.out.2⟩

end Go.Proofs.Ytdimbnkgomfojaa
end
