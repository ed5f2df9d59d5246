import Derived.Test.YtakdiiccdkjjcabFold32
import Derived.Test.YtakdiiccdkjjcabFold29
import Derived.Test.YtakdiiccdkjjcabFold31

section
namespace Go.Proofs.Ytakdiiccdkjjcab
open Go.RowKit Go.WideShapes

/-- The rook numbers. -/
def numL (n m : Nat) (B : Nat → Nat → Bool) : List Int := lstL (min n m + 1) (wR m B n 0 0)
theorem numL_len (n m : Nat) (B : Nat → Nat → Bool) : (numL n m B).length = min n m + 1 := lstL_len _ _
theorem numL_get (n m : Nat) (B : Nat → Nat → Bool) (k : Nat) (h : k < min n m + 1) : (numL n m B).getD k 0 = wR m B n 0 0 k := lstL_get _ _ k h
theorem numL_bd (n m : Nat) (hn : n ≤ 6) (hm : m ≤ 6) (B : Nat → Nat → Bool) (k : Nat) : 0 ≤ (numL n m B).getD k 0 ∧ (numL n m B).getD k 0 ≤ 117649 := by
  by_cases h : k < min n m + 1
  · rw [numL_get n m B k h]
    have := wR_le m hm B n 0 0 k
    have := pow7 n hn
    omega
  · rw [List.getD_eq_getElem?_getD, List.getElem?_eq_none (by rw [numL_len]; omega)]
    simp
/-- The beginning of a list up to its last number that is not 0. -/
def shK (xs : List Int) : Nat → Nat
  | 0 => 0
  | k + 1 => if xs.getD k 0 = 0 then shK xs k else k + 1
theorem shK_le (xs : List Int) (k : Nat) : shK xs k ≤ k := by
  induction k with
  | zero => simp [shK]
  | succ k ih => rw [shK]; split <;> omega

set_option maxRecDepth 100000 in
theorem roNumbers_any (n m : Nat) (xs : List Int) (w : World) (hx : xs.length ≤ 1048576) (hn : n ≤ 6) (hm : m ≤ 6) (hlen : xs.length = n) (hgc : ∀ k, 0 ≤ xs.getD k 0 ∧ xs.getD k 0 < 64) (lo : Nat) (s : Value) (hO : Own w lo s xs) :
    Calls Try.prog 79 #[.agg #[.int .i64 n, .int .i64 m, s]] w fun e w' => ∃ g p, e = .returned (.slice (some ⟨g, 0, none⟩) (min n m + 1) p) ∧ Own w' w.heap.size (.slice (some ⟨g, 0, none⟩) (min n m + 1) p) (numL n m (bt xs)) ∧ Below w.heap.size w w' := by
  have L0 := (Law.start w).box (.int .i64 n) (.int .i64 m) s 28
  have hc := roWays_any n m xs hx hn hm hlen hgc n 0 0 (by omega) (by omega) _ lo s (hO.kept L0.below)
  rw [show ((0 : Nat) : Int) = 0 from rfl] at hc
  have HC := Lib.hid hc
  clear hc hlen hgc
  have ⟨_, k0, k1, k2, _⟩ := L0.ownBox
  have HB := Lib.hid L0.below
  obtain ⟨a, cap, rfl, _⟩ := hO.reads
  clear L0 hO
  go_enter Try.func79, Try.ntmps79
  go_wp2_with fail
  refine HC.out.mono ?_
  rintro e w1 ⟨g, p, rfl, hO, hb⟩
  have HO := Lib.hid (hO.lower HB.out.size)
  have HB2 := Lib.hid (below_on HB.out hb)
  clear HB HC hO hb k0 k1 k2
  go_wp2_with fail
  go_ret
  exact ⟨_, _, rfl, HO.out, HB2.out⟩

def numB (r c : Int) (xs : List Int) : LR := if goodB r c xs then ⟨numL r.toNat c.toNat (bt xs), true⟩ else ⟨[], false⟩
theorem numB_len (r c : Int) (xs : List Int) : (numB r c xs).ys.length ≤ 1048576 := by
  unfold numB
  split
  · rename_i h
    have := good_facts h
    show (numL _ _ _).length ≤ _
    rw [numL_len]
    omega
  · simp


set_option maxRecDepth 100000 in
set_option maxHeartbeats 1600000 in
theorem implNumbers_any (r c : Int) (xs : List Int) (w : World) (hx : xs.length ≤ 1048576) (lo : Nat) (s : Value) (hO : Own w lo s xs) :
    Calls Try.prog 84 #[.agg #[.int .i64 r, .int .i64 c, s]] w fun e w' => AnsL (numB r c xs) w e w' := by
  have L0 := (Law.start w).box (.int .i64 r) (.int .i64 c) s 28
  obtain ⟨a, cap, rfl, hr⟩ := hO.reads
  have hr0 := L0.reads hr
  clear hO
  cases hg : goodB r c xs
  · rw [show numB r c xs = ⟨[], false⟩ by simp [numB, hg]]
    go_enter Try.func84, Try.ntmps84
    go_wp2_with fail
    refine (gridOf_no r c a cap xs _ hx hr0 hg).mono ?_
    rintro e w1 ⟨rfl, hb⟩
    have HB := Lib.hid (((L0.kept hb).kept (below_new (.cells #[.int .i64 0, .int .i64 0, .int .i64 0, .int .i64 0, .int .i64 0, .int .i64 0, .int .i64 0, .int .i64 0] 64))).below)
    clear L0 hb hg hr0
    go_wp2_with fail
    go_ret2
    exact ⟨_, rfl, Own.nil _ _, HB.out⟩
  · obtain ⟨g1, g2, g3, _⟩ := good_facts hg
    have hgc := good_cell hg
    obtain ⟨n, rfl⟩ := Int.eq_ofNat_of_zero_le (show 0 ≤ r by omega)
    obtain ⟨m, rfl⟩ := Int.eq_ofNat_of_zero_le (show 0 ≤ c by omega)
    rw [show numB n m xs = ⟨numL n m (bt xs), true⟩ by simp [numB, hg]]
    have HC := Lib.hid (gridOf_yes n m a cap xs _ hx hr0 hg)
    have HN := Lib.hid (fun W => rookNumbers_any n m (fun k => xs.getD k 0) W (by omega) (by omega) (fun k _ => hgc k))
    clear hg hr0 hgc
    go_enter Try.func84, Try.ntmps84
    go_wp2_with fail
    refine HC.out.mono ?_
    rintro e w1 ⟨rfl, hb⟩
    have HL := Lib.hid ((L0.kept hb).kept (below_new (.cells (gl n m (fun k => xs.getD k 0)).toArray 64)))
    clear L0 hb HC
    go_wp2_with fail
    refine (HN.out _).mono ?_
    rintro e w2 ⟨g, p, rfl, hO, hb⟩
    have HO := Lib.hid (hO.lower HL.out.below.size)
    have HB := Lib.hid (HL.out.kept hb).below
    clear HL hO hb HN
    go_wp2_with fail
    go_ret2
    exact ⟨_, rfl, HO.out, HB.out⟩
end Go.Proofs.Ytakdiiccdkjjcab
end

section
namespace Go.Proofs.Ytakdiiccdkjjcab
open Go.RowKit Go.WideShapes

theorem Own.capLe {w : World} {lo g L p : Nat} {xs : List Int} (h : Own w lo (.slice (some ⟨g, 0, none⟩) L p) xs) : L ≤ p := by
  rcases h.cases with ⟨h0, _⟩ | ⟨g', p', h0, _, _, h1, _⟩
  · cases h0
  · injection h0 with _ h2 h3
    omega

def sliceLen : Value → Nat
  | .slice _ n _ => n
  | _ => 0




end Go.Proofs.Ytakdiiccdkjjcab
end

section
namespace Go.Proofs.Ytakdiiccdkjjcab
open Go.RowKit Go.WideShapes

theorem celN_far (xs : List Int) (n N : Nat) (h : xs.length ≤ n) (hN : n ≤ N) : celN xs N = celN xs n := by
  induction N with
  | zero => rw [show n = 0 by omega]
  | succ N ih =>
    by_cases e : n = N + 1
    · rw [e]
    · rw [celN, ih (by omega), show lenN xs N = 0 by unfold lenN; rw [getD_far xs N (by omega)]; rfl]
      rfl
theorem celN_le (xs : List Int) (h : ∀ k, 0 ≤ xs.getD k 0 ∧ xs.getD k 0 ≤ 6) (k : Nat) : celN xs k ≤ 6 * k := by
  induction k with
  | zero => exact Nat.le_refl _
  | succ k ih =>
    have := h k
    rw [celN]
    unfold lenN
    omega
set_option maxRecDepth 100000 in
set_option maxHeartbeats 1600000 in
theorem cells_any (n : Nat) (xs : List Int) (M : Nat → Int) (w : World) (hn : xs.length = n) (hn6 : n ≤ 6) (hM : ∀ k, M k = xs.getD k 0) (hx : ∀ k, 0 ≤ xs.getD k 0 ∧ xs.getD k 0 ≤ 6) :
    Calls Try.prog 103 #[sv n M] w fun e w' => e = .returned (.int .i64 (celN xs n : Nat)) ∧ Below w.heap.size w w' := by
  have L0 := (Law.start w).has (sl n M) 90
  rw [show (w.alloc (.cells (sl n M).toArray 90)) = (w.alloc (.cells #[.int .i64 n, .int .i64 (M 0), .int .i64 (M 1), .int .i64 (M 2), .int .i64 (M 3), .int .i64 (M 4), .int .i64 (M 5)] 90)) from rfl] at L0
  have HC := Lib.hid (celN_le xs hx)
  have HE := Lib.hid (celN_far xs n 6 (by omega) hn6)
  have HX := Lib.hid hx
  have HM := Lib.hid hM
  have HL := Lib.hid L0
  have hs : ∀ j, j < 6 → (celN xs (j + 1) : Int) = (celN xs j : Int) + M j := fun j hj => by
    have := hx j
    rw [celN, hM]
    unfold lenN
    omega
  have HS := Lib.hid hs
  clear hn hx hM L0 hs
  obtain ⟨e0, e1, e2, e3, e4, e5, e6, _⟩ := HL.out.ownHas.seven
  go_enter Try.func103, Try.ntmps103
  go_wp2_with fail
  clear e0 e1 e2 e3 e4 e5 e6
  go_loopw [3, 8] (fun f i wr => ∃ k : Nat, k ≤ 6 ∧ i = .int .i64 k ∧ f = .int .i64 (celN xs k : Nat) ∧ Law w [tHas w.heap.size (sl n M) 90] wr) (fun _ i _ => 6 - (intOf i).toNat)
  case atStart => exact ⟨0, Nat.zero_le _, rfl, rfl, HL.out⟩
  case round =>
    clear HL
    obtain ⟨k, hk, rfl, rfl, L⟩ := hrel
    have HL := Lib.hid L
    clear L
    by_cases hlt : k < 6
    · have h6 : k = 0 ∨ k = 1 ∨ k = 2 ∨ k = 3 ∨ k = 4 ∨ k = 5 := by omega
      clear hk hlt
      rcases h6 with rfl | rfl | rfl | rfl | rfl | rfl
      · have hs := HS.out 0 (by omega)
        simp only [Nat.reduceAdd] at hs
        have hc := HC.out 0
        have hc1 := HC.out 1
        have hw : wrap64 ((celN xs 0 : Int) + M 0) = (celN xs 0 : Int) + M 0 := IntWalk.wrap64_in _ (by omega)
        have HW := Lib.hid (hw.trans hs.symm)
        clear hs hc hc1 hw
        generalize (celN xs 0 : Int) = S at *
        rw [show ((0 : Nat) : Int) = 0 from rfl]
        have hidx : ∀ w, (Instr.index 62 (.agg #[.int .i64 (M 0), .int .i64 (M 1), .int .i64 (M 2), .int .i64 (M 3), .int .i64 (M 4), .int .i64 (M 5)]) (.int .i64 0)).run Try.prog w = .ok (.int .i64 (M 0)) w := fun _ => by kernel_rfl
        go_wp2_with fail
        go_roundw
        case rel => exact ⟨1, by omega, by first | rfl | go_num, by rw [HW.out], HL.out⟩
        case measure => simp [intOf]
      · have hs := HS.out 1 (by omega)
        simp only [Nat.reduceAdd] at hs
        have hc := HC.out 1
        have hc1 := HC.out 2
        have hw : wrap64 ((celN xs 1 : Int) + M 1) = (celN xs 1 : Int) + M 1 := IntWalk.wrap64_in _ (by omega)
        have HW := Lib.hid (hw.trans hs.symm)
        clear hs hc hc1 hw
        generalize (celN xs 1 : Int) = S at *
        rw [show ((1 : Nat) : Int) = 1 from rfl]
        have hidx : ∀ w, (Instr.index 62 (.agg #[.int .i64 (M 0), .int .i64 (M 1), .int .i64 (M 2), .int .i64 (M 3), .int .i64 (M 4), .int .i64 (M 5)]) (.int .i64 1)).run Try.prog w = .ok (.int .i64 (M 1)) w := fun _ => by kernel_rfl
        go_wp2_with fail
        go_roundw
        case rel => exact ⟨2, by omega, by first | rfl | go_num, by rw [HW.out], HL.out⟩
        case measure => simp [intOf]
      · have hs := HS.out 2 (by omega)
        simp only [Nat.reduceAdd] at hs
        have hc := HC.out 2
        have hc1 := HC.out 3
        have hw : wrap64 ((celN xs 2 : Int) + M 2) = (celN xs 2 : Int) + M 2 := IntWalk.wrap64_in _ (by omega)
        have HW := Lib.hid (hw.trans hs.symm)
        clear hs hc hc1 hw
        generalize (celN xs 2 : Int) = S at *
        rw [show ((2 : Nat) : Int) = 2 from rfl]
        have hidx : ∀ w, (Instr.index 62 (.agg #[.int .i64 (M 0), .int .i64 (M 1), .int .i64 (M 2), .int .i64 (M 3), .int .i64 (M 4), .int .i64 (M 5)]) (.int .i64 2)).run Try.prog w = .ok (.int .i64 (M 2)) w := fun _ => by kernel_rfl
        go_wp2_with fail
        go_roundw
        case rel => exact ⟨3, by omega, by first | rfl | go_num, by rw [HW.out], HL.out⟩
        case measure => simp [intOf]
      · have hs := HS.out 3 (by omega)
        simp only [Nat.reduceAdd] at hs
        have hc := HC.out 3
        have hc1 := HC.out 4
        have hw : wrap64 ((celN xs 3 : Int) + M 3) = (celN xs 3 : Int) + M 3 := IntWalk.wrap64_in _ (by omega)
        have HW := Lib.hid (hw.trans hs.symm)
        clear hs hc hc1 hw
        generalize (celN xs 3 : Int) = S at *
        rw [show ((3 : Nat) : Int) = 3 from rfl]
        have hidx : ∀ w, (Instr.index 62 (.agg #[.int .i64 (M 0), .int .i64 (M 1), .int .i64 (M 2), .int .i64 (M 3), .int .i64 (M 4), .int .i64 (M 5)]) (.int .i64 3)).run Try.prog w = .ok (.int .i64 (M 3)) w := fun _ => by kernel_rfl
        go_wp2_with fail
        go_roundw
        case rel => exact ⟨4, by omega, by first | rfl | go_num, by rw [HW.out], HL.out⟩
        case measure => simp [intOf]
      · have hs := HS.out 4 (by omega)
        simp only [Nat.reduceAdd] at hs
        have hc := HC.out 4
        have hc1 := HC.out 5
        have hw : wrap64 ((celN xs 4 : Int) + M 4) = (celN xs 4 : Int) + M 4 := IntWalk.wrap64_in _ (by omega)
        have HW := Lib.hid (hw.trans hs.symm)
        clear hs hc hc1 hw
        generalize (celN xs 4 : Int) = S at *
        rw [show ((4 : Nat) : Int) = 4 from rfl]
        have hidx : ∀ w, (Instr.index 62 (.agg #[.int .i64 (M 0), .int .i64 (M 1), .int .i64 (M 2), .int .i64 (M 3), .int .i64 (M 4), .int .i64 (M 5)]) (.int .i64 4)).run Try.prog w = .ok (.int .i64 (M 4)) w := fun _ => by kernel_rfl
        go_wp2_with fail
        go_roundw
        case rel => exact ⟨5, by omega, by first | rfl | go_num, by rw [HW.out], HL.out⟩
        case measure => simp [intOf]
      · have hs := HS.out 5 (by omega)
        simp only [Nat.reduceAdd] at hs
        have hc := HC.out 5
        have hc1 := HC.out 6
        have hw : wrap64 ((celN xs 5 : Int) + M 5) = (celN xs 5 : Int) + M 5 := IntWalk.wrap64_in _ (by omega)
        have HW := Lib.hid (hw.trans hs.symm)
        clear hs hc hc1 hw
        generalize (celN xs 5 : Int) = S at *
        rw [show ((5 : Nat) : Int) = 5 from rfl]
        have hidx : ∀ w, (Instr.index 62 (.agg #[.int .i64 (M 0), .int .i64 (M 1), .int .i64 (M 2), .int .i64 (M 3), .int .i64 (M 4), .int .i64 (M 5)]) (.int .i64 5)).run Try.prog w = .ok (.int .i64 (M 5)) w := fun _ => by kernel_rfl
        go_wp2_with fail
        go_roundw
        case rel => exact ⟨6, by omega, by first | rfl | go_num, by rw [HW.out], HL.out⟩
        case measure => simp [intOf]
    · obtain rfl : k = 6 := by omega
      rw [HE.out, show ((6 : Nat) : Int) = 6 from rfl]
      go_wp2_with fail
      go_ret
      exact ⟨rfl, HL.out.below⟩

/-- What stands in a listed placement. -/
theorem pl_vals (m : Nat) (B : Nat → Nat → Bool) (d : Nat) : ∀ f t k, ∀ P ∈ pl m B d f t k, ∀ i, i < d → P.getD i 0 = -1 ∨ ∃ c : Nat, P.getD i 0 = c ∧ c < m ∧ B (f + i) c = true := by
  induction d with
  | zero => intro f t k P _ i hi; omega
  | succ d ih =>
    intro f t k P h i hi
    rw [pl, List.mem_append, List.mem_map, List.mem_flatMap] at h
    rcases h with ⟨Q, hQ, rfl⟩ | ⟨c, hc, h⟩
    · cases i with
      | zero => exact .inl rfl
      | succ i =>
        have := ih _ _ _ Q hQ i (by omega)
        rw [show f + (i + 1) = f + 1 + i by omega]
        simpa using this
    · split at h
      · rename_i hb
        simp only [Bool.and_eq_true, decide_eq_true_eq] at hb
        obtain ⟨Q, hQ, rfl⟩ := List.mem_map.1 h
        cases i with
        | zero => exact .inr ⟨c, rfl, List.mem_range.1 hc, hb.2.1⟩
        | succ i =>
          have := ih _ _ _ Q hQ i (by omega)
          rw [show f + (i + 1) = f + 1 + i by omega]
          simpa using this
      · simp at h
theorem tkn_small (P : List Int) (n : Nat) (h : ∀ i, i < n → P.getD i 0 = -1 ∨ (0 ≤ P.getD i 0 ∧ P.getD i 0 < 6)) (i : Nat) (hi : i ≤ n) : tkn P i < 64 := by
  induction i with
  | zero => simp [tkn]
  | succ i ih =>
    have := ih (by omega)
    rw [tkn]
    split
    · exact this
    · rename_i he
      rcases h i (by omega) with h | h
      · exact absurd h he
      · exact Nat.or_lt_two_pow (n := 6) this (Nat.pow_lt_pow_right (by omega) (by omega))
theorem bM_msk (xs : List Int) (M : Nat → Int) (n : Nat) (hn : xs.length = n) (hM : ∀ k, M k = xs.getD k 0) (hx : ∀ k, 0 ≤ xs.getD k 0) : bM (mskG M n) = bLen xs := by
  funext f c
  unfold bM bLen mskG lenN
  by_cases h : f < n
  · rw [if_pos h, hM]
    obtain ⟨l, hl⟩ := Int.eq_ofNat_of_zero_le (hx f)
    rw [hl]
    have : (pw (l : Int) - 1).toNat = 2 ^ l - 1 := by
      unfold pw
      rw [Int.toNat_natCast]
      have : 0 < 2 ^ l := Nat.pow_pos (by omega)
      have h2 : ((2 : Int) ^ l) = ((2 ^ l : Nat) : Int) := by push_cast; rfl
      rw [h2]
      omega
    rw [this, Nat.testBit_two_pow_sub_one, Int.toNat_natCast]
  · rw [if_neg h, getD_far xs f (by omega)]
    simp

/-- The counts so far. -/
def cntW (xs : List Int) (LL : List (List Int)) (j e : Nat) : Int := (gW xs (LL.take j) e : Nat)
theorem cntW_zero (xs : List Int) (LL : List (List Int)) (N : Nat) : List.replicate N (0 : Int) = lstI N (cntW xs LL 0) := by
  rw [lstI_zero]
  exact lstI_congr _ _ _ (fun k _ => by simp [cntW, gW_nil])
theorem cntW_succ (xs : List Int) (LL : List (List Int)) (j : Nat) (P : List Int) (h : LL[j]? = some P) (e : Nat) : cntW xs LL (j + 1) e = cntW xs LL j e + if freeW xs P 0 0 = e then 1 else 0 := by
  obtain ⟨hj, hP⟩ := List.getElem?_eq_some_iff.1 h
  unfold cntW
  rw [List.take_succ_eq_append_getElem hj, hP, gW_snoc]
  push_cast
  congr 1
  split <;> rfl
theorem cntW_set (xs : List Int) (LL : List (List Int)) (j N : Nat) (P : List Int) (h : LL[j]? = some P) : (lstI N (cntW xs LL j)).set (freeW xs P 0 0) (cntW xs LL j (freeW xs P 0 0) + 1) = lstI N (cntW xs LL (j + 1)) :=
  lstI_set N _ _ _ _ (by rw [cntW_succ xs LL j P h, if_pos rfl]) (fun k _ hk => by rw [cntW_succ xs LL j P h, if_neg (fun e => hk e.symm), Int.add_zero])
theorem cntW_bd (xs : List Int) (LL : List (List Int)) (j e : Nat) (h : LL.length ≤ 1000000) : 0 ≤ cntW xs LL j e ∧ cntW xs LL j e ≤ 1000000 := by
  have := gW_le xs (LL.take j) e
  rw [List.length_take] at this
  unfold cntW
  omega
end Go.Proofs.Ytakdiiccdkjjcab
end
