/- How many cells a board has, in both texts. No condition but the sizes. -/
import Derived.Test.YtncbdmeagfadfaaN

namespace Go.Proofs.Ytncbdmeagfadfaa
open Go.RowKit Go.WideShapes

/-- How many bits a mask has. -/
def pop (x : Int) : Int := (((List.range 6).filter (fun b => x.toNat.testBit b)).length : Int)
def oc1 (n : Int) : Int := IntKind.u64.wrap (bits .and .u64 (n / 2) 6148914691236517205 + bits .and .u64 n 6148914691236517205)
def oc2 (n : Int) : Int := IntKind.u64.wrap (bits .and .u64 (oc1 n / 4) 3689348814741910323 + bits .and .u64 (oc1 n) 3689348814741910323)
def oc3 (n : Int) : Int := bits .and .u64 (IntKind.u64.wrap (oc2 n / 16 + oc2 n)) 1085102592571150095
def oc4 (n : Int) : Int := IntKind.u64.wrap (oc3 n + oc3 n / 256)
def oc5 (n : Int) : Int := IntKind.u64.wrap (oc4 n + oc4 n / 65536)
def oc6 (n : Int) : Int := IntKind.u64.wrap (oc5 n + oc5 n / 4294967296)
def oc (n : Int) : Int := bits .and .i64 (wrap64 (oc6 n)) 127
theorem oc_eq (n : Nat) (h : n < 64) : oc n = pop n := by
  have key : ∀ n : Fin 64, oc ((n : Nat) : Int) = pop ((n : Nat) : Int) := by decide +kernel
  exact key ⟨n, h⟩

set_option maxHeartbeats 1600000 in
theorem ones64_any (n : Nat) (w : World) (hn : n < 64) :
    Calls Try.prog 86 #[.int .u64 n] w fun e w' => e = .returned (.int .i64 (pop n)) ∧ w = w' := by
  have h0 : 0 ≤ (n : Int) := by omega
  have h1 : (n : Int) < 64 := by omega
  go_enter Try.func86, Try.ntmps86
  go_wp2
  go_ret
  exact ⟨ret_int (oc_eq n hn), rfl⟩
set_option maxHeartbeats 800000 in
theorem ones_any (n : Nat) (w : World) (hn : n < 64) :
    Calls Try.prog 82 #[.int .u64 n] w fun e w' => e = .returned (.int .i64 (pop n)) ∧ w = w' := by
  go_enter Try.func82, Try.ntmps82
  go_wp2_with fail
  refine (ones64_any n w hn).mono ?_
  rintro e w' ⟨rfl, rfl⟩
  go_wp2_with fail
  go_ret
  exact ⟨rfl, rfl⟩

theorem ix6a (x0 x1 x2 x3 x4 x5 : Int) (W : World) : (Instr.index 61 (.agg #[.int .i64 x0, .int .i64 x1, .int .i64 x2, .int .i64 x3, .int .i64 x4, .int .i64 x5]) (.int .i64 0)).run Try.prog W = .ok (.int .i64 x0) W := by kernel_rfl
theorem ix6b (x0 x1 x2 x3 x4 x5 : Int) (W : World) : (Instr.index 61 (.agg #[.int .i64 x0, .int .i64 x1, .int .i64 x2, .int .i64 x3, .int .i64 x4, .int .i64 x5]) (.int .i64 1)).run Try.prog W = .ok (.int .i64 x1) W := by kernel_rfl
theorem ix6c (x0 x1 x2 x3 x4 x5 : Int) (W : World) : (Instr.index 61 (.agg #[.int .i64 x0, .int .i64 x1, .int .i64 x2, .int .i64 x3, .int .i64 x4, .int .i64 x5]) (.int .i64 2)).run Try.prog W = .ok (.int .i64 x2) W := by kernel_rfl
theorem ix6d (x0 x1 x2 x3 x4 x5 : Int) (W : World) : (Instr.index 61 (.agg #[.int .i64 x0, .int .i64 x1, .int .i64 x2, .int .i64 x3, .int .i64 x4, .int .i64 x5]) (.int .i64 3)).run Try.prog W = .ok (.int .i64 x3) W := by kernel_rfl
theorem ix6e (x0 x1 x2 x3 x4 x5 : Int) (W : World) : (Instr.index 61 (.agg #[.int .i64 x0, .int .i64 x1, .int .i64 x2, .int .i64 x3, .int .i64 x4, .int .i64 x5]) (.int .i64 4)).run Try.prog W = .ok (.int .i64 x4) W := by kernel_rfl
theorem ix6f (x0 x1 x2 x3 x4 x5 : Int) (W : World) : (Instr.index 61 (.agg #[.int .i64 x0, .int .i64 x1, .int .i64 x2, .int .i64 x3, .int .i64 x4, .int .i64 x5]) (.int .i64 5)).run Try.prog W = .ok (.int .i64 x5) W := by kernel_rfl
/-- The value at an index of an array of six. -/
theorem ix6 (M : Nat → Int) (k : Nat) (hk : k < 6) (W : World) : (Instr.index 61 (.agg #[.int .i64 (M 0), .int .i64 (M 1), .int .i64 (M 2), .int .i64 (M 3), .int .i64 (M 4), .int .i64 (M 5)]) (.int .i64 k)).run Try.prog W = .ok (.int .i64 (M k)) W := by
  match k, hk with
  | 0, _ => exact ix6a _ _ _ _ _ _ W
  | 1, _ => exact ix6b _ _ _ _ _ _ W
  | 2, _ => exact ix6c _ _ _ _ _ _ W
  | 3, _ => exact ix6d _ _ _ _ _ _ W
  | 4, _ => exact ix6e _ _ _ _ _ _ W
  | 5, _ => exact ix6f _ _ _ _ _ _ W
theorem pop_bd (x : Int) : 0 ≤ pop x ∧ pop x ≤ 6 := by
  unfold pop
  have := List.length_filter_le (fun b => x.toNat.testBit b) (List.range 6)
  simp only [List.length_range] at this
  omega
def sumP (M : Nat → Int) : Nat → Int
  | 0 => 0
  | k + 1 => sumP M k + pop (M k)
theorem sumP_bd (M : Nat → Int) (k : Nat) : 0 ≤ sumP M k ∧ sumP M k ≤ 6 * k := by
  induction k with
  | zero => simp [sumP]
  | succ k ih =>
    have := pop_bd (M k)
    rw [sumP]
    omega

set_option maxHeartbeats 1600000 in
theorem count_any (r c : Int) (M : Nat → Int) (w : World) (hM : ∀ k, k < 6 → 0 ≤ M k ∧ M k < 64) :
    Calls Try.prog 62 #[gv r c M] w fun e w' => e = .returned (.int .i64 (sumP M 6)) ∧ Below w.heap.size w w' := by
  have HB := Lib.hid (below_new (w := w) (.cells (gl r c M).toArray 63))
  go_enter Try.func62, Try.ntmps62
  go_wp2_with fail
  go_loop [3, 8] (fun s i => ∃ k : Nat, k ≤ 6 ∧ i = .int .i64 k ∧ s = .int .i64 (sumP M k)) (fun _ i => 6 - (intOf i).toNat)
  case atStart => exact ⟨0, by omega, rfl, rfl⟩
  case round =>
    obtain ⟨k, hk, rfl, rfl⟩ := hrel
    by_cases hlt : k < 6
    · have ix := ix6 M k hlt
      obtain ⟨h0, h1⟩ := hM k hlt
      have hs := sumP_bd M k
      have hp := pop_bd (M k)
      have HS := Lib.hid (show sumP M (k + 1) = sumP M k + pop (M k) from rfl)
      obtain ⟨y, hy⟩ := Int.eq_ofNat_of_zero_le h0
      rw [hy] at ix hp HS h1
      have hyl : y < 64 := by omega
      clear hy h0
      generalize sumP M k = t at *
      go_wp2_with fail
      refine (ones_any y _ hyl).mono ?_
      rintro e w' ⟨rfl, rfl⟩
      generalize pop y = z at *
      go_wp2_with fail
      go_round
      case rel => exact ⟨k + 1, by omega, by go_num, by rw [HS.out]⟩
      case measure => simp [intOf]; omega
    · obtain rfl : k = 6 := by omega
      go_wp2_with fail
      go_ret
      exact ⟨rfl, HB.out⟩

/-- What CountCells answers. -/
structure R1 where
  y : Int
  ok : Bool
def countB (r c : Int) (xs : List Int) : R1 := if goodB r c xs then ⟨((cellsL xs r.toNat c.toNat).length : Int), true⟩ else ⟨0, false⟩
def AnsIO (R : R1) (w : World) (e : Ending) (w' : World) : Prop := e = .returned (.tuple #[.int .i64 R.y, .bool R.ok]) ∧ Below w.heap.size w w'
theorem rowC_pop (xs : List Int) (a m : Nat) (hm : m ≤ 6) (h : 0 ≤ xs.getD a 0 ∧ xs.getD a 0 < pw m) : ((rowC xs a m).length : Int) = pop (xs.getD a 0) := by
  unfold rowC
  rw [List.length_map]
  generalize xs.getD a 0 = x at *
  obtain ⟨n, rfl⟩ := Int.eq_ofNat_of_zero_le h.1
  have key : ∀ m : Fin 7, ∀ n : Fin 64, ((n : Nat) : Int) < pw (m : Nat) → ((((List.range (m : Nat)).filter (fun b => ((n : Nat) : Int).toNat.testBit b)).length : Nat) : Int) = pop ((n : Nat) : Int) := by decide +kernel
  have h6 := (pw_bd (c := (m : Int)) (by omega)).2.1
  exact key ⟨m, by omega⟩ ⟨n, by omega⟩ h.2
theorem flat_pop (xs : List Int) (m i : Nat) (hm : m ≤ 6) (h : ∀ k, k < i → 0 ≤ xs.getD k 0 ∧ xs.getD k 0 < pw m) : ((((List.range i).flatMap (fun a => rowC xs a m)).length : Nat) : Int) = sumP (fun k => xs.getD k 0) i := by
  induction i with
  | zero => simp [sumP]
  | succ i ih =>
    have e : ([i].flatMap (fun a => rowC xs a m)) = rowC xs i m := by simp
    rw [List.range_succ, List.flatMap_append, List.length_append, e, sumP, Int.natCast_add, ih (fun k hk => h k (by omega)), rowC_pop xs i m hm (h i (by omega))]
theorem sumP_zero (xs : List Int) (n k : Nat) (h : xs.length = n) : sumP (fun k => xs.getD k 0) (n + k) = sumP (fun k => xs.getD k 0) n := by
  induction k with
  | zero => rfl
  | succ k ih =>
    rw [← Nat.add_assoc, sumP, ih]
    have : xs.getD (n + k) 0 = 0 := by simp [List.getD, List.getElem?_eq_none (show xs.length ≤ n + k by omega)]
    rw [this]
    have : pop 0 = 0 := by decide +kernel
    omega
theorem count_eq {n m : Nat} {xs : List Int} (h : goodB n m xs = true) : ((cellsL xs n m).length : Int) = sumP (fun k => xs.getD k 0) 6 := by
  obtain ⟨g1, g2, g3, g4⟩ := good_facts h
  have e := sumP_zero xs n (6 - n) (by omega)
  rw [show n + (6 - n) = 6 by omega] at e
  rw [e, cellsL, cellsU, List.length_append, ← flat_pop xs m n (by omega) (fun k hk => g4 k (by omega))]
  simp [rowC]

set_option maxHeartbeats 1600000 in
theorem specCount_any (r c : Int) (xs : List Int) (w : World) (hx : xs.length ≤ 1048576) (lo : Nat) (s : Value) (hO : Own w lo s xs) :
    Calls Try.prog 24 #[.agg #[.int .i64 r, .int .i64 c, s]] w fun e w' => AnsIO (countB r c xs) w e w' := by
  have L0 := (Law.start w).box (.int .i64 r) (.int .i64 c) s 27
  have hO0 := hO.kept L0.below
  obtain ⟨a, cap, rfl, hr⟩ := hO.reads
  have hr0 := L0.reads hr
  clear hO
  cases hg : goodB r c xs
  · rw [show countB r c xs = ⟨0, false⟩ by simp [countB, hg]]
    go_enter Try.func24, Try.ntmps24
    go_wp2_with fail
    refine (at_boolB (boGood_any r c a cap xs _ hx hr0) hg).mono ?_
    rintro e w1 ⟨rfl, hb⟩
    have HB := Lib.hid (L0.kept hb).below
    clear L0 hb hg hr0 hO0
    go_wp2_with fail
    go_ret2
    exact ⟨rfl, HB.out⟩
  · obtain ⟨g1, g2, _, _⟩ := good_facts hg
    obtain ⟨n, rfl⟩ := Int.eq_ofNat_of_zero_le (show 0 ≤ r by omega)
    obtain ⟨m, rfl⟩ := Int.eq_ofNat_of_zero_le (show 0 ≤ c by omega)
    rw [show countB n m xs = ⟨((cellsL xs n m).length : Int), true⟩ by simp [countB, hg]]
    have HC := Lib.hid (at_boolB (boGood_any n m a cap xs _ hx hr0) hg)
    have HG := Lib.hid hg
    clear hg hr0
    go_enter Try.func24, Try.ntmps24
    go_wp2_with fail
    refine HC.out.mono ?_
    rintro e w1 ⟨rfl, hb⟩
    have L1 := L0.kept hb
    have hO1 := hO0.kept hb
    have ⟨_, k0, k1, k2, _⟩ := L1.ownBox
    clear L0 hb HC hO0
    go_wp2_with fail
    refine (boCells_any n m xs _ hx HG.out lo _ hO1).mono ?_
    rintro e w2 ⟨v, vs, rfl, hM, hb⟩
    have HB := Lib.hid (L1.kept hb).below
    have HL := Lib.hid hM.len
    rcases hM.cases with ⟨rfl, rfl⟩ | ⟨g, cp, rfl, _⟩
    all_goals
      clear L1 hb hO1 hM k0 k1 k2
      go_wp2_with fail
      go_ret2
      exact ⟨by rw [HL.out]; rfl, HB.out⟩

set_option maxHeartbeats 1600000 in
theorem implCount_any (r c : Int) (xs : List Int) (w : World) (hx : xs.length ≤ 1048576) (lo : Nat) (s : Value) (hO : Own w lo s xs) :
    Calls Try.prog 25 #[.agg #[.int .i64 r, .int .i64 c, s]] w fun e w' => AnsIO (countB r c xs) w e w' := by
  have L0 := (Law.start w).box (.int .i64 r) (.int .i64 c) s 27
  obtain ⟨a, cap, rfl, hr⟩ := hO.reads
  have hr0 := L0.reads hr
  clear hO
  cases hg : goodB r c xs
  · rw [show countB r c xs = ⟨0, false⟩ by simp [countB, hg]]
    go_enter Try.func25, Try.ntmps25
    go_wp2_with fail
    refine (gridOf_no r c a cap xs _ hx hr0 hg).mono ?_
    rintro e w1 ⟨rfl, hb⟩
    have HB := Lib.hid ((L0.kept hb).kept (below_new (.cells #[.int .i64 0, .int .i64 0, .int .i64 0, .int .i64 0, .int .i64 0, .int .i64 0, .int .i64 0, .int .i64 0] 63))).below
    clear L0 hb hg hr0
    go_wp2_with fail
    go_ret2
    exact ⟨rfl, HB.out⟩
  · obtain ⟨g1, g2, _, _⟩ := good_facts hg
    have hgc := good_cell hg
    obtain ⟨n, rfl⟩ := Int.eq_ofNat_of_zero_le (show 0 ≤ r by omega)
    obtain ⟨m, rfl⟩ := Int.eq_ofNat_of_zero_le (show 0 ≤ c by omega)
    rw [show countB n m xs = ⟨((cellsL xs n m).length : Int), true⟩ by simp [countB, hg], count_eq hg]
    obtain ⟨M, hM, hc⟩ := gridOf_good n m a cap xs _ hx hr0 hg
    have HC := Lib.hid hc; clear hc
    have e : (fun k => xs.getD k 0) = M := by funext k; exact (hM k).symm
    rw [e]
    simp only [← hM] at hgc
    clear hM e hg hr0
    go_enter Try.func25, Try.ntmps25
    go_wp2_with fail
    refine HC.out.mono ?_
    rintro e w1 ⟨rfl, hb⟩
    have L1 := (L0.kept hb).kept (below_new (.cells #[.int .i64 n, .int .i64 m, .int .i64 (M 0), .int .i64 (M 1), .int .i64 (M 2), .int .i64 (M 3), .int .i64 (M 4), .int .i64 (M 5)] 63))
    clear L0 hb HC
    go_wp2_with fail
    refine (count_any n m M _ (fun k _ => hgc k)).mono ?_
    rintro e w2 ⟨rfl, hb⟩
    have HB := Lib.hid (L1.kept hb).below
    clear L1 hb
    go_wp2_with fail
    go_ret2
    exact ⟨rfl, HB.out⟩

end Go.Proofs.Ytncbdmeagfadfaa
