/- One board within another, in both texts. No condition but the sizes. -/
import Derived.Test.YtncbdmeagfadfabV
namespace Go.Proofs.Ytncbdmeagfadfab
open Go.RowKit Go.WideShapes

/-- Is each number of the one within that of the other? -/
def partL (xs ys : List Int) : Bool := decide (∀ k, k < xs.length → bits .andNot .i64 (xs.getD k 0) (ys.getD k 0) = 0)
def partB (r c : Int) (xs : List Int) (r2 c2 : Int) (ys : List Int) : R2 := if goodB r c xs && goodB r2 c2 ys then ⟨fitB r c r2 c2 && partL xs ys, true⟩ else ⟨false, false⟩
theorem partL_no (xs ys : List Int) (hl : ys.length = xs.length) (k : Nat) (h : bits .andNot .i64 (xs.getD k 0) (ys.getD k 0) ≠ 0) : partL xs ys = false := by
  unfold partL
  rw [decide_eq_false_iff_not]
  intro hc
  by_cases hk : k < xs.length
  · exact h (hc k hk)
  · apply h
    have h1 : xs.getD k 0 = 0 := by simp [List.getD, List.getElem?_eq_none (Nat.le_of_not_lt hk)]
    have h2 : ys.getD k 0 = 0 := by simp [List.getD, List.getElem?_eq_none (show ys.length ≤ k by omega)]
    rw [h1, h2]
    rfl
theorem partL_yes (xs ys : List Int) (n : Nat) (hn : xs.length ≤ n) (h : ∀ q, q < n → bits .andNot .i64 (xs.getD q 0) (ys.getD q 0) = 0) : partL xs ys = true := by
  unfold partL
  rw [decide_eq_true_eq]
  exact fun k hk => h k (by omega)

theorem index6a (x0 x1 x2 x3 x4 x5 : Int) (W : World) : (Instr.index 54 (.agg #[.int .i64 x0, .int .i64 x1, .int .i64 x2, .int .i64 x3, .int .i64 x4, .int .i64 x5]) (.int .i64 0)).run Try.prog W = .ok (.int .i64 x0) W := by kernel_rfl
theorem index6b (x0 x1 x2 x3 x4 x5 : Int) (W : World) : (Instr.index 54 (.agg #[.int .i64 x0, .int .i64 x1, .int .i64 x2, .int .i64 x3, .int .i64 x4, .int .i64 x5]) (.int .i64 1)).run Try.prog W = .ok (.int .i64 x1) W := by kernel_rfl
theorem index6c (x0 x1 x2 x3 x4 x5 : Int) (W : World) : (Instr.index 54 (.agg #[.int .i64 x0, .int .i64 x1, .int .i64 x2, .int .i64 x3, .int .i64 x4, .int .i64 x5]) (.int .i64 2)).run Try.prog W = .ok (.int .i64 x2) W := by kernel_rfl
theorem index6d (x0 x1 x2 x3 x4 x5 : Int) (W : World) : (Instr.index 54 (.agg #[.int .i64 x0, .int .i64 x1, .int .i64 x2, .int .i64 x3, .int .i64 x4, .int .i64 x5]) (.int .i64 3)).run Try.prog W = .ok (.int .i64 x3) W := by kernel_rfl
theorem index6e (x0 x1 x2 x3 x4 x5 : Int) (W : World) : (Instr.index 54 (.agg #[.int .i64 x0, .int .i64 x1, .int .i64 x2, .int .i64 x3, .int .i64 x4, .int .i64 x5]) (.int .i64 4)).run Try.prog W = .ok (.int .i64 x4) W := by kernel_rfl
theorem index6f (x0 x1 x2 x3 x4 x5 : Int) (W : World) : (Instr.index 54 (.agg #[.int .i64 x0, .int .i64 x1, .int .i64 x2, .int .i64 x3, .int .i64 x4, .int .i64 x5]) (.int .i64 5)).run Try.prog W = .ok (.int .i64 x5) W := by kernel_rfl
theorem index6 (M : Nat → Int) (k : Nat) (hk : k < 6) (W : World) : (Instr.index 54 (.agg #[.int .i64 (M 0), .int .i64 (M 1), .int .i64 (M 2), .int .i64 (M 3), .int .i64 (M 4), .int .i64 (M 5)]) (.int .i64 k)).run Try.prog W = .ok (.int .i64 (M k)) W := by
  match k, hk with
  | 0, _ => exact index6a _ _ _ _ _ _ W
  | 1, _ => exact index6b _ _ _ _ _ _ W
  | 2, _ => exact index6c _ _ _ _ _ _ W
  | 3, _ => exact index6d _ _ _ _ _ _ W
  | 4, _ => exact index6e _ _ _ _ _ _ W
  | 5, _ => exact index6f _ _ _ _ _ _ W

set_option maxHeartbeats 3200000 in
theorem implIsPartOf_any (r c : Int) (xs : List Int) (r2 c2 : Int) (ys : List Int) (w : World) (hx : xs.length ≤ 1048576) (hy : ys.length ≤ 1048576) (lo : Nat) (s : Value) (lo2 : Nat) (s2 : Value) (hO : Own w lo s xs) (hO2 : Own w lo2 s2 ys) :
    Calls Try.prog 20 #[.agg #[.int .i64 r, .int .i64 c, s], .agg #[.int .i64 r2, .int .i64 c2, s2]] w fun e w' => AnsOO (partB r c xs r2 c2 ys) w e w' := by
  have L0 := ((Law.start w).box (.int .i64 r) (.int .i64 c) s 26).box (.int .i64 r2) (.int .i64 c2) s2 26
  simp only [World.size_alloc] at L0
  obtain ⟨a, cap, rfl, hr⟩ := hO.reads
  obtain ⟨a2, cap2, rfl, hr2⟩ := hO2.reads
  have hr0 := L0.reads hr
  have hr20 := L0.reads hr2
  clear hO hO2
  cases hpq : (goodB r c xs && goodB r2 c2 ys)
  · rw [show partB r c xs r2 c2 ys = ⟨false, false⟩ by simp [partB, hpq]]
    obtain ⟨R1, C1, M1, R2, C2, M2, hc⟩ := gridsOf_no r c r2 c2 a a2 cap cap2 xs ys _ hx hy hr0 hr20 hpq
    have HC := Lib.hid hc; clear hc hpq
    go_enter Try.func20, Try.ntmps20
    go_wp2_with fail
    refine HC.out.mono ?_
    rintro e w1 ⟨rfl, hb⟩
    have L1 := (L0.kept hb).grids (A := gl R1 C1 M1) (B := gl R2 C2 M2) (t := 56) rfl
    have HB := Lib.hid L1.below
    clear L0 L1 hb HC hr0 hr20
    go_wp2_with fail
    go_ret2
    exact ⟨rfl, HB.out⟩
  · rw [show partB r c xs r2 c2 ys = ⟨fitB r c r2 c2 && partL xs ys, true⟩ by simp [partB, hpq]]
    rw [Bool.and_eq_true] at hpq
    obtain ⟨hp, hq⟩ := hpq
    cases hf : fitB r c r2 c2
    · have HFI := Lib.hid hf; clear hf
      obtain ⟨M1, M2, hA, hB, hc⟩ := gridsOf_good r c r2 c2 a a2 cap cap2 xs ys _ hx hy hr0 hr20 hp hq
      clear hA hB
      have HC := Lib.hid hc; clear hc
      go_enter Try.func20, Try.ntmps20
      go_wp2_with fail
      refine HC.out.mono ?_
      rintro e w1 ⟨rfl, hb⟩
      have L1 := (L0.kept hb).grids (A := gl r c M1) (B := gl r2 c2 M2) (t := 56) rfl
      have HL := Lib.hid L1
      clear L0 hb hr0 hr20 hp hq HC L1
      go_upto_region 4 with fail
      have L1 := HL.out
      clear HL
      obtain ⟨e0, e1, e2, e3, e4, e5, e6, e7, _⟩ := L1.ownHas.eight
      obtain ⟨d0, d1, d2, d3, d4, d5, d6, d7, _⟩ := L1.tl.ownHas.eight
      go_wp2_with fail
      refine (at_boolB (fits_any r c r2 c2 M1 M2 _) HFI.out).mono ?_
      rintro e w2 ⟨rfl, hb⟩
      have HB := Lib.hid (L1.kept hb).below
      clear L1 hb e0 e1 e2 e3 e4 e5 e6 e7 d0 d1 d2 d3 d4 d5 d6 d7
      go_wp2_with fail
      go_ret2
      exact ⟨rfl, HB.out⟩
    · have hf' := hf
      simp only [fitB, decide_eq_true_eq] at hf'
      obtain ⟨h1, h2⟩ := hf'
      subst h1 h2
      obtain ⟨g1, g2, g3, _⟩ := good_facts hp
      obtain ⟨_, _, g4, _⟩ := good_facts hq
      obtain ⟨M1, M2, hA, hB, hc⟩ := gridsOf_good r c r c a a2 cap cap2 xs ys _ hx hy hr0 hr20 hp hq
      have hno : ∀ k, bits .andNot .i64 (M1 k) (M2 k) ≠ 0 → partL xs ys = false := fun k hk => partL_no xs ys (by omega) k (by rw [← hA, ← hB]; exact hk)
      have hyes : (∀ q, q < 6 → bits .andNot .i64 (M1 q) (M2 q) = 0) → partL xs ys = true := fun h => partL_yes xs ys 6 (by omega) (fun q hq => by rw [← hA, ← hB]; exact h q hq)
      have HN := Lib.hid hno
      have HY := Lib.hid hyes
      clear hA hB hno hyes
      have HFI := Lib.hid hf; clear hf
      have HC := Lib.hid hc; clear hc
      go_enter Try.func20, Try.ntmps20
      go_wp2_with fail
      refine HC.out.mono ?_
      rintro e w1 ⟨rfl, hb⟩
      have L1 := (L0.kept hb).grids (A := gl r c M1) (B := gl r c M2) (t := 56) rfl
      have HL := Lib.hid L1
      clear L0 hb hr0 hr20 hp hq HC L1
      go_upto_region 4 with fail
      have L1 := HL.out
      clear HL
      obtain ⟨e0, e1, e2, e3, e4, e5, e6, e7, _⟩ := L1.ownHas.eight
      obtain ⟨d0, d1, d2, d3, d4, d5, d6, d7, _⟩ := L1.tl.ownHas.eight
      go_wp2_with fail
      refine (at_boolB (fits_any r c r c M1 M2 _) HFI.out).mono ?_
      rintro e w2 ⟨rfl, hb⟩
      have L2 := L1.kept hb
      clear L1 hb e0 e1 e2 e3 e4 e5 e6 e7 d0 d1 d2 d3 d4 d5 d6 d7
      obtain ⟨d0, d1, d2, d3, d4, d5, d6, d7, _⟩ := L2.tl.ownHas.eight
      have HL := Lib.hid L2; clear L2
      go_wp2_with fail
      clear d0 d1 d2 d3 d4 d5 d6 d7
      go_loop [26] (fun i => ∃ k : Nat, k ≤ 6 ∧ i = .int .i64 k ∧ Hid (∀ q, q < k → bits .andNot .i64 (M1 q) (M2 q) = 0)) (fun i => 6 - (intOf i).toNat)
      case atStart => exact ⟨0, by omega, rfl, Lib.hid (fun q hq => absurd hq (by omega))⟩
      case round =>
        obtain ⟨k, hk, rfl, HQ⟩ := hrel
        by_cases hlt : k < 6
        · have hcy := HL.out.ownHas.cell (2 + k)
          rw [gl_get _ _ _ k hlt] at hcy
          have ix := index6 M1 k hlt
          by_cases hz : bits .andNot .i64 (M1 k) (M2 k) = 0
          · have HZ : Hid (∀ q, q < k + 1 → bits .andNot .i64 (M1 q) (M2 q) = 0) := Lib.hid (fun q hq => by
              by_cases e : q = k
              · subst e; exact hz
              · exact HQ.out q (by omega))
            have hz1 : (bits .andNot .i64 (M1 k) (M2 k) != 0) = false := by rw [hz]; rfl
            clear hz
            go_wp2_with fail
            go_round
            case rel => exact ⟨k + 1, by omega, by go_num, HZ⟩
            case measure => simp [intOf]; omega
          · have HZ := Lib.hid (HN.out k hz)
            have hz1 : (bits .andNot .i64 (M1 k) (M2 k) != 0) = true := bne_iff_ne.2 hz
            clear hz
            go_wp2_with fail
            go_ret2
            exact ⟨by rw [HZ.out]; rfl, HL.out.below⟩
        · obtain rfl : k = 6 := by omega
          have HZ := Lib.hid (HY.out HQ.out)
          go_wp2_with fail
          go_ret2
          exact ⟨by rw [HZ.out]; rfl, HL.out.below⟩

set_option maxHeartbeats 3200000 in
theorem specIsPartOf_any (r c : Int) (xs : List Int) (r2 c2 : Int) (ys : List Int) (w : World) (hx : xs.length ≤ 1048576) (hy : ys.length ≤ 1048576) (lo : Nat) (s : Value) (lo2 : Nat) (s2 : Value) (hO : Own w lo s xs) (hO2 : Own w lo2 s2 ys) :
    Calls Try.prog 19 #[.agg #[.int .i64 r, .int .i64 c, s], .agg #[.int .i64 r2, .int .i64 c2, s2]] w fun e w' => AnsOO (partB r c xs r2 c2 ys) w e w' := by
  have L0 := ((Law.start w).box (.int .i64 r) (.int .i64 c) s 26).box (.int .i64 r2) (.int .i64 c2) s2 26
  simp only [World.size_alloc] at L0
  obtain ⟨a, cap, rfl, hr⟩ := hO.reads
  obtain ⟨a2, cap2, rfl, hr2⟩ := hO2.reads
  have hr0 := L0.reads hr
  clear hO hO2
  cases hp : goodB r c xs
  · rw [show partB r c xs r2 c2 ys = ⟨false, false⟩ by simp [partB, hp]]
    have HC := Lib.hid (at_boolB (boGood_any r c a cap xs _ hx hr0) hp)
    clear hp hr0
    go_enter Try.func19, Try.ntmps19
    go_wp2_with fail
    refine HC.out.mono ?_
    rintro e w1 ⟨rfl, hb⟩
    have HB := Lib.hid (L0.kept hb).below
    clear L0 hb HC
    go_wp2_with fail
    go_ret2
    exact ⟨rfl, HB.out⟩
  · cases hq : goodB r2 c2 ys
    · rw [show partB r c xs r2 c2 ys = ⟨false, false⟩ by simp [partB, hq]]
      have HC := Lib.hid (at_boolB (boGood_any r c a cap xs _ hx hr0) hp)
      have HQ := Lib.hid hq
      clear hp hr0 hq
      go_enter Try.func19, Try.ntmps19
      go_wp2_with fail
      refine HC.out.mono ?_
      rintro e w1 ⟨rfl, hb⟩
      have L1 := L0.kept hb
      have ⟨_, k0, k1, k2, _⟩ := L1.ownBox
      have hr1 := L1.reads hr2
      clear hb L0 HC
      go_wp2_with fail
      refine (at_boolB (boGood_any r2 c2 a2 cap2 ys _ hy hr1) HQ.out).mono ?_
      rintro e w2 ⟨rfl, hb⟩
      have HB := Lib.hid (L1.kept hb).below
      clear hb L1
      go_wp2_with fail
      go_ret2
      exact ⟨rfl, HB.out⟩
    · rw [show partB r c xs r2 c2 ys = ⟨fitB r c r2 c2 && partL xs ys, true⟩ by simp [partB, hp, hq]]
      obtain ⟨g1, g2, g3, _⟩ := good_facts hp
      obtain ⟨_, _, g4, _⟩ := good_facts hq
      have hpos : 0 < xs.length := by omega
      have hposy : 0 < ys.length := by have := (good_facts hq).1; omega
      have HP := Lib.hid hp; have HQ := Lib.hid hq
      clear hp hq
      cases hf : fitB r c r2 c2
      · have HFI := Lib.hid hf; clear hf
        go_enter Try.func19, Try.ntmps19
        go_wp2_with fail
        refine (at_boolB (boGood_any r c a cap xs _ hx hr0) HP.out).mono ?_
        rintro e w1 ⟨rfl, hb⟩
        have L1 := L0.kept hb
        have ⟨_, k0, k1, k2, _⟩ := L1.ownBox
        have hr1 := L1.reads hr2
        clear hb L0
        go_wp2_with fail
        refine (at_boolB (boGood_any r2 c2 a2 cap2 ys _ hy hr1) HQ.out).mono ?_
        rintro e w2 ⟨rfl, hb⟩
        have L2 := L1.kept hb
        have ⟨_, m0, m1, m2, _⟩ := L2.ownBox
        have ⟨_, n0, n1, n2, _⟩ := L2.tl.ownBox
        clear hb L1 k0 k1 k2
        go_wp2_with fail
        refine (at_boolB (boFit_any r c r2 c2 a a2 cap cap2 xs ys _ _ _ hx hy (L2.reads hr) (L2.reads hr2) HP.out HQ.out) (by simp only [Bool.and_self, Bool.true_and]; exact HFI.out)).mono ?_
        rintro e w3 ⟨rfl, hb⟩
        have HB := Lib.hid (L2.kept hb).below
        clear hb L2 m0 m1 m2 n0 n1 n2
        go_wp2_with fail
        go_ret2
        exact ⟨rfl, HB.out⟩
      · have hf' := hf
        simp only [fitB, decide_eq_true_eq] at hf'
        obtain ⟨h1, h2⟩ := hf'
        have hzy : ys.length = xs.length := by omega
        have hno : ∀ k, bits .andNot .i64 (xs.getD k 0) (ys.getD k 0) ≠ 0 → partL xs ys = false := fun k hk => partL_no xs ys hzy k hk
        have hyes : (∀ q, q < xs.length → bits .andNot .i64 (xs.getD q 0) (ys.getD q 0) = 0) → partL xs ys = true := fun h => partL_yes xs ys xs.length (by omega) h
        have HN := Lib.hid hno
        have HY := Lib.hid hyes
        have HZY := Lib.hid hzy
        have HFI := Lib.hid hf
        clear hno hyes hzy hf
        subst h1 h2
        go_enter Try.func19, Try.ntmps19
        go_wp2_with fail
        refine (at_boolB (boGood_any r c a cap xs _ hx hr0) HP.out).mono ?_
        rintro e w1 ⟨rfl, hb⟩
        have L1 := L0.kept hb
        have ⟨_, k0, k1, k2, _⟩ := L1.ownBox
        have hr1 := L1.reads hr2
        clear hb L0
        go_wp2_with fail
        refine (at_boolB (boGood_any r c a2 cap2 ys _ hy hr1) HQ.out).mono ?_
        rintro e w2 ⟨rfl, hb⟩
        have L2 := L1.kept hb
        have ⟨_, m0, m1, m2, _⟩ := L2.ownBox
        have ⟨_, n0, n1, n2, _⟩ := L2.tl.ownBox
        clear hb L1 k0 k1 k2
        go_wp2_with fail
        refine (at_boolB (boFit_any r c r c a a2 cap cap2 xs ys _ _ _ hx hy (L2.reads hr) (L2.reads hr2) HP.out HQ.out) (by simp only [Bool.and_self, Bool.true_and]; exact HFI.out)).mono ?_
        rintro e w3 ⟨rfl, hb⟩
        have L3 := L2.kept hb
        clear hb L2 m0 m1 m2 n0 n1 n2
        have ⟨_, m0, m1, m2, _⟩ := L3.ownBox
        have ⟨_, n0, n1, n2, _⟩ := L3.tl.ownBox
        obtain ⟨b0, o0, rfl, hb0, hc0⟩ := reads_row (L3.reads hr) hpos
        obtain ⟨b1, o1, rfl, hb1, hc1⟩ := reads_row (L3.reads hr2) hposy
        have HB := Lib.hid L3.below
        have H0 := Lib.hid hc0; have H1 := Lib.hid hc1
        clear L3 hc0 hc1
        go_wp2_with fail
        go_loop [23] (fun i => ∃ k : Nat, k ≤ xs.length ∧ i = .int .i64 k ∧ Hid (∀ q, q < k → bits .andNot .i64 (xs.getD q 0) (ys.getD q 0) = 0)) (fun i => xs.length - (intOf i).toNat)
        case atStart => exact ⟨0, by omega, rfl, Lib.hid (fun q hq => absurd hq (by omega))⟩
        case round =>
          obtain ⟨k, hk, rfl, HQQ⟩ := hrel
          by_cases hlt : k < xs.length
          · have hcx := H0.out k hlt
            have hlt2 : k < ys.length := by have := HZY.out; omega
            have hcy := H1.out k hlt2
            by_cases hz : bits .andNot .i64 (xs.getD k 0) (ys.getD k 0) = 0
            · have HZ : Hid (∀ q, q < k + 1 → bits .andNot .i64 (xs.getD q 0) (ys.getD q 0) = 0) := Lib.hid (fun q hq => by
                by_cases e : q = k
                · subst e; exact hz
                · exact HQQ.out q (by omega))
              have hz1 : (bits .andNot .i64 (xs.getD k 0) (ys.getD k 0) != 0) = false := by rw [hz]; rfl
              clear hz
              generalize xs.getD k 0 = x at *
              generalize ys.getD k 0 = y at *
              go_wp2_with fail
              go_round
              case rel => exact ⟨k + 1, by omega, by go_num, HZ⟩
              case measure => simp [intOf]; omega
            · have HZ := Lib.hid (HN.out k hz)
              have hz1 : (bits .andNot .i64 (xs.getD k 0) (ys.getD k 0) != 0) = true := bne_iff_ne.2 hz
              clear hz
              generalize xs.getD k 0 = x at *
              generalize ys.getD k 0 = y at *
              go_wp2_with fail
              go_ret2
              exact ⟨by rw [HZ.out]; rfl, HB.out⟩
          · obtain rfl : k = xs.length := by omega
            have HZ := Lib.hid (HY.out HQQ.out)
            go_wp2_with fail
            go_ret2
            exact ⟨by rw [HZ.out]; rfl, HB.out⟩

end Go.Proofs.Ytncbdmeagfadfab
