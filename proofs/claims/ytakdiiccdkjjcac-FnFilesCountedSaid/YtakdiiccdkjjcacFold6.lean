import Derived.Test.YtakdiiccdkjjcacFold5

section
namespace Go.Proofs.Ytakdiiccdkjjcac
open Go.RowKit Go.WideShapes

/-- Is there a place? -/
def insB (r c i j : Int) : Bool := decide (0 ≤ i ∧ i < r ∧ 0 ≤ j ∧ j < c)
theorem insB_iff {r c i j : Int} : insB r c i j = true ↔ 0 ≤ i ∧ i < r ∧ 0 ≤ j ∧ j < c := by simp [insB]
theorem insB_no {r c i j : Int} (h : ¬ (0 ≤ i ∧ i < r ∧ 0 ≤ j ∧ j < c)) : insB r c i j = false := by simp only [insB, decide_eq_false_iff_not]; exact h

/-- A grid as a value. -/
abbrev gv (r c : Int) (m : Nat → Int) : Value := .agg #[.int .i64 r, .int .i64 c, .int .i64 (m 0), .int .i64 (m 1), .int .i64 (m 2), .int .i64 (m 3), .int .i64 (m 4), .int .i64 (m 5)]

set_option maxHeartbeats 800000 in
theorem inside_any (r c i j : Int) (m : Nat → Int) (w : World) :
    Calls Try.prog 93 #[gv r c m, .int .i64 i, .int .i64 j] w fun e w' => e = .returned (.bool (insB r c i j)) ∧ Below w.heap.size w w' := by
  have HB := Lib.hid (below_new (w := w) (.cells #[.int .i64 r, .int .i64 c, .int .i64 (m 0), .int .i64 (m 1), .int .i64 (m 2), .int .i64 (m 3), .int .i64 (m 4), .int .i64 (m 5)] 83))
  by_cases h1 : 0 ≤ i
  · by_cases h2 : i < r
    · by_cases h3 : 0 ≤ j
      · by_cases h4 : j < c
        · have HI := Lib.hid (insB_iff.2 ⟨h1, h2, h3, h4⟩)
          go_enter Try.func93, Try.ntmps93
          go_wp2
          go_ret
          exact ⟨ret_bool HI.out.symm, HB.out⟩
        · have HI := Lib.hid (insB_no (r := r) (c := c) (i := i) (j := j) (by omega))
          go_enter Try.func93, Try.ntmps93
          go_wp2
          go_ret
          exact ⟨ret_bool (by rw [HI.out] <;> simp <;> omega), HB.out⟩
      · have HI := Lib.hid (insB_no (r := r) (c := c) (i := i) (j := j) (by omega))
        go_enter Try.func93, Try.ntmps93
        go_wp2
        go_ret
        exact ⟨ret_bool (by rw [HI.out] <;> simp <;> omega), HB.out⟩
    · have HI := Lib.hid (insB_no (r := r) (c := c) (i := i) (j := j) (by omega))
      go_enter Try.func93, Try.ntmps93
      go_wp2
      go_ret
      exact ⟨ret_bool (by rw [HI.out] <;> simp <;> omega), HB.out⟩
  · have HI := Lib.hid (insB_no (r := r) (c := c) (i := i) (j := j) (by omega))
    go_enter Try.func93, Try.ntmps93
    go_wp2
    go_ret
    exact ⟨ret_bool (by rw [HI.out] <;> simp <;> omega), HB.out⟩

/-- What a good board is. -/
theorem good_facts {r c : Int} {xs : List Int} (h : goodB r c xs = true) : (1 ≤ r ∧ r ≤ 6) ∧ (1 ≤ c ∧ c ≤ 6) ∧ (xs.length : Int) = r ∧ ∀ k, k < xs.length → 0 ≤ xs.getD k 0 ∧ xs.getD k 0 < pw c := by
  simp only [goodB, Bool.and_eq_true, inB_iff, decide_eq_true_eq] at h
  obtain ⟨h1, h2, h3, h4⟩ := h
  refine ⟨h1, h2, h3, fun k hk => ?_⟩
  rw [within, List.all_eq_true] at h4
  have := h4 (xs.getD k 0) (by simp [List.getD, hk])
  simp only [decide_eq_true_eq] at this
  omega
theorem pw_mono64 {c : Int} (h : 1 ≤ c ∧ c ≤ 6) : pw c ≤ 64 := (pw_bd (c := c) (by omega)).2.1
theorem good_cell {r c : Int} {xs : List Int} (h : goodB r c xs = true) (k : Nat) : 0 ≤ xs.getD k 0 ∧ xs.getD k 0 < 64 := by
  obtain ⟨h1, h2, h3, h4⟩ := good_facts h
  by_cases hk : k < xs.length
  · have := h4 k hk
    have := pw_mono64 h2
    omega
  · simp [List.getD, List.getElem?_eq_none (Nat.le_of_not_lt hk)]

/-- The place's bit. -/
def bitB (xs : List Int) (i j : Int) : Bool := (xs.getD i.toNat 0).toNat.testBit j.toNat

/-- What HasCell answers. -/
structure R2 where
  b : Bool
  ok : Bool
def hasB (r c : Int) (xs : List Int) (i j : Int) : R2 := if goodB r c xs && insB r c i j then ⟨bitB xs i j, true⟩ else ⟨false, false⟩
def AnsOO (R : R2) (w : World) (e : Ending) (w' : World) : Prop := e = .returned (.tuple #[.bool R.b, .bool R.ok]) ∧ Below w.heap.size w w'

set_option maxHeartbeats 800000 in
theorem implHas_any (r c : Int) (xs : List Int) (i j : Int) (w : World) (hx : xs.length ≤ 1048576) (lo : Nat) (s : Value) (hO : Own w lo s xs) :
    Calls Try.prog 94 #[.agg #[.int .i64 r, .int .i64 c, s], .int .i64 i, .int .i64 j] w fun e w' => AnsOO (hasB r c xs i j) w e w' := by
  obtain ⟨a, cap, rfl, hr⟩ := hO.reads
  have hb0 := below_new (w := w) (.cells #[.int .i64 r, .int .i64 c, .slice a xs.length cap] 28)
  have hr0 := hr.kept hb0
  clear hO hr
  cases hg : goodB r c xs
  · rw [show hasB r c xs i j = ⟨false, false⟩ by simp [hasB, hg]]
    go_enter Try.func94, Try.ntmps94
    go_wp2_with fail
    refine (gridOf_no r c a cap xs _ hx hr0 hg).mono ?_
    rintro e w1 ⟨rfl, hb⟩
    have hB := (below_on (below_on hb0 hb) (below_new (.cells #[.int .i64 0, .int .i64 0, .int .i64 0, .int .i64 0, .int .i64 0, .int .i64 0, .int .i64 0, .int .i64 0] 83)))
    have HB := Lib.hid hB; clear hB hb hb0 hg
    go_wp2_with fail
    go_ret2
    exact ⟨rfl, HB.out⟩
  · cases hi : insB r c i j
    · rw [show hasB r c xs i j = ⟨false, false⟩ by simp [hasB, hi]]
      go_enter Try.func94, Try.ntmps94
      go_wp2_with fail
      refine (gridOf_yes r c a cap xs _ hx hr0 hg).mono ?_
      rintro e w1 ⟨rfl, hb⟩
      have hB := (below_on (below_on hb0 hb) (below_new (.cells (gl r c (fun k => xs.getD k 0)).toArray 83)))
      have HB := Lib.hid hB; clear hB hb hb0 hg
      have HI := Lib.hid hi; clear hi
      go_wp2_with fail
      refine (inside_any r c i j (fun k => xs.getD k 0) _).mono ?_
      rintro e w2 ⟨rfl, hb⟩
      rw [HI.out]
      have HB2 := Lib.hid (below_on HB.out hb)
      clear hb
      go_wp2_with fail
      go_ret2
      exact ⟨rfl, HB2.out⟩
    · rw [show hasB r c xs i j = ⟨bitB xs i j, true⟩ by simp [hasB, hg, hi]]
      obtain ⟨h1, h2, h3, h4⟩ := insB_iff.1 hi
      obtain ⟨g1, g2, g3, _⟩ := good_facts hg
      obtain ⟨k, rfl⟩ := Int.eq_ofNat_of_zero_le h1
      obtain ⟨l, rfl⟩ := Int.eq_ofNat_of_zero_le h3
      have hbit : bitB xs k l = (xs.getD k 0).toNat.testBit l := by simp [bitB]
      rw [hbit]
      have hcell := good_cell hg k
      go_enter Try.func94, Try.ntmps94
      go_wp2_with fail
      refine (gridOf_yes r c a cap xs _ hx hr0 hg).mono ?_
      rintro e w1 ⟨rfl, hb⟩
      have hB := (below_on (below_on hb0 hb) (below_new (.cells (gl r c (fun k => xs.getD k 0)).toArray 83)))
      have HB := Lib.hid hB; clear hB hb hb0 hg hbit
      have HI := Lib.hid hi; clear hi
      have H8 := (Has.new w1 (gl r c (fun k => xs.getD k 0)) 83)
      go_wp2_with fail
      refine (inside_any r c k l (fun k => xs.getD k 0) _).mono ?_
      rintro e w2 ⟨rfl, hb⟩
      rw [HI.out]
      have HB2 := Lib.hid (below_on HB.out hb)
      obtain ⟨e0, e1, e2, e3, e4, e5, e6, e7, _⟩ := (H8.kept hb (by simp)).eight
      clear hb H8
      go_wp2_with fail
      refine (at_any r c (fun k => xs.getD k 0) k l _ (by omega) (by omega) hcell).mono ?_
      rintro e w3 ⟨rfl, hb⟩
      have HB3 := Lib.hid (below_on HB2.out hb)
      clear hb
      go_wp2_with fail
      go_ret2
      exact ⟨rfl, HB3.out⟩

/-- A contract that answers a Bool, at that Bool, where memory may be made. -/
theorem at_boolB {P : Program} {f : FuncId} {args : Array Value} {b c : Bool} {w : World} (h : Calls P f args w fun e w' => e = .returned (.bool b) ∧ Below w.heap.size w w') (e : b = c) : Calls P f args w fun e w' => e = .returned (.bool c) ∧ Below w.heap.size w w' := by
  subst e
  exact h

def placeB (r c : Int) (xs : List Int) (i j : Int) : Bool := goodB r c xs && insB r c i j

set_option maxHeartbeats 800000 in
theorem boPlace_any (r c : Int) (xs : List Int) (i j : Int) (w : World) (hx : xs.length ≤ 1048576) (lo : Nat) (s : Value) (hO : Own w lo s xs) :
    Calls Try.prog 97 #[.agg #[.int .i64 r, .int .i64 c, s], .int .i64 i, .int .i64 j] w fun e w' => e = .returned (.bool (placeB r c xs i j)) ∧ Below w.heap.size w w' := by
  obtain ⟨a, cap, rfl, hr⟩ := hO.reads
  have hb0 := below_new (w := w) (.cells #[.int .i64 r, .int .i64 c, .slice a xs.length cap] 28)
  have hr0 := hr.kept hb0
  have X0 := Box.new w (.int .i64 r) (.int .i64 c) (.slice a xs.length cap) 28
  clear hO hr
  cases hg : goodB r c xs
  · rw [show placeB r c xs i j = false by simp [placeB, hg]]
    go_enter Try.func97, Try.ntmps97
    go_wp2_with fail
    refine (at_boolB (boGood_any r c a cap xs _ hx hr0) hg).mono ?_
    rintro e w1 ⟨rfl, hb⟩
    have HB := Lib.hid (below_on hb0 hb)
    clear hb hb0 hg X0
    go_wp2_with fail
    go_ret
    exact ⟨rfl, HB.out⟩
  · obtain ⟨g1, g2, g3, _⟩ := good_facts hg
    by_cases h1 : 0 ≤ i ∧ i ≤ r - 1
    · by_cases h2 : 0 ≤ j ∧ j ≤ c - 1
      · rw [show placeB r c xs i j = true by rw [placeB, hg, Bool.true_and, insB_iff]; omega]
        have c1 := at_bool (l1In_any i 0 (r - 1)) (inB_yes h1.1 h1.2)
        have c2 := at_bool (l1In_any j 0 (c - 1)) (inB_yes h2.1 h2.2)
        have C1 := Lib.hid c1; clear c1
        have C2 := Lib.hid c2; clear c2
        clear g3 h1 h2
        go_enter Try.func97, Try.ntmps97
        go_wp2_with fail
        refine (at_boolB (boGood_any r c a cap xs _ hx hr0) hg).mono ?_
        rintro e w1 ⟨rfl, hb⟩
        have ⟨_, k0, k1, k2, _⟩ := X0.kept hb
        have HB := Lib.hid (below_on hb0 hb)
        clear hb hb0 hg X0
        go_wp2_with fail
        refine (C1.out _).mono ?_
        rintro e w2 ⟨rfl, rfl⟩
        go_wp2_with fail
        refine (C2.out _).mono ?_
        rintro e w3 ⟨rfl, rfl⟩
        go_wp2_with fail
        go_ret
        exact ⟨rfl, HB.out⟩
      · rw [show placeB r c xs i j = false by rw [placeB, hg, Bool.true_and]; exact insB_no (by omega)]
        have c1 := at_bool (l1In_any i 0 (r - 1)) (inB_yes h1.1 h1.2)
        have c2 := at_bool (l1In_any j 0 (c - 1)) (inB_no h2)
        have C1 := Lib.hid c1; clear c1
        have C2 := Lib.hid c2; clear c2
        clear g3 h1 h2
        go_enter Try.func97, Try.ntmps97
        go_wp2_with fail
        refine (at_boolB (boGood_any r c a cap xs _ hx hr0) hg).mono ?_
        rintro e w1 ⟨rfl, hb⟩
        have ⟨_, k0, k1, k2, _⟩ := X0.kept hb
        have HB := Lib.hid (below_on hb0 hb)
        clear hb hb0 hg X0
        go_wp2_with fail
        refine (C1.out _).mono ?_
        rintro e w2 ⟨rfl, rfl⟩
        go_wp2_with fail
        refine (C2.out _).mono ?_
        rintro e w3 ⟨rfl, rfl⟩
        go_wp2_with fail
        go_ret
        exact ⟨rfl, HB.out⟩
    · rw [show placeB r c xs i j = false by rw [placeB, hg, Bool.true_and]; exact insB_no (by omega)]
      have c1 := at_bool (l1In_any i 0 (r - 1)) (inB_no h1)
      have C1 := Lib.hid c1; clear c1
      clear g3 h1
      go_enter Try.func97, Try.ntmps97
      go_wp2_with fail
      refine (at_boolB (boGood_any r c a cap xs _ hx hr0) hg).mono ?_
      rintro e w1 ⟨rfl, hb⟩
      have ⟨_, k0, k1, k2, _⟩ := X0.kept hb
      have HB := Lib.hid (below_on hb0 hb)
      clear hb hb0 hg X0
      go_wp2_with fail
      refine (C1.out _).mono ?_
      rintro e w2 ⟨rfl, rfl⟩
      go_wp2_with fail
      go_ret
      exact ⟨rfl, HB.out⟩

theorem bit_mod (x : Int) (j : Nat) (h : 0 ≤ x ∧ x < 64) (hj : j < 6) : ((x / 2 ^ j).tmod 2 == 1) = x.toNat.testBit j := by
  obtain ⟨n, rfl⟩ := Int.eq_ofNat_of_zero_le h.1
  have hn : n < 64 := by omega
  have key : ∀ n : Fin 64, ∀ j : Fin 6, ((((n : Nat) : Int) / 2 ^ (j : Nat)).tmod 2 == 1) = (n : Nat).testBit j := by decide +kernel
  exact key ⟨n, hn⟩ ⟨j, hj⟩

set_option maxHeartbeats 800000 in
theorem boHas_any (r c : Int) (xs : List Int) (k l : Nat) (w : World) (hk : k < xs.length) (hx : xs.length ≤ 1048576) (hl : l < 6) (hm : 0 ≤ xs.getD k 0 ∧ xs.getD k 0 < 64) (lo : Nat) (s : Value) (hO : Own w lo s xs) :
    Calls Try.prog 84 #[.agg #[.int .i64 r, .int .i64 c, s], .int .i64 k, .int .i64 l] w fun e w' => e = .returned (.bool ((xs.getD k 0).toNat.testBit l)) ∧ Below w.heap.size w w' := by
  rcases hO.cases with ⟨rfl, rfl⟩ | ⟨g, cap, rfl, h1, h2, h3, h4⟩
  · simp at hk
  · have hb0 := below_new (w := w) (.cells #[.int .i64 r, .int .i64 c, .slice (some ⟨g, 0, none⟩) xs.length cap] 28)
    have hc := (hO.kept hb0).cell k hk
    have hbit := bit_mod (xs.getD k 0) l hm hl
    generalize xs.getD k 0 = x at *
    have HB := Lib.hid hb0; clear hb0 hO
    go_enter Try.func84, Try.ntmps84
    go_wp2_with fail
    go_ret
    exact ⟨rfl, HB.out⟩


end Go.Proofs.Ytakdiiccdkjjcac
end

section
namespace Go.Proofs.Ytakdiiccdkjjcac
open Go.RowKit Go.WideShapes

/-- What a call answers that tells a number. -/
structure R1 where
  y : Int
  ok : Bool
def AnsIO (R : R1) (w : World) (e : Ending) (w' : World) : Prop := e = .returned (.tuple #[.int .i64 R.y, .bool R.ok]) ∧ Below w.heap.size w w'
/-- What a call answers that tells a list. -/
structure LR where
  ys : List Int
  ok : Bool
def AnsL (R : LR) (w : World) (e : Ending) (w' : World) : Prop := ∃ s, e = .returned (.tuple #[s, .bool R.ok]) ∧ Own w' w.heap.size s R.ys ∧ Below w.heap.size w w'

/-- How many bits a mask has. -/
def pop (x : Int) : Int := (((List.range 6).filter (fun b => x.toNat.testBit b)).length : Int)
def oc1 (n : Int) : Int := IntKind.u64.wrap (bits .and .u64 (n / 2) 6148914691236517205 + bits .and .u64 n 6148914691236517205)
def oc2 (n : Int) : Int := IntKind.u64.wrap (bits .and .u64 (oc1 n / 4) 3689348814741910323 + bits .and .u64 (oc1 n) 3689348814741910323)
def oc3 (n : Int) : Int := bits .and .u64 (IntKind.u64.wrap (oc2 n / 16 + oc2 n)) 1085102592571150095
def oc4 (n : Int) : Int := IntKind.u64.wrap (oc3 n + oc3 n / 256)
def oc5 (n : Int) : Int := IntKind.u64.wrap (oc4 n + oc4 n / 65536)
def oc6 (n : Int) : Int := IntKind.u64.wrap (oc5 n + oc5 n / 4294967296)
def oc (n : Int) : Int := bits .and .i64 (wrap64 (oc6 n)) 127
theorem oc_eq (n : Nat) (h : n < 64) : oc n = pop n := by
  have key : ∀ n : Fin 64, oc ((n : Nat) : Int) = pop ((n : Nat) : Int) := by decide +kernel
  exact key ⟨n, h⟩

set_option maxHeartbeats 1600000 in
theorem ones64_any (n : Nat) (w : World) (hn : n < 64) :
    Calls Try.prog 168 #[.int .u64 n] w fun e w' => e = .returned (.int .i64 (pop n)) ∧ w = w' := by
  have h0 : 0 ≤ (n : Int) := by omega
  have h1 : (n : Int) < 64 := by omega
  go_enter Try.func168, Try.ntmps168
  go_wp2
  go_ret
  exact ⟨ret_int (oc_eq n hn), rfl⟩
set_option maxHeartbeats 800000 in
theorem ones_any (n : Nat) (w : World) (hn : n < 64) :
    Calls Try.prog 150 #[.int .u64 n] w fun e w' => e = .returned (.int .i64 (pop n)) ∧ w = w' := by
  go_enter Try.func150, Try.ntmps150
  go_wp2_with fail
  refine (ones64_any n w hn).mono ?_
  rintro e w' ⟨rfl, rfl⟩
  go_wp2_with fail
  go_ret
  exact ⟨rfl, rfl⟩
theorem pop_bd (x : Int) : 0 ≤ pop x ∧ pop x ≤ 6 := by
  unfold pop
  have := List.length_filter_le (fun b => x.toNat.testBit b) (List.range 6)
  simp only [List.length_range] at this
  omega
theorem ix6a (x0 x1 x2 x3 x4 x5 : Int) (W : World) : (Instr.index 81 (.agg #[.int .i64 x0, .int .i64 x1, .int .i64 x2, .int .i64 x3, .int .i64 x4, .int .i64 x5]) (.int .i64 0)).run Try.prog W = .ok (.int .i64 x0) W := by kernel_rfl
theorem ix6b (x0 x1 x2 x3 x4 x5 : Int) (W : World) : (Instr.index 81 (.agg #[.int .i64 x0, .int .i64 x1, .int .i64 x2, .int .i64 x3, .int .i64 x4, .int .i64 x5]) (.int .i64 1)).run Try.prog W = .ok (.int .i64 x1) W := by kernel_rfl
theorem ix6c (x0 x1 x2 x3 x4 x5 : Int) (W : World) : (Instr.index 81 (.agg #[.int .i64 x0, .int .i64 x1, .int .i64 x2, .int .i64 x3, .int .i64 x4, .int .i64 x5]) (.int .i64 2)).run Try.prog W = .ok (.int .i64 x2) W := by kernel_rfl
theorem ix6d (x0 x1 x2 x3 x4 x5 : Int) (W : World) : (Instr.index 81 (.agg #[.int .i64 x0, .int .i64 x1, .int .i64 x2, .int .i64 x3, .int .i64 x4, .int .i64 x5]) (.int .i64 3)).run Try.prog W = .ok (.int .i64 x3) W := by kernel_rfl
theorem ix6e (x0 x1 x2 x3 x4 x5 : Int) (W : World) : (Instr.index 81 (.agg #[.int .i64 x0, .int .i64 x1, .int .i64 x2, .int .i64 x3, .int .i64 x4, .int .i64 x5]) (.int .i64 4)).run Try.prog W = .ok (.int .i64 x4) W := by kernel_rfl
theorem ix6f (x0 x1 x2 x3 x4 x5 : Int) (W : World) : (Instr.index 81 (.agg #[.int .i64 x0, .int .i64 x1, .int .i64 x2, .int .i64 x3, .int .i64 x4, .int .i64 x5]) (.int .i64 5)).run Try.prog W = .ok (.int .i64 x5) W := by kernel_rfl
/-- The value at an index of an array of six. -/
theorem ix6 (M : Nat → Int) (k : Nat) (hk : k < 6) (W : World) : (Instr.index 81 (.agg #[.int .i64 (M 0), .int .i64 (M 1), .int .i64 (M 2), .int .i64 (M 3), .int .i64 (M 4), .int .i64 (M 5)]) (.int .i64 k)).run Try.prog W = .ok (.int .i64 (M k)) W := by
  match k, hk with
  | 0, _ => exact ix6a _ _ _ _ _ _ W
  | 1, _ => exact ix6b _ _ _ _ _ _ W
  | 2, _ => exact ix6c _ _ _ _ _ _ W
  | 3, _ => exact ix6d _ _ _ _ _ _ W
  | 4, _ => exact ix6e _ _ _ _ _ _ W
  | 5, _ => exact ix6f _ _ _ _ _ _ W

end Go.Proofs.Ytakdiiccdkjjcac
end
