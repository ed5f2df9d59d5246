import Derived.Test.YtabfiafjcnilnaaFold6
import Derived.Test.YtabfiafjcnilnaaFold7
import Derived.Test.YtabfiafjcnilnaaFold4

section
namespace Go.Proofs.Ytabfiafjcnilnaa
open Go.RowKit Go.WideShapes

/-- Is there a place? -/
def insB (r c i j : Int) : Bool := decide (0 ≤ i ∧ i < r ∧ 0 ≤ j ∧ j < c)
theorem insB_iff {r c i j : Int} : insB r c i j = true ↔ 0 ≤ i ∧ i < r ∧ 0 ≤ j ∧ j < c := by simp [insB]
theorem insB_no {r c i j : Int} (h : ¬ (0 ≤ i ∧ i < r ∧ 0 ≤ j ∧ j < c)) : insB r c i j = false := by simp only [insB, decide_eq_false_iff_not]; exact h

/-- A grid as a value. -/
abbrev gv (r c : Int) (m : Nat → Int) : Value := .agg #[.int .i64 r, .int .i64 c, .int .i64 (m 0), .int .i64 (m 1), .int .i64 (m 2), .int .i64 (m 3), .int .i64 (m 4), .int .i64 (m 5)]

/-- What a good board is. -/
theorem good_facts {r c : Int} {xs : List Int} (h : goodB r c xs = true) : (1 ≤ r ∧ r ≤ 6) ∧ (1 ≤ c ∧ c ≤ 6) ∧ (xs.length : Int) = r ∧ ∀ k, k < xs.length → 0 ≤ xs.getD k 0 ∧ xs.getD k 0 < pw c := by
  simp only [goodB, Bool.and_eq_true, inB_iff, decide_eq_true_eq] at h
  obtain ⟨h1, h2, h3, h4⟩ := h
  refine ⟨h1, h2, h3, fun k hk => ?_⟩
  rw [within, List.all_eq_true] at h4
  have := h4 (xs.getD k 0) (by simp [List.getD, hk])
  simp only [decide_eq_true_eq] at this
  omega
theorem pw_mono64 {c : Int} (h : 1 ≤ c ∧ c ≤ 6) : pw c ≤ 64 := (pw_bd (c := c) (by omega)).2.1
theorem good_cell {r c : Int} {xs : List Int} (h : goodB r c xs = true) (k : Nat) : 0 ≤ xs.getD k 0 ∧ xs.getD k 0 < 64 := by
  obtain ⟨h1, h2, h3, h4⟩ := good_facts h
  by_cases hk : k < xs.length
  · have := h4 k hk
    have := pw_mono64 h2
    omega
  · simp [List.getD, List.getElem?_eq_none (Nat.le_of_not_lt hk)]

/-- The place's bit. -/
def bitB (xs : List Int) (i j : Int) : Bool := (xs.getD i.toNat 0).toNat.testBit j.toNat

/-- What HasCell answers. -/
structure R2 where
  b : Bool
  ok : Bool
def hasB (r c : Int) (xs : List Int) (i j : Int) : R2 := if goodB r c xs && insB r c i j then ⟨bitB xs i j, true⟩ else ⟨false, false⟩
def AnsOO (R : R2) (w : World) (e : Ending) (w' : World) : Prop := e = .returned (.tuple #[.bool R.b, .bool R.ok]) ∧ Below w.heap.size w w'

/-- A contract that answers a Bool, at that Bool, where memory may be made. -/
theorem at_boolB {P : Program} {f : FuncId} {args : Array Value} {b c : Bool} {w : World} (h : Calls P f args w fun e w' => e = .returned (.bool b) ∧ Below w.heap.size w w') (e : b = c) : Calls P f args w fun e w' => e = .returned (.bool c) ∧ Below w.heap.size w w' := by
  subst e
  exact h

def placeB (r c : Int) (xs : List Int) (i j : Int) : Bool := goodB r c xs && insB r c i j

theorem bit_mod (x : Int) (j : Nat) (h : 0 ≤ x ∧ x < 64) (hj : j < 6) : ((x / 2 ^ j).tmod 2 == 1) = x.toNat.testBit j := by
  obtain ⟨n, rfl⟩ := Int.eq_ofNat_of_zero_le h.1
  have hn : n < 64 := by omega
  have key : ∀ n : Fin 64, ∀ j : Fin 6, ((((n : Nat) : Int) / 2 ^ (j : Nat)).tmod 2 == 1) = (n : Nat).testBit j := by decide +kernel
  exact key ⟨n, hn⟩ ⟨j, hj⟩

end Go.Proofs.Ytabfiafjcnilnaa
end

section
namespace Go.Proofs.Ytabfiafjcnilnaa
open Go.RowKit Go.WideShapes

/-- What a call answers that tells a number. -/
structure R1 where
  y : Int
  ok : Bool
def AnsIO (R : R1) (w : World) (e : Ending) (w' : World) : Prop := e = .returned (.tuple #[.int .i64 R.y, .bool R.ok]) ∧ Below w.heap.size w w'
/-- What a call answers that tells a list. -/
structure LR where
  ys : List Int
  ok : Bool
def AnsL (R : LR) (w : World) (e : Ending) (w' : World) : Prop := ∃ s, e = .returned (.tuple #[s, .bool R.ok]) ∧ Own w' w.heap.size s R.ys ∧ Below w.heap.size w w'

/-- How many bits a mask has. -/
def pop (x : Int) : Int := (((List.range 6).filter (fun b => x.toNat.testBit b)).length : Int)
def oc1 (n : Int) : Int := IntKind.u64.wrap (bits .and .u64 (n / 2) 6148914691236517205 + bits .and .u64 n 6148914691236517205)
def oc2 (n : Int) : Int := IntKind.u64.wrap (bits .and .u64 (oc1 n / 4) 3689348814741910323 + bits .and .u64 (oc1 n) 3689348814741910323)
def oc3 (n : Int) : Int := bits .and .u64 (IntKind.u64.wrap (oc2 n / 16 + oc2 n)) 1085102592571150095
def oc4 (n : Int) : Int := IntKind.u64.wrap (oc3 n + oc3 n / 256)
def oc5 (n : Int) : Int := IntKind.u64.wrap (oc4 n + oc4 n / 65536)
def oc6 (n : Int) : Int := IntKind.u64.wrap (oc5 n + oc5 n / 4294967296)
def oc (n : Int) : Int := bits .and .i64 (wrap64 (oc6 n)) 127
theorem oc_eq (n : Nat) (h : n < 64) : oc n = pop n := by
  have key : ∀ n : Fin 64, oc ((n : Nat) : Int) = pop ((n : Nat) : Int) := by decide +kernel
  exact key ⟨n, h⟩

theorem pop_bd (x : Int) : 0 ≤ pop x ∧ pop x ≤ 6 := by
  unfold pop
  have := List.length_filter_le (fun b => x.toNat.testBit b) (List.range 6)
  simp only [List.length_range] at this
  omega
theorem ix6a (x0 x1 x2 x3 x4 x5 : Int) (W : World) : (Instr.index 45 (.agg #[.int .i64 x0, .int .i64 x1, .int .i64 x2, .int .i64 x3, .int .i64 x4, .int .i64 x5]) (.int .i64 0)).run Try.prog W = .ok (.int .i64 x0) W := by kernel_rfl
theorem ix6b (x0 x1 x2 x3 x4 x5 : Int) (W : World) : (Instr.index 45 (.agg #[.int .i64 x0, .int .i64 x1, .int .i64 x2, .int .i64 x3, .int .i64 x4, .int .i64 x5]) (.int .i64 1)).run Try.prog W = .ok (.int .i64 x1) W := by kernel_rfl
theorem ix6c (x0 x1 x2 x3 x4 x5 : Int) (W : World) : (Instr.index 45 (.agg #[.int .i64 x0, .int .i64 x1, .int .i64 x2, .int .i64 x3, .int .i64 x4, .int .i64 x5]) (.int .i64 2)).run Try.prog W = .ok (.int .i64 x2) W := by kernel_rfl
theorem ix6d (x0 x1 x2 x3 x4 x5 : Int) (W : World) : (Instr.index 45 (.agg #[.int .i64 x0, .int .i64 x1, .int .i64 x2, .int .i64 x3, .int .i64 x4, .int .i64 x5]) (.int .i64 3)).run Try.prog W = .ok (.int .i64 x3) W := by kernel_rfl
theorem ix6e (x0 x1 x2 x3 x4 x5 : Int) (W : World) : (Instr.index 45 (.agg #[.int .i64 x0, .int .i64 x1, .int .i64 x2, .int .i64 x3, .int .i64 x4, .int .i64 x5]) (.int .i64 4)).run Try.prog W = .ok (.int .i64 x4) W := by kernel_rfl
theorem ix6f (x0 x1 x2 x3 x4 x5 : Int) (W : World) : (Instr.index 45 (.agg #[.int .i64 x0, .int .i64 x1, .int .i64 x2, .int .i64 x3, .int .i64 x4, .int .i64 x5]) (.int .i64 5)).run Try.prog W = .ok (.int .i64 x5) W := by kernel_rfl
/-- The value at an index of an array of six. -/
theorem ix6 (M : Nat → Int) (k : Nat) (hk : k < 6) (W : World) : (Instr.index 45 (.agg #[.int .i64 (M 0), .int .i64 (M 1), .int .i64 (M 2), .int .i64 (M 3), .int .i64 (M 4), .int .i64 (M 5)]) (.int .i64 k)).run Try.prog W = .ok (.int .i64 (M k)) W := by
  match k, hk with
  | 0, _ => exact ix6a _ _ _ _ _ _ W
  | 1, _ => exact ix6b _ _ _ _ _ _ W
  | 2, _ => exact ix6c _ _ _ _ _ _ W
  | 3, _ => exact ix6d _ _ _ _ _ _ W
  | 4, _ => exact ix6e _ _ _ _ _ _ W
  | 5, _ => exact ix6f _ _ _ _ _ _ W

end Go.Proofs.Ytabfiafjcnilnaa
end

section
namespace Go.Proofs.Ytabfiafjcnilnaa
open Go.RowKit Go.WideShapes

/-- A series' block and its value. -/
abbrev sl (n : Int) (f : Nat → Int) : List Value := [.int .i64 n, .int .i64 (f 0), .int .i64 (f 1), .int .i64 (f 2), .int .i64 (f 3), .int .i64 (f 4), .int .i64 (f 5)]
abbrev sv (n : Int) (f : Nat → Int) : Value := .agg #[.int .i64 n, .int .i64 (f 0), .int .i64 (f 1), .int .i64 (f 2), .int .i64 (f 3), .int .i64 (f 4), .int .i64 (f 5)]
abbrev sv0 : Value := .agg #[.int .i64 0, .int .i64 0, .int .i64 0, .int .i64 0, .int .i64 0, .int .i64 0, .int .i64 0]
theorem Has.seven {w : World} {b : Nat} {v0 v1 v2 v3 v4 v5 v6 : Value} {t : TypeId} (h : Has w b [v0, v1, v2, v3, v4, v5, v6] t) :
    w.cell? ⟨b, 0, none⟩ = some v0 ∧ w.cell? ⟨b, 1, none⟩ = some v1 ∧ w.cell? ⟨b, 2, none⟩ = some v2 ∧ w.cell? ⟨b, 3, none⟩ = some v3 ∧ w.cell? ⟨b, 4, none⟩ = some v4 ∧ w.cell? ⟨b, 5, none⟩ = some v5 ∧ w.cell? ⟨b, 6, none⟩ = some v6 ∧ ∀ o, w.frozen? ⟨b, o, none⟩ = false :=
  ⟨h.cell 0, h.cell 1, h.cell 2, h.cell 3, h.cell 4, h.cell 5, h.cell 6, h.free⟩
theorem sl_get (n : Int) (f : Nat → Int) (i : Nat) (h : i < 6) : (sl n f)[1 + i]? = some (.int .i64 (f i)) := by
  have : i = 0 ∨ i = 1 ∨ i = 2 ∨ i = 3 ∨ i = 4 ∨ i = 5 := by omega
  rcases this with rfl | rfl | rfl | rfl | rfl | rfl <;> rfl
theorem sl_set (n : Int) (f g : Nat → Int) (i : Nat) (h : i < 6) (x : Int) (hx : g i = x) (hg : ∀ k, k ≠ i → g k = f k) : (sl n f).set (1 + i) (.int .i64 x) = sl n g := by
  have : i = 0 ∨ i = 1 ∨ i = 2 ∨ i = 3 ∨ i = 4 ∨ i = 5 := by omega
  subst hx
  rcases this with rfl | rfl | rfl | rfl | rfl | rfl <;> simp [hg]
theorem ser_cells (r : Int) (xs : List Int) (h : xs.length ≤ 6) :
    splice [.int .i64 r, .int .i64 0, .int .i64 0, .int .i64 0, .int .i64 0, .int .i64 0, .int .i64 0] 1 (xs.map (Value.int .i64)) = sl r (fun k => xs.getD k 0) := by
  match xs, h with
  | [], _ => rfl
  | [_], _ => rfl
  | [_, _], _ => rfl
  | [_, _, _], _ => rfl
  | [_, _, _, _], _ => rfl
  | [_, _, _, _, _], _ => rfl
  | [_, _, _, _, _, _], _ => rfl
  | _ :: _ :: _ :: _ :: _ :: _ :: _ :: _, h => simp at h

theorem Drawn.more {w w' : World} (h : Drawn w w') (n : Nat) : Drawn w (w'.drewN n) := by
  obtain ⟨m, rfl⟩ := h
  exact drawn2 _ _ _

set_option maxHeartbeats 800000 in
theorem feGood_any (a : Option Addr) (p : Nat) (xs : List Int) (w : World) (hx : xs.length ≤ 1048576) (hr : Reads w a xs.length xs) :
    Calls Try.prog 28 #[.slice a xs.length p] w fun e w' => e = .returned (.bool (lenB xs)) ∧ Below w.heap.size w w' := by
  cases h1 : inB 1 xs.length 6
  · have HC := Lib.hid (at_bool (boSide_any xs.length) h1)
    rw [show lenB xs = false by simp [lenB, h1]]
    clear h1
    go_enter Try.func28, Try.ntmps28
    go_wp2_with fail
    refine (HC.out _).mono ?_
    rintro e w' ⟨rfl, hww⟩
    subst hww
    go_wp2_with fail
    go_ret
    exact ⟨rfl, Below.refl _ _⟩
  · have HC := Lib.hid (at_bool (boSide_any xs.length) h1)
    cases h2 : within 0 xs.length xs
    · have HA := l1All_any a p xs 0 xs.length w hx hr
      rw [h2] at HA
      have HA := Lib.hid HA
      rw [show lenB xs = false by simp [lenB, h2]]
      clear h1 h2
      go_enter Try.func28, Try.ntmps28
      go_wp2_with fail
      refine (HC.out _).mono ?_
      rintro e w' ⟨rfl, hww⟩
      subst hww
      go_wp2_with fail
      refine HA.out.mono ?_
      rintro e w' ⟨rfl, rfl⟩
      go_wp2_with fail
      go_ret
      exact ⟨rfl, Below.refl _ _⟩
    · have HA := l1All_any a p xs 0 xs.length w hx hr
      rw [h2] at HA
      have HA := Lib.hid HA
      rw [show lenB xs = sortB xs by simp [lenB, h1, h2]]
      have hl := inB_iff.1 h1
      have hl0 : 1 ≤ xs.length := by omega
      clear h1 h2 hl
      go_enter Try.func28, Try.ntmps28
      go_wp2_with fail
      refine (HC.out _).mono ?_
      rintro e w' ⟨rfl, hww⟩
      subst hww
      go_wp2_with fail
      refine HA.out.mono ?_
      rintro e w' ⟨rfl, rfl⟩
      go_wp2_with fail
      go_loopw [3] (fun i wr => ∃ k : Nat, 1 ≤ k ∧ k ≤ xs.length ∧ i = .int .i64 k ∧ Hid (∀ j, j + 1 < k → xs.getD j 0 ≤ xs.getD (j + 1) 0) ∧ Drawn w' wr) (fun i _ => xs.length - (intOf i).toNat)
      case atStart => exact ⟨1, Nat.le_refl _, hl0, rfl, (fun j hj => by omega : ∀ j, j + 1 < 1 → xs.getD j 0 ≤ xs.getD (j + 1) 0), Drawn.refl _⟩
      case round =>
        obtain ⟨k, hk1, hk, rfl, HE, hd⟩ := hrel
        by_cases hlt : k < xs.length
        · obtain ⟨b, off, rfl, hb, hc⟩ := reads_row (hr.kept hd.below) hl0
          have hck := hc k hlt
          have hcj := hc (k - 1) (by omega)
          clear hc hb
          have hk0 : (0 : Int) ≤ (k : Int) - 1 := by omega
          have hk2 : ((k : Int) - 1).toNat = k - 1 := by omega
          have hk3 : (k : Int) - 1 < xs.length := by omega
          have hk4 : IntKind.i64.wrap ((k : Int) - 1) = (k : Int) - 1 := by have := HA; exact IntWalk.i64_in _ (by omega)
          have hyes : ¬ xs.getD k 0 < xs.getD (k - 1) 0 → ∀ j, j + 1 < k + 1 → xs.getD j 0 ≤ xs.getD (j + 1) 0 := by
            intro h j hj
            by_cases e : j + 1 = k
            · subst e
              rw [Nat.add_sub_cancel] at h
              omega
            · exact HE.out j (by omega)
          have hno : xs.getD k 0 < xs.getD (k - 1) 0 → sortB xs = false := by
            intro h
            refine sortB_no (k - 1) (by omega) ?_
            rw [show k - 1 + 1 = k by omega]
            omega
          have HD := Lib.hid hd
          clear hd HE
          generalize xs.getD k 0 = y at *
          generalize xs.getD (k - 1) 0 = x at *
          by_cases hyx : y < x
          · have HN := Lib.hid (hno hyx)
            clear hyes hno
            go_wp2_with fail
            go_quiet (fail)
            go_wp2_with fail
            go_ret
            exact ⟨ret_bool HN.out.symm, (HD.out.more _).below⟩
          · have HN := Lib.hid (hyes hyx)
            clear hyes hno
            go_wp2_with fail
            go_quiet (fail)
            go_wp2_with fail
            go_roundw
            case rel => exact ⟨k + 1, by omega, by omega, by go_num, HN.out, HD.out.more _⟩
            case measure => simp [intOf]; omega
        · obtain rfl : k = xs.length := by omega
          have hs := Lib.hid (sortB_iff.2 HE.out)
          have HB := Lib.hid hd.below
          clear HE hd
          go_wp2_with fail
          go_ret
          exact ⟨ret_bool hs.out.symm, HB.out⟩

theorem isNaN_any (x : Int) (w : World) : Calls Try.prog 60 #[.int .i64 x] w fun e w' => e = .returned (.bool false) ∧ w' = w := by
  have hxx : (x != x) = false := by simp
  go_enter Try.func60, Try.ntmps60
  go_wp2_with fail
  go_ret
  exact ⟨rfl, rfl⟩
theorem less_any (x y : Int) (w : World) : Calls Try.prog 59 #[.int .i64 x, .int .i64 y] w fun e w' => e = .returned (.bool (decide (x < y))) ∧ w' = w := by
  by_cases h : x < y
  · rw [decide_eq_true h]
    go_enter Try.func59, Try.ntmps59
    go_wp2_with (go_at_call 60; refine (isNaN_any _ _).mono ?_; rintro e w' ⟨rfl, rfl⟩)
    go_ret
    exact ⟨rfl, rfl⟩
  · rw [decide_eq_false h]
    go_enter Try.func59, Try.ntmps59
    go_wp2_with (go_at_call 60; refine (isNaN_any _ _).mono ?_; rintro e w' ⟨rfl, rfl⟩)
    go_ret
    exact ⟨ret_bool (decide_eq_false (by omega)), rfl⟩
theorem less_at (x y : Int) (b : Bool) (h : decide (x < y) = b) : ∀ w, Calls Try.prog 59 #[.int .i64 x, .int .i64 y] w fun e w' => e = .returned (.bool b) ∧ w' = w := by
  subst h
  exact less_any x y

set_option maxHeartbeats 800000 in
theorem isSorted_any (a : Option Addr) (p : Nat) (xs : List Int) (w : World) (hx : xs.length ≤ 1048576) (h1 : 1 ≤ xs.length) (hr : Reads w a xs.length xs) :
    Calls Try.prog 58 #[.slice a xs.length p] w fun e w' => e = .returned (.bool (sortB xs)) ∧ Below w.heap.size w w' := by
  have hw1 : IntKind.i64.wrap ((xs.length : Int) - 1) = (xs.length : Int) - 1 := IntWalk.i64_in _ (by omega)
  go_enter Try.func58, Try.ntmps58
  go_wp2_with fail
  clear hw1
  go_loopw [3] (fun i wr => ∃ k : Nat, k < xs.length ∧ i = .int .i64 k ∧ Hid (∀ j, k ≤ j → j + 1 < xs.length → xs.getD j 0 ≤ xs.getD (j + 1) 0) ∧ Drawn w wr) (fun i _ => (intOf i).toNat)
  case atStart => exact ⟨xs.length - 1, by omega, by rw [show ((xs.length : Int) - 1) = ((xs.length - 1 : Nat) : Int) by omega], (fun j h1 h2 => by omega : ∀ j, xs.length - 1 ≤ j → j + 1 < xs.length → xs.getD j 0 ≤ xs.getD (j + 1) 0), Drawn.refl _⟩
  case round =>
    obtain ⟨k, hk, rfl, HE, hd⟩ := hrel
    by_cases hlt : 0 < k
    · obtain ⟨b, off, rfl, hb, hc⟩ := reads_row (hr.kept hd.below) (by omega)
      have hck := hc k hk
      have hcj := hc (k - 1) (by omega)
      clear hc hb
      have hk0 : (0 : Int) ≤ (k : Int) - 1 := by omega
      have hk2 : ((k : Int) - 1).toNat = k - 1 := by omega
      have hk3 : (k : Int) - 1 < xs.length := by omega
      have hk4 : IntKind.i64.wrap ((k : Int) - 1) = (k : Int) - 1 := IntWalk.i64_in _ (by omega)
      have hk5 : (0 : Int) < k := by omega
      have hyes : ¬ xs.getD k 0 < xs.getD (k - 1) 0 → ∀ j, k - 1 ≤ j → j + 1 < xs.length → xs.getD j 0 ≤ xs.getD (j + 1) 0 := by
        intro h j hj hj2
        by_cases e : j + 1 = k
        · subst e
          rw [Nat.add_sub_cancel] at h
          omega
        · exact HE.out j (by omega) hj2
      have hno : xs.getD k 0 < xs.getD (k - 1) 0 → sortB xs = false := by
        intro h
        refine sortB_no (k - 1) (by omega) ?_
        rw [show k - 1 + 1 = k by omega]
        omega
      have HD := Lib.hid hd
      clear hd HE
      generalize xs.getD k 0 = y at *
      generalize xs.getD (k - 1) 0 = x at *
      by_cases hyx : y < x
      · have HN := Lib.hid (hno hyx)
        have HL := Lib.hid (less_at y x true (decide_eq_true hyx))
        clear hyes hno hyx
        go_wp2_with fail
        go_quiet ((go_at_call 59; with_reducible exact Calls.quiet_of_same (HL.out _)))
        go_wp2_with fail
        go_ret
        exact ⟨ret_bool HN.out.symm, (HD.out.more _).below⟩
      · have HN := Lib.hid (hyes hyx)
        have HL := Lib.hid (less_at y x false (decide_eq_false hyx))
        clear hyes hno hyx
        go_wp2_with fail
        go_quiet ((go_at_call 59; with_reducible exact Calls.quiet_of_same (HL.out _)))
        go_wp2_with fail
        go_roundw
        case rel => exact ⟨k - 1, by omega, by rw [show ((k : Int) - 1) = ((k - 1 : Nat) : Int) by omega], HN.out, HD.out.more _⟩
        case measure => simp [intOf]; omega
    · obtain rfl : k = 0 := by omega
      have hs := Lib.hid (sortB_iff.2 (fun j h => HE.out j (Nat.zero_le _) h))
      have HB := Lib.hid hd.below
      clear HE hd
      go_wp2_with fail
      go_ret
      exact ⟨ret_bool hs.out.symm, HB.out⟩

end Go.Proofs.Ytabfiafjcnilnaa
end
