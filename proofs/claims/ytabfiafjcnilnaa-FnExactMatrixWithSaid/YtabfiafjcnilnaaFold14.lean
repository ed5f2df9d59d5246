import Derived.Test.YtabfiafjcnilnaaFold6
import Derived.Test.YtabfiafjcnilnaaFold7
import Derived.Test.YtabfiafjcnilnaaFold8
import Derived.Test.YtabfiafjcnilnaaFold10
import Derived.Test.YtabfiafjcnilnaaFold13
import Derived.Test.YtabfiafjcnilnaaFold9
import Derived.Test.YtabfiafjcnilnaaFold3
import Derived.Test.YtabfiafjcnilnaaFold12
import Derived.Deep.RegionHeld3
import Derived.Deep.RegionWith
import Derived.IntWalk
import Derived.Laws.EntriesVeiled

section
namespace Go.Proofs.Ytabfiafjcnilnaa
open Go.RowKit Go.WideShapes

/-- Behind the row i and the numbers of rooks from k on. -/
def midV (xs : List Int) (i k j : Nat) : List Int := if k ≤ j then wts xs (i + 1) j else wts xs i j
/-- How many places of a rook are added. -/
def plcN (m : Int) (q : Nat) : Nat := if q = 0 then 0 else (m - q + 1).toNat
/-- The row in the making. -/
def rowT (m : Int) (W : Nat → List Int) (q t : Nat) : List Int := if m < q then [] else behL (W q) (preW W q) (m - q).toNat t
theorem rowT_full (m : Int) (W : Nat → List Int) (q : Nat) : rowT m W q (plcN m q) = rowW m W q := by
  unfold rowT rowW plcN
  split
  · rfl
  · cases q with
    | zero => rw [preW, behL_nil, behL_nil]
    | succ q => rw [if_neg (by omega), show (m - ((q + 1 : Nat) : Int) + 1).toNat = (m - ((q + 1 : Nat) : Int)).toNat + 1 by omega]
theorem rowT_can (m : Int) (W : Nat → List Int) (h : ∀ k, CanL (W k)) (q t : Nat) : CanL (rowT m W q t) := by
  unfold rowT
  split
  · exact CanL.nil
  · exact behL_can (h q) (preW_can h q) _ _
theorem rowT_bd (m : Int) (W : Nat → List Int) (h : ∀ k, CanL (W k)) (hb : ∀ k e, (W k).getD e 0 ≤ 262144) (q t : Nat) (ht : t ≤ 7) (e : Nat) : 0 ≤ (rowT m W q t).getD e 0 ∧ (rowT m W q t).getD e 0 ≤ 1000000000 := by
  refine ⟨(rowT_can m W h q t).pos e, ?_⟩
  unfold rowT
  split
  · simp
  · have := behL_bd (W q) (preW W q) (m - q).toNat t 262144 (hb q) (preW_bd (by decide) hb q) (by decide) e
    have c : ((t : Int) + 1) * 262144 ≤ 8 * 262144 := Int.mul_le_mul_of_nonneg_right (by omega) (by decide)
    omega
theorem rowT_len (m : Int) (W : Nat → List Int) (hb : ∀ k, (W k).length ≤ 100) (hm : m ≤ 6) (q t : Nat) (ht : t ≤ plcN m q) : (rowT m W q t).length ≤ 1000 := by
  unfold rowT
  split
  · simp
  · have : t ≤ (m - q).toNat + 1 := by unfold plcN at ht; split at ht <;> omega
    have := behL_len (W q) (preW W q) (m - q).toNat t 100 (hb q) (preW_len hb q) this
    omega
theorem rowT_succ (m : Int) (W : Nat → List Int) (q t : Nat) (h : q ≤ m) : rowT m W q (t + 1) = addL (rowT m W q t) (upL t (preW W q)) := by
  unfold rowT
  rw [if_neg (by omega), if_neg (by omega), behL]
theorem rowT_zero (m : Int) (W : Nat → List Int) (q : Nat) (h : q ≤ m) : rowT m W q 0 = addL [] (upL (m - q).toNat (W q)) := by
  unfold rowT
  rw [if_neg (by omega), behL, nil_addL]
theorem rowT_short (m : Int) (W : Nat → List Int) (q t : Nat) (h : m < q) : rowT m W q t = [] := if_pos h
theorem midV_start (xs : List Int) (i n j : Nat) (h : j < n + 1) : midV xs i (n + 1) j = wts xs i j := if_neg (by omega)
theorem midV_end (xs : List Int) (i j : Nat) : midV xs i 0 j = wts xs (i + 1) j := if_pos (by omega)
theorem midV_at (xs : List Int) (i k j : Nat) (h : j < k) : midV xs i k j = wts xs i j := if_neg (by omega)
theorem midV_done (xs : List Int) (i q : Nat) : midV xs i q q = wts xs (i + 1) q := if_pos (by omega)
theorem midV_next (xs : List Int) (i q j : Nat) (h : j ≠ q) : midV xs i q j = midV xs i (q + 1) j := by
  unfold midV
  by_cases h1 : q ≤ j
  · rw [if_pos h1, if_pos (by omega)]
  · rw [if_neg h1, if_neg (by omega)]

theorem pFacts (p n : Nat) (m : Int) (h1 : ((p + 1 : Nat) : Int) < (n : Int) + 1) (h2 : ((p + 1 : Nat) : Int) ≤ m) (hn : n ≤ 6) : wrap64 (p : Int) = p ∧ wrap64 ((p : Int) + 1 - 1) = p ∧ 0 ≤ (p : Int) ∧ (p : Int) < (n : Int) + 1 ∧ m ≥ (p : Int) + 1 := by
  have h3 : wrap64 (p : Int) = p := IntWalk.wrap64_in _ (by omega)
  refine ⟨h3, ?_, by omega, by omega, by omega⟩
  rw [show (p : Int) + 1 - 1 = p by omega]
  exact h3

end Go.Proofs.Ytabfiafjcnilnaa
end

section
namespace Go.Proofs.Ytabfiafjcnilnaa
open Go.RowKit Go.WideShapes

def allwR (xs : List Int) : MR := if lenB xs then ⟨lstR (xs.length + 1) (wts xs xs.length), true⟩ else ⟨[], false⟩
theorem total_map (l : List Nat) (g : Nat → List Int) (B : Nat) (h : ∀ k, (g k).length ≤ B) : total (l.map g) ≤ l.length * B := by
  induction l with
  | nil => simp [total]
  | cons a t ih =>
    have := h a
    rw [List.map_cons, List.length_cons, Nat.succ_mul, total_cons]
    omega
theorem allwR_len (xs : List Int) : (allwR xs).zz.length ≤ 1048576 ∧ total (allwR xs).zz ≤ 1048576 := by
  unfold allwR
  split
  · rename_i h
    obtain ⟨l1, l2, l3, l4, l5⟩ := len_facts h
    refine ⟨by show (lstR _ _).length ≤ _; rw [lstR_len]; omega, ?_⟩
    have := total_map (List.range (xs.length + 1)) (wts xs xs.length) 37 (fun k => by have := wts_len xs (fun k => (l3 k).2) xs.length k; omega)
    rw [List.length_range] at this
    show total (lstR _ _) ≤ _
    unfold lstR
    omega
  · simp [total]

end Go.Proofs.Ytabfiafjcnilnaa
end

section
namespace Go.Proofs.Ytabfiafjcnilnaa
open Go.RowKit

def plusAt (l : List Int) (p : Nat) (v : Int) : List Int := l.set p (l.getD p 0 + v)
theorem plusAt_len (l : List Int) (p : Nat) (v : Int) : (plusAt l p v).length = l.length := by simp [plusAt]
def Bd (K : Int) (l : List Int) : Prop := ∀ p, 0 ≤ l.getD p 0 ∧ l.getD p 0 ≤ K
theorem Bd.plus {K V : Int} {l : List Int} (h : Bd K l) (p : Nat) (v : Int) (h0 : 0 ≤ v) (h1 : v ≤ V) : Bd (K + V) (plusAt l p v) := by
  intro q
  have hq := h q
  have hp := h p
  unfold plusAt
  by_cases e : p = q
  · subst e
    by_cases hl : p < l.length
    · rw [List.getD_eq_getElem?_getD, List.getElem?_set_self (by exact hl)]
      simp only [Option.getD_some]
      omega
    · rw [List.set_eq_of_length_le (by omega)]
      omega
  · have : (l.set p (l.getD p 0 + v)).getD q 0 = l.getD q 0 := by
      rw [List.getD_eq_getElem?_getD, List.getElem?_set_ne e, ← List.getD_eq_getElem?_getD]
    rw [this]
    omega
theorem Bd.mono {K K' : Int} {l : List Int} (h : Bd K l) (hk : K ≤ K') : Bd K' l := fun p => ⟨(h p).1, by have := (h p).2; omega⟩
/-- One row of the product. -/
def rowP (z : List Int) (x : Int) (i : Nat) (b : List Int) : Nat → List Int
  | 0 => z
  | j + 1 => plusAt (rowP z x i b j) (i + j) (x * b.getD j 0)
theorem rowP_len (z : List Int) (x : Int) (i : Nat) (b : List Int) (j : Nat) : (rowP z x i b j).length = z.length := by
  induction j with
  | zero => rfl
  | succ j ih => rw [rowP, plusAt_len, ih]
/-- The first rows of the product. -/
def allP (a b : List Int) : Nat → List Int
  | 0 => List.replicate (a.length + b.length - 1) 0
  | i + 1 => rowP (allP a b i) (a.getD i 0) i b b.length
theorem allP_len (a b : List Int) (i : Nat) : (allP a b i).length = a.length + b.length - 1 := by
  induction i with
  | zero => simp [allP]
  | succ i ih => rw [allP, rowP_len, ih]
theorem mul_bd (x y : Int) (hx : 0 ≤ x ∧ x ≤ 100000) (hy : 0 ≤ y ∧ y ≤ 100000) : 0 ≤ x * y ∧ x * y ≤ 10000000000 := by
  refine ⟨Int.mul_nonneg hx.1 hy.1, ?_⟩
  have := Int.mul_le_mul hx.2 hy.2 hy.1 (by decide)
  omega
theorem rowP_bd (z : List Int) (x : Int) (i : Nat) (b : List Int) (K : Int) (hz : Bd K z) (hx : 0 ≤ x ∧ x ≤ 100000) (hb : ∀ j, 0 ≤ b.getD j 0 ∧ b.getD j 0 ≤ 100000) (j : Nat) : Bd (K + j * 10000000000) (rowP z x i b j) := by
  induction j with
  | zero => exact hz.mono (by simp)
  | succ j ih =>
    have h := mul_bd x _ hx (hb j)
    exact (ih.plus (i + j) _ h.1 h.2).mono (by push_cast; omega)
theorem allP_bd (a b : List Int) (hb7 : b.length ≤ 7) (ha : ∀ j, 0 ≤ a.getD j 0 ∧ a.getD j 0 ≤ 100000) (hb : ∀ j, 0 ≤ b.getD j 0 ∧ b.getD j 0 ≤ 100000) (i : Nat) : Bd (i * 70000000000) (allP a b i) := by
  induction i with
  | zero =>
    intro p
    have : (List.replicate (a.length + b.length - 1) (0 : Int)).getD p 0 = 0 := by
      simp only [List.getD_eq_getElem?_getD, List.getElem?_replicate]
      split <;> rfl
    simp only [allP, this]
    simp
  | succ i ih => exact (rowP_bd _ _ i b _ ih (ha i) hb b.length).mono (by push_cast; omega)
theorem within_get {lo hi : Int} {xs : List Int} (h : within lo hi xs = true) (h0 : lo ≤ 0 ∧ 0 ≤ hi) (j : Nat) : lo ≤ xs.getD j 0 ∧ xs.getD j 0 ≤ hi := by
  by_cases hj : j < xs.length
  · rw [within, List.all_eq_true] at h
    have := h (xs.getD j 0) (by simp [List.getD, hj])
    simpa using this
  · rw [List.getD_eq_getElem?_getD, List.getElem?_eq_none (by omega)]
    exact h0
/-- May a list be multiplied? -/
def facB (xs : List Int) : Bool := inB 1 xs.length 7 && within 0 100000 xs
theorem facB_facts {xs : List Int} (h : facB xs = true) : (1 ≤ xs.length ∧ xs.length ≤ 7) ∧ ∀ j, 0 ≤ xs.getD j 0 ∧ xs.getD j 0 ≤ 100000 := by
  rw [facB, Bool.and_eq_true, inB_iff] at h
  exact ⟨by omega, within_get h.2 (by decide)⟩

/-- Rooks: numbers that are none below 0. -/
def rcnt (xs : List Int) : Nat := (xs.filter (fun x => decide (0 ≤ x))).length
theorem rcnt_le (xs : List Int) : rcnt xs ≤ xs.length := List.length_filter_le _ _
theorem rcnt_succ (xs : List Int) (k : Nat) (h : k < xs.length) : rcnt (xs.take (k + 1)) = rcnt (xs.take k) + if 0 ≤ xs.getD k 0 then 1 else 0 := by
  rw [List.take_succ_eq_append_getElem h, rcnt, List.filter_append, List.length_append]
  have e : xs.getD k 0 = xs[k] := by simp [List.getD, h]
  rw [e]
  unfold rcnt
  by_cases h2 : 0 ≤ xs[k] <;> simp [h2]
end Go.Proofs.Ytabfiafjcnilnaa
end

section
namespace Go.Proofs.Ytabfiafjcnilnaa
open Go.RowKit Go.WideShapes

theorem Has.two {w : World} {b : Nat} {v0 v1 : Value} {t : TypeId} (h : Has w b [v0, v1] t) :
    w.cell? ⟨b, 0, none⟩ = some v0 ∧ w.cell? ⟨b, 1, none⟩ = some v1 ∧ ∀ o, w.frozen? ⟨b, o, none⟩ = false :=
  ⟨h.cell 0, h.cell 1, h.free⟩
/-- The block of a sum. -/
abbrev sumV (F : FuncId) (cap : Array Value) (t : Int) : List Value := [.func (.func F) #[] cap, .int .i64 t]

end Go.Proofs.Ytabfiafjcnilnaa
end

section
namespace Go.Proofs.Ytabfiafjcnilnaa
open Go.RowKit Go.WideShapes

/-- The field of q elements. -/
def fV (q : Nat) : Value := if q = 3 then .iface 78 (.agg #[]) else .iface 77 (.agg #[])
abbrev fV2 : Value := .iface 77 (.agg #[])
abbrev fV3 : Value := .iface 78 (.agg #[])
/-- 2 or 3. -/
def isQ (q : Int) : Bool := decide (q = 2) || decide (q = 3)
theorem isQ_cases {q : Int} (h : isQ q = true) : q = 2 ∨ q = 3 := by simpa [isQ] using h

theorem fieldOf_no (q : Int) (w : World) (h : isQ q = false) : Calls Try.prog 50 #[.int .i64 q] w fun e w' => e = .returned (.tuple #[.nilIface, .bool false]) ∧ w = w' := by
  have h2 : (q == 2) = false := by rw [beq_eq_false_iff_ne]; intro e; subst e; cases h
  have h3 : (q == 3) = false := by rw [beq_eq_false_iff_ne]; intro e; subst e; cases h
  clear h
  go_enter Try.func50, Try.ntmps50
  go_wp2
  go_ret2
  exact ⟨rfl, rfl⟩
theorem fieldOf_2 (w : World) : Calls Try.prog 50 #[.int .i64 2] w fun e w' => e = .returned (.tuple #[fV2, .bool true]) ∧ w = w' := by
  go_enter Try.func50, Try.ntmps50
  go_wp2
  go_ret2
  exact ⟨rfl, rfl⟩
theorem fieldOf_3 (w : World) : Calls Try.prog 50 #[.int .i64 3] w fun e w' => e = .returned (.tuple #[fV3, .bool true]) ∧ w = w' := by
  go_enter Try.func50, Try.ntmps50
  go_wp2
  go_ret2
  exact ⟨rfl, rfl⟩

theorem size_2 (w : World) : Calls Try.prog 78 #[.agg #[]] w fun e w' => e = .returned (.int .i64 2) ∧ Below w.heap.size w w' := by
  have hb := below_new (w := w) (.cells #[] 77)
  go_enter Try.func78, Try.ntmps78
  go_wp2
  go_ret
  exact ⟨rfl, hb⟩
theorem size_3 (w : World) : Calls Try.prog 82 #[.agg #[]] w fun e w' => e = .returned (.int .i64 3) ∧ Below w.heap.size w w' := by
  have hb := below_new (w := w) (.cells #[] 78)
  go_enter Try.func82, Try.ntmps82
  go_wp2
  go_ret
  exact ⟨rfl, hb⟩
theorem meth_size2 (w : World) : (method 197 77 (.agg #[]) "loop.example/g01125/impl.size").run Try.prog w = .ok (78, .agg #[]) w := by kernel_rfl
theorem meth_size3 (w : World) : (method 197 78 (.agg #[]) "loop.example/g01125/impl.size").run Try.prog w = .ok (82, .agg #[]) w := by kernel_rfl

/-- A power of 2 or 3, of whatever exponent up to 39. -/
theorem pow23_bd : ∀ q : Fin 4, ∀ k : Fin 40, 0 ≤ (((q : Nat) : Int)) ^ (k : Nat) ∧ (((q : Nat) : Int)) ^ (k : Nat) ≤ 4052555153018976267 := by decide +kernel
theorem pow23_in (q k : Nat) (hq : q ≤ 3) (hk : k ≤ 39) : 0 ≤ (q : Int) ^ k ∧ (q : Int) ^ k ≤ 4052555153018976267 := pow23_bd ⟨q, by omega⟩ ⟨k, by omega⟩
set_option maxHeartbeats 800000 in
theorem powerq_any (q : Nat) (hq : q ≤ 3) (k : Nat) (w : World) (hk : k ≤ 39) : Calls Try.prog 52 #[.int .i64 q, .int .i64 k] w fun e w' => e = .returned (.int .i64 ((q : Int) ^ k)) ∧ w' = w := by
  have HX := Lib.hid (fun k hk => pow23_in q k hq hk)
  clear hq
  go_enter Try.func52, Try.ntmps52
  go_wp2_with fail
  go_loop [5, 6] (fun t i => ∃ j : Nat, j ≤ k ∧ i = .int .i64 j ∧ t = .int .i64 ((q : Int) ^ j)) (fun _ i => k - (intOf i).toNat)
  case atStart => exact ⟨0, Nat.zero_le _, rfl, by simp⟩
  case round =>
    obtain ⟨j, hj, rfl, rfl⟩ := hrel
    by_cases hlt : j < k
    · have h1 := HX.out (j + 1) (by omega)
      have hm : wrap64 ((q : Int) ^ j * q) = (q : Int) ^ (j + 1) := by rw [show (q : Int) ^ j * q = (q : Int) ^ (j + 1) from (Int.pow_succ _ j).symm]; exact IntWalk.wrap64_in _ (by omega)
      clear h1
      go_wp2_with fail
      go_round
      case rel => exact ⟨j + 1, by omega, by go_num, by first | rfl | rw [hm]⟩
      case measure => simp [intOf]; omega
    · obtain rfl : j = k := by omega
      go_wp2_with fail
      go_ret
      exact ⟨rfl, rfl⟩
/-- .. and of a negative one. -/
theorem power_neg (x k : Int) (w : World) (hk : k ≤ 0) : Calls Try.prog 52 #[.int .i64 x, .int .i64 k] w fun e w' => e = .returned (.int .i64 1) ∧ w' = w := by
  have hk' : ¬ (0 : Int) < k := by omega
  go_enter Try.func52, Try.ntmps52
  go_wp2_with fail
  go_loop [5, 6] (fun t i => i = .int .i64 0 ∧ t = .int .i64 1) (fun _ _ => 0)
  case atStart => exact ⟨rfl, rfl⟩
  case round =>
    obtain ⟨rfl, rfl⟩ := hrel
    go_wp2_with fail
    go_ret
    exact ⟨rfl, rfl⟩

end Go.Proofs.Ytabfiafjcnilnaa
end

section
namespace Go.Proofs.Ytabfiafjcnilnaa
open Go.RowKit Go.WideShapes

/-- The mask of the places c < n with p c. -/
def rowM (p : Nat → Bool) : Nat → Nat
  | 0 => 0
  | c + 1 => rowM p c + if p c then 2 ^ c else 0
theorem rowM_lt (p : Nat → Bool) (n : Nat) : rowM p n < 2 ^ n := by
  induction n with
  | zero => simp [rowM]
  | succ n ih => rw [rowM, Nat.pow_succ]; split <;> omega
theorem or_step (x : Nat) (c : Nat) (hc : c < 6) (h : x < 2 ^ c) : bits .or .i64 (x : Int) (wrap64 (2 ^ c)) = ((x + 2 ^ c : Nat) : Int) := by
  have key : ∀ c : Fin 6, ∀ x : Fin 64, (x : Nat) < 2 ^ (c : Nat) → bits .or .i64 ((x : Nat) : Int) (wrap64 (2 ^ (c : Nat))) = (((x : Nat) + 2 ^ (c : Nat) : Nat) : Int) := by decide +kernel
  have h64 : x < 64 := Nat.lt_of_lt_of_le h (by have := Nat.pow_le_pow_right (show 0 < 2 by omega) (show c ≤ 6 by omega); simpa using this)
  exact key ⟨c, hc⟩ ⟨x, h64⟩ h

/-- The masks when the rows before i and of row i the places before j are drawn. -/
def drawn (p : Nat → Nat → Bool) (m i j : Nat) : Nat → Int := fun k => if k < i then (rowM (p k) m : Int) else if k = i then (rowM (p i) j : Int) else 0
theorem drawn_next (p : Nat → Nat → Bool) (m i : Nat) : drawn p m i m = drawn p m (i + 1) 0 := by
  funext k
  unfold drawn
  by_cases h1 : k < i
  · rw [if_pos h1, if_pos (by omega)]
  · by_cases h2 : k = i
    · subst h2; rw [if_neg h1, if_pos rfl, if_pos (by omega)]
    · rw [if_neg h1, if_neg h2, if_neg (by omega)]
      split
      · simp [rowM]
      · rfl
theorem drawn_zero (p : Nat → Nat → Bool) (m : Nat) : drawn p m 0 0 = fun _ => 0 := by
  funext k
  unfold drawn
  rw [if_neg (by omega)]
  split
  · simp [rowM]
  · rfl
theorem drawn_skip (p : Nat → Nat → Bool) (m i j : Nat) (h : p i j = false) : drawn p m i (j + 1) = drawn p m i j := by
  funext k; unfold drawn; rw [rowM, h]; simp
theorem drawn_at (p : Nat → Nat → Bool) (m i j : Nat) : drawn p m i j i = (rowM (p i) j : Int) := by unfold drawn; rw [if_neg (by omega), if_pos rfl]
theorem drawn_put (p : Nat → Nat → Bool) (m i j : Nat) (h : p i j = true) : drawn p m i (j + 1) i = ((rowM (p i) j + 2 ^ j : Nat) : Int) := by rw [drawn_at, rowM, h]; simp
theorem drawn_off (p : Nat → Nat → Bool) (m i j k : Nat) (h : k ≠ i) : drawn p m i (j + 1) k = drawn p m i j k := by
  unfold drawn; rw [if_neg h, if_neg h]

end Go.Proofs.Ytabfiafjcnilnaa
end

section
namespace Go.Proofs.Ytabfiafjcnilnaa
open Go.RowKit Go.WideShapes

def fullB (r c : Int) : BR := if inB 1 r 6 && inB 1 c 6 then ⟨r, c, List.replicate r.toNat (pw c - 1), true⟩ else BR.zero

theorem rowM_full (m : Nat) : (rowM (fun _ => true) m : Int) = pw m - 1 := by
  have h : rowM (fun _ => true) m + 1 = 2 ^ m := by
    induction m with
    | zero => rfl
    | succ m ih => rw [rowM, Nat.pow_succ]; simp; omega
  unfold pw
  rw [Int.toNat_natCast]
  have : ((2 ^ m : Nat) : Int) = 2 ^ m := by simp
  omega
theorem full_cells (n m : Nat) (hn : n ≤ 6) : (([0, 1, 2, 3, 4, 5].take n).map fun k => (rowM ((fun _ _ => true : Nat → Nat → Bool) k) m : Int)) = List.replicate n (pw m - 1) := by
  simp only [rowM_full]
  have : n = 0 ∨ n = 1 ∨ n = 2 ∨ n = 3 ∨ n = 4 ∨ n = 5 ∨ n = 6 := by omega
  rcases this with rfl | rfl | rfl | rfl | rfl | rfl | rfl <;> rfl


theorem fullB_len (r c : Int) : (fullB r c).xs.length ≤ 1048576 := by
  unfold fullB
  split
  · rename_i h
    rw [Bool.and_eq_true, inB_iff] at h
    simp; omega
  · simp [BR.zero]

end Go.Proofs.Ytabfiafjcnilnaa
end
