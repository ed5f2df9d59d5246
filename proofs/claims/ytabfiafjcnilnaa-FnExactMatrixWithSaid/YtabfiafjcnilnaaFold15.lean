import Derived.Test.YtabfiafjcnilnaaFold6
import Derived.Test.YtabfiafjcnilnaaFold14
import Derived.Test.YtabfiafjcnilnaaFold8
import Derived.Deep.RegionWith
import Derived.Deep.RegionHeld3
import Derived.Deep.DeepCutAuto
import Derived.Deep.RegionLaw
import Derived.Test.YtabfiafjcnilnaaFold12
import Derived.Test.YtabfiafjcnilnaaFold2

section
namespace Go.Proofs.Ytabfiafjcnilnaa
open Go.RowKit Go.WideShapes


/-- A zero board, and false: a call that fails. -/
theorem ansB_zero (w w' : World) (h : Below w.heap.size w w') : AnsB BR.zero w (.returned (.tuple #[.agg #[.int .i64 0, .int .i64 0, .slice none 0 0], .bool false])) w' := ⟨_, rfl, Own.nil _ _, h⟩

theorem cells_n (n : Nat) (f : Nat → Int) (xs : List Int) (hl : xs.length = n) (hn : n ≤ 6) (hf : ∀ k, k < n → f k = xs.getD k 0) : (([0, 1, 2, 3, 4, 5].take n).map f) = xs := by
  apply List.ext_getElem?
  intro j
  by_cases hj : j < n
  · have h6 : ([0, 1, 2, 3, 4, 5] : List Nat)[j]? = some j := by
      have : j = 0 ∨ j = 1 ∨ j = 2 ∨ j = 3 ∨ j = 4 ∨ j = 5 := by omega
      rcases this with rfl | rfl | rfl | rfl | rfl | rfl <;> rfl
    rw [List.getElem?_map, List.getElem?_take, if_pos hj, h6, Option.map_some, hf j hj]
    simp [List.getD, show j < xs.length by omega]
  · rw [List.getElem?_eq_none (by simp; omega), List.getElem?_eq_none (by omega)]


end Go.Proofs.Ytabfiafjcnilnaa
end

section
namespace Go.Proofs.Ytabfiafjcnilnaa
open Go.RowKit Go.WideShapes

/-- The index that i was, before a line went away. -/
def sk (i s : Nat) : Nat := if i < s then i else i + 1
/-- A row without its place j: m places are left. -/
def skv (x : Int) (j m : Nat) : Int := (rowM (fun c => x.toNat.testBit (sk c j)) m : Int)
def strikeL (xs : List Int) (i j m : Nat) : List Int := (xs.eraseIdx i).map (fun x => skv x j m)
def strikeB (r c : Int) (xs : List Int) (i j : Int) : BR := if placeB r c xs i j && (!(r == 1) && !(c == 1)) then ⟨r - 1, c - 1, strikeL xs i.toNat j.toNat (c - 1).toNat, true⟩ else BR.zero
theorem strikeL_len (xs : List Int) (i j m : Nat) (h : i < xs.length) : (strikeL xs i j m).length = xs.length - 1 := by
  simp [strikeL, List.length_eraseIdx, h]
theorem strikeB_len (r c : Int) (xs : List Int) (i j : Int) : (strikeB r c xs i j).xs.length ≤ 1048576 := by
  unfold strikeB
  split
  · rename_i h
    rw [Bool.and_eq_true, placeB, Bool.and_eq_true] at h
    have := good_facts h.1.1
    have := insB_iff.1 h.1.2
    rw [strikeL_len _ _ _ _ (by omega)]
    omega
  · simp [BR.zero]
theorem strike_cells (M : Nat → Int) (xs : List Int) (i j m n : Nat) (hM : ∀ k, M k = xs.getD k 0) (hl : xs.length = n + 1) (hn : n ≤ 6) (hi : i < n + 1) :
    (([0, 1, 2, 3, 4, 5].take n).map fun k => (rowM ((fun k l => (M (sk k i)).toNat.testBit (sk l j) : Nat → Nat → Bool) k) m : Int)) = strikeL xs i j m :=
  cells_n n _ _ (by rw [strikeL_len _ _ _ _ (by omega)]; omega) hn (fun k hk => by
    simp only [hM]
    show skv (xs.getD (sk k i) 0) j m = _
    have e : (xs.eraseIdx i)[k]? = xs[sk k i]? := by
      rw [List.getElem?_eraseIdx]
      unfold sk
      split <;> rfl
    have hs : sk k i < xs.length := by unfold sk; split <;> omega
    rw [List.getD_eq_getElem?_getD, List.getD_eq_getElem?_getD, strikeL, List.getElem?_map, e]
    simp [hs])

end Go.Proofs.Ytabfiafjcnilnaa
end

section
namespace Go.Proofs.Ytabfiafjcnilnaa
open Go.RowKit Go.WideShapes

theorem brk20 : ∀ q : Fin 4, ∀ m : Fin 22, 0 ≤ brk ((q : Nat) : Int) m ∧ brk ((q : Nat) : Int) m ≤ 10000000000 := by decide +kernel
theorem brk_in (q m : Nat) (hq : q ≤ 3) (hm : m ≤ 21) : 0 ≤ brk q m ∧ brk q m ≤ 10000000000 := brk20 ⟨q, by omega⟩ ⟨m, by omega⟩
theorem fV_two : fV 2 = fV2 := rfl
theorem fV_three : fV 3 = fV3 := rfl
theorem isQ_nat {q : Int} (h : isQ q = true) : ∃ n : Nat, q = n ∧ (n = 2 ∨ n = 3) := by
  rcases isQ_cases h with rfl | rfl
  · exact ⟨2, rfl, .inl rfl⟩
  · exact ⟨3, rfl, .inr rfl⟩
theorem fieldOf_yes (q : Nat) (hq : q = 2 ∨ q = 3) (w : World) : Calls Try.prog 50 #[.int .i64 q] w fun e w' => e = .returned (.tuple #[fV q, .bool true]) ∧ w = w' := by
  rcases hq with rfl | rfl
  · exact fieldOf_2 w
  · exact fieldOf_3 w


theorem weBase_any (q : Int) (w : World) : Calls Try.prog 29 #[.int .i64 q] w fun e w' => e = .returned (.bool (isQ q)) ∧ w = w' := by
  have HI := Lib.hid (l1In_any q 2 3)
  rw [show inB 2 q 3 = isQ q by
    rw [Bool.eq_iff_iff, inB_iff]
    simp only [isQ, Bool.or_eq_true, decide_eq_true_eq]
    omega] at HI
  go_enter Try.func29, Try.ntmps29
  go_wp2_with fail
  refine (HI.out _).mono ?_
  rintro e w' ⟨rfl, rfl⟩
  go_wp2_with fail
  go_ret
  exact ⟨rfl, rfl⟩

theorem weB_step (q j : Nat) (hq : q ≤ 3) (hj : j ≤ 19) : wrap64 (brk q j * q) = brk q j * q ∧ wrap64 (brk q j * q + 1) = brk q (j + 1) := by
  have h0 := brk_in q j hq (by omega)
  have h1 := brk_in q (j + 1) hq (by omega)
  have h2 := brk_horner q j
  have h3 : 0 ≤ brk q j * q ∧ brk q j * q ≤ 30000000000 := by
    refine ⟨Int.mul_nonneg h0.1 (by omega), ?_⟩
    have := Int.mul_le_mul h0.2 (show (q : Int) ≤ 3 by omega) (by omega) (by omega)
    omega
  generalize brk q j * q = u at *
  generalize brk q (j + 1) = v at *
  subst h2
  exact ⟨IntWalk.wrap64_in _ (by omega), IntWalk.wrap64_in _ (by omega)⟩

def bracketR (m q : Int) : R1 := if isQ q && inB 0 m 20 then ⟨brk q m.toNat, true⟩ else ⟨0, false⟩
end Go.Proofs.Ytabfiafjcnilnaa
end

section
namespace Go.Proofs.Ytabfiafjcnilnaa
open Go.RowKit Go.WideShapes

theorem pow_step (q j : Nat) (hq : q ≤ 3) (hj : j ≤ 38) : wrap64 ((q : Int) ^ j * q) = (q : Int) ^ (j + 1) := by
  have h1 := pow23_in q (j + 1) hq (by omega)
  rw [show (q : Int) ^ j * q = (q : Int) ^ (j + 1) from (Int.pow_succ _ j).symm]
  exact IntWalk.wrap64_in _ (by omega)
set_option maxHeartbeats 800000 in
theorem wePower_any (q : Nat) (hq : q ≤ 3) (K : Int) (w : World) (hm : K ≤ 39) : Calls Try.prog 37 #[.int .i64 q, .int .i64 K] w fun e w' => e = .returned (.int .i64 ((q : Int) ^ K.toNat)) ∧ w = w' := by
  have HX := Lib.hid (fun j (hj : j ≤ 38) => pow_step q j hq hj)
  clear hq
  obtain ⟨M, hM⟩ : ∃ M : Nat, M = K.toNat := ⟨_, rfl⟩
  rw [← hM]
  have HM := Lib.hid hM
  have HK := Lib.hid hm
  clear hM hm
  go_enter Try.func37, Try.ntmps37
  go_wp2_with fail
  go_loop [1, 5] (fun i t => ∃ (j : Nat) (k : Int), Hid ((j : Int) + k.toNat = M ∧ k ≤ 39) ∧ i = .int .i64 k ∧ t = .int .i64 ((q : Int) ^ j)) (fun i _ => (intOf i).toNat)
  case atStart => exact ⟨0, K, Lib.hid ⟨by rw [HM.out]; omega, HK.out⟩, rfl, by simp⟩
  case round =>
    obtain ⟨j, k, HJ, rfl, rfl⟩ := hrel
    by_cases hp : 0 < k
    · have HF := Lib.hid (HX.out j (by have := HJ.out; have := HM.out; have := HK.out; omega))
      have hd : wrap64 (k - 1) = k - 1 := IntWalk.wrap64_in _ (by have := HJ.out; have := HM.out; omega)
      have HD := Lib.hid hd
      have HJ2 : Hid (((j + 1 : Nat) : Int) + (k - 1).toNat = M ∧ k - 1 ≤ 39) := Lib.hid (by have := HJ.out; omega)
      clear hd HX HJ
      go_wp2_with fail
      go_round
      case rel => exact ⟨j + 1, k - 1, HJ2, by rw [HD.out], by rw [HF.out]⟩
      case measure => simp only [intOf, HD.out]; omega
    · have hjk : j = M := by have := HJ.out; omega
      clear HJ HX HM HK
      subst hjk
      go_wp2_with fail
      go_ret
      exact ⟨rfl, rfl⟩

/-- The product so far. -/
def invN (q n : Nat) : Nat → Int
  | 0 => 1
  | i + 1 => invN q n i * ((q : Int) ^ n - (q : Int) ^ i)
theorem inv_chk : ∀ q : Fin 4, ∀ n : Fin 6, ∀ i : Fin 6, (i : Nat) < n → 0 ≤ ((q : Nat) : Int) ^ (n : Nat) - ((q : Nat) : Int) ^ (i : Nat) + 1 ∧ ((q : Nat) : Int) ^ (n : Nat) - ((q : Nat) : Int) ^ (i : Nat) ≤ 1000 ∧ 0 ≤ invN q n (i + 1) + 1000000 ∧ invN q n (i + 1) ≤ 1000000000000 := by decide +kernel
theorem inv_step (q n i : Nat) (hq : q ≤ 3) (hn : n ≤ 5) (hi : i < n) : wrap64 ((q : Int) ^ n - (q : Int) ^ i) = (q : Int) ^ n - (q : Int) ^ i ∧ wrap64 (invN q n i * ((q : Int) ^ n - (q : Int) ^ i)) = invN q n (i + 1) := by
  obtain ⟨a, b, c, d⟩ := inv_chk ⟨q, by omega⟩ ⟨n, by omega⟩ ⟨i, by omega⟩ hi
  simp only at a b c d
  refine ⟨IntWalk.wrap64_in _ (by omega), ?_⟩
  rw [show invN q n i * ((q : Int) ^ n - (q : Int) ^ i) = invN q n (i + 1) from rfl]
  exact IntWalk.wrap64_in _ (by omega)
def invR (n q : Int) : R1 := if isQ q && inB 1 n 5 then ⟨invN q.toNat n.toNat n.toNat, true⟩ else ⟨0, false⟩

end Go.Proofs.Ytabfiafjcnilnaa
end

section
namespace Go.Proofs.Ytabfiafjcnilnaa
open Go.RowKit Go.WideShapes

/-- One term. -/
def trmV (ys : List Int) (x : Int) (k : Nat) : Int := ys.getD k 0 * x ^ k

end Go.Proofs.Ytabfiafjcnilnaa
end

section
namespace Go.Proofs.Ytabfiafjcnilnaa
open Go.RowKit Go.WideShapes

theorem sv_zero : sv0 = sv 0 (fun _ => 0) := rfl
set_option maxRecDepth 100000 in
set_option maxHeartbeats 1600000 in
theorem over_yes (a : Option Addr) (p : Nat) (xs : List Int) (q : Nat) (w : World) (hx : xs.length ≤ 1048576) (hr : Reads w a xs.length xs) (hg : lenB xs = true) (hq : q = 2 ∨ q = 3) :
    Calls Try.prog 32 #[.slice a xs.length p, .int .i64 q] w fun e w' => e = .returned (.tuple #[sv xs.length (fun k => xs.getD k 0), fV q, .bool true]) ∧ Below w.heap.size w w' := by
  have L0 := (Law.start w).has (sl 0 (fun _ => 0)) 47
  rw [show w.alloc (.cells (sl 0 (fun _ => 0)).toArray 47) = w.alloc (.cells #[.int .i64 0, .int .i64 0, .int .i64 0, .int .i64 0, .int .i64 0, .int .i64 0, .int .i64 0] 47) from rfl] at L0
  have hc := lengthsOf_yes a p xs _ hx (L0.reads hr) hg
  have HF := Lib.hid (fun W => fieldOf_yes q hq W)
  obtain ⟨n, hn⟩ : ∃ n, n = xs.length := ⟨_, rfl⟩
  obtain ⟨M, hM⟩ : ∃ M : Nat → Int, M = fun k => xs.getD k 0 := ⟨_, rfl⟩
  rw [← hM, ← hn] at hc ⊢
  have HC := Lib.hid hc
  have HL := Lib.hid L0
  clear hc hr hg hq hM hn L0 hx
  generalize fV q = F at *
  go_enter Try.func32, Try.ntmps32
  go_wp2_with fail
  refine HC.out.mono ?_
  rintro e w2 ⟨rfl, hb⟩
  have L2 := (HL.out.kept hb).has (sl n M) 47
  rw [show w2.alloc (.cells (sl n M).toArray 47) = w2.alloc (.cells #[.int .i64 n, .int .i64 (M 0), .int .i64 (M 1), .int .i64 (M 2), .int .i64 (M 3), .int .i64 (M 4), .int .i64 (M 5)] 47) from rfl] at L2
  have HL2 := Lib.hid L2
  clear hb L2 HC HL
  go_upto_region 2 with fail
  generalize w2.alloc _ = w5 at *
  go_wp2_with fail
  refine (HF.out _).mono ?_
  rintro e w6 ⟨rfl, rfl⟩
  have hrow := HL2.out.ownHas.row
  obtain ⟨e0, e1, e2, e3, e4, e5, e6, _⟩ := HL2.out.ownHas.seven
  obtain ⟨f0, f1, f2, f3, f4, f5, f6, ff⟩ := HL2.out.tl.ownHas.seven
  have HB := Lib.hid HL2.out.below
  clear HL2 hrow
  go_wp2_with fail
  refine bodyPost_ret (v := .tuple #[sv n M, F, .bool true]) (by simp [results, Try.results32, go_sem, f0, f1, f2, f3, f4, f5, f6]) rfl ⟨rfl, ?_⟩
  have h2 := HB.out
  repeat (refine Below.setCell ?_ (by simp <;> omega) _)
  exact h2
set_option maxRecDepth 100000 in
set_option maxHeartbeats 1600000 in
theorem over_no (a : Option Addr) (p : Nat) (xs : List Int) (q : Int) (w : World) (hx : xs.length ≤ 1048576) (hr : Reads w a xs.length xs) (hg : (lenB xs && isQ q) = false) :
    Calls Try.prog 32 #[.slice a xs.length p, .int .i64 q] w fun e w' => (∃ u N F, e = .returned (.tuple #[sv u N, F, .bool false])) ∧ Below w.heap.size w w' := by
  have L0 := (Law.start w).has (sl 0 (fun _ => 0)) 47
  rw [show w.alloc (.cells (sl 0 (fun _ => 0)).toArray 47) = w.alloc (.cells #[.int .i64 0, .int .i64 0, .int .i64 0, .int .i64 0, .int .i64 0, .int .i64 0, .int .i64 0] 47) from rfl] at L0
  have hc : ∃ (u : Int) (N : Nat → Int), Calls Try.prog 49 #[.slice a xs.length p] (w.alloc (.cells #[.int .i64 0, .int .i64 0, .int .i64 0, .int .i64 0, .int .i64 0, .int .i64 0, .int .i64 0] 47)) fun e w' => e = .returned (.tuple #[sv u N, .bool (lenB xs)]) ∧ Below (w.alloc (.cells #[.int .i64 0, .int .i64 0, .int .i64 0, .int .i64 0, .int .i64 0, .int .i64 0, .int .i64 0] 47)).heap.size (w.alloc (.cells #[.int .i64 0, .int .i64 0, .int .i64 0, .int .i64 0, .int .i64 0, .int .i64 0, .int .i64 0] 47)) w' := by
    cases h : lenB xs
    · exact ⟨0, fun _ => 0, lengthsOf_no a p xs _ hx (L0.reads hr) h⟩
    · exact ⟨_, _, lengthsOf_yes a p xs _ hx (L0.reads hr) h⟩
  have hf : ∃ F, ∀ W, Calls Try.prog 50 #[.int .i64 q] W fun e w' => e = .returned (.tuple #[F, .bool (isQ q)]) ∧ W = w' := by
    cases h : isQ q
    · exact ⟨_, fun W => fieldOf_no q W h⟩
    · obtain ⟨n, rfl, hn⟩ := isQ_nat h
      exact ⟨_, fun W => fieldOf_yes n hn W⟩
  obtain ⟨u, M, hc⟩ := hc
  obtain ⟨F, hf⟩ := hf
  have HF := Lib.hid hf
  have HC := Lib.hid hc
  have HL := Lib.hid L0
  clear hc hr L0 hx hf
  generalize lenB xs = b1 at *
  generalize isQ q = b2 at *
  cases b1
  · clear hg
    go_enter Try.func32, Try.ntmps32
    go_wp2_with fail
    refine HC.out.mono ?_
    rintro e w2 ⟨rfl, hb⟩
    have L2 := (HL.out.kept hb).has (sl u M) 47
    rw [show w2.alloc (.cells (sl u M).toArray 47) = w2.alloc (.cells #[.int .i64 u, .int .i64 (M 0), .int .i64 (M 1), .int .i64 (M 2), .int .i64 (M 3), .int .i64 (M 4), .int .i64 (M 5)] 47) from rfl] at L2
    have HL2 := Lib.hid L2
    clear hb L2 HC HL
    go_upto_region 2 with fail
    generalize w2.alloc _ = w5 at *
    go_wp2_with fail
    refine (HF.out _).mono ?_
    rintro e w6 ⟨rfl, rfl⟩
    obtain ⟨e0, e1, e2, e3, e4, e5, e6, _⟩ := HL2.out.ownHas.seven
    obtain ⟨f0, f1, f2, f3, f4, f5, f6, ff⟩ := HL2.out.tl.ownHas.seven
    have HB := Lib.hid HL2.out.below
    clear HL2
    go_wp2_with fail
    refine bodyPost_ret (v := .tuple #[sv u M, F, .bool false]) (by simp [results, Try.results32, go_sem, f0, f1, f2, f3, f4, f5, f6]) rfl ⟨⟨_, _, _, rfl⟩, ?_⟩
    have h2 := HB.out
    repeat (refine Below.setCell ?_ (by simp <;> omega) _)
    exact h2
  · rw [Bool.true_and] at hg
    subst hg
    go_enter Try.func32, Try.ntmps32
    go_wp2_with fail
    refine HC.out.mono ?_
    rintro e w2 ⟨rfl, hb⟩
    have L2 := (HL.out.kept hb).has (sl u M) 47
    rw [show w2.alloc (.cells (sl u M).toArray 47) = w2.alloc (.cells #[.int .i64 u, .int .i64 (M 0), .int .i64 (M 1), .int .i64 (M 2), .int .i64 (M 3), .int .i64 (M 4), .int .i64 (M 5)] 47) from rfl] at L2
    have HL2 := Lib.hid L2
    clear hb L2 HC HL
    go_upto_region 2 with fail
    generalize w2.alloc _ = w5 at *
    go_wp2_with fail
    refine (HF.out _).mono ?_
    rintro e w6 ⟨rfl, rfl⟩
    obtain ⟨e0, e1, e2, e3, e4, e5, e6, _⟩ := HL2.out.ownHas.seven
    obtain ⟨f0, f1, f2, f3, f4, f5, f6, ff⟩ := HL2.out.tl.ownHas.seven
    have HB := Lib.hid HL2.out.below
    clear HL2
    go_wp2_with fail
    refine bodyPost_ret (v := .tuple #[sv u M, F, .bool false]) (by simp [results, Try.results32, go_sem, f0, f1, f2, f3, f4, f5, f6]) rfl ⟨⟨_, _, _, rfl⟩, ?_⟩
    have h2 := HB.out
    repeat (refine Below.setCell ?_ (by simp <;> omega) _)
    exact h2

end Go.Proofs.Ytabfiafjcnilnaa
end
