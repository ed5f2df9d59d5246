/- Lists that are written number by number: shifts and straight lists, in both texts. No condition but the sizes. -/
import Derived.Test.YtmhlpaenfknofaaUe
import Derived.Test.YtmhlpaenfknofaaAp
import Derived.Deep.RegionHeld3
namespace Go.Proofs.Ytmhlpaenfknofaa
open Go.RowKit Go.WideShapes

/-- Writes, one behind the other. -/
def wrG (ix : Nat → Nat) (va : Nat → Int) (xs : List Int) : Nat → List Int
  | 0 => xs
  | k + 1 => (wrG ix va xs k).set (ix k) (va k)
theorem wrG_len (ix : Nat → Nat) (va : Nat → Int) (xs : List Int) (k : Nat) : (wrG ix va xs k).length = xs.length := by
  induction k with
  | zero => rfl
  | succ k ih => rw [wrG, List.length_set, ih]
theorem wrG_in (ix : Nat → Nat) (va : Nat → Int) (n : Nat) (xs : List Int) (h1 : ∀ x ∈ xs, 0 ≤ x ∧ x < (n : Int)) (k : Nat) (h2 : ∀ j, j < k → 0 ≤ va j ∧ va j < (n : Int)) : ∀ x ∈ wrG ix va xs k, 0 ≤ x ∧ x < (n : Int) := by
  induction k with
  | zero => exact h1
  | succ k ih =>
    intro x hx
    rw [wrG] at hx
    rcases List.mem_or_eq_of_mem_set hx with h | h
    · exact ih (fun j hj => h2 j (by omega)) x h
    · rw [h]; exact h2 k (by omega)
def modI (x n : Int) : Int := (x.tmod n + n).tmod n
theorem tmod_bd (x n : Int) (hn : 1 ≤ n) : -n < x.tmod n ∧ x.tmod n < n := by
  have h2 := Int.tmod_lt_of_pos x (show 0 < n by omega)
  have h1 := Int.tmod_lt_of_pos (-x) (show 0 < n by omega)
  rw [Int.neg_tmod] at h1
  omega
theorem modI_bd (x n : Int) (hn : 1 ≤ n) : 0 ≤ modI x n ∧ modI x n < n := by
  have h := tmod_bd x n hn
  unfold modI
  exact ⟨Int.tmod_nonneg n (by omega), (tmod_bd _ n hn).2⟩
def shL (q : List Int) (a b : Int) : List Int := wrG (fun r => (modI ((r : Int) + a) q.length).toNat) (fun r => modI (q.getD r 0 + b) q.length) (List.replicate q.length 0) q.length
def shR (q : List Int) (a b : Int) : LR := if gdB q && (inB (-100) a 100 && inB (-100) b 100) then ⟨shL q a b, true⟩ else ⟨[], false⟩
theorem shL_len (q : List Int) (a b : Int) : (shL q a b).length = q.length := by unfold shL; rw [wrG_len, List.length_replicate]
theorem shR_len (q : List Int) (a b : Int) : (shR q a b).ys.length ≤ 1048576 := by
  unfold shR
  split
  · rename_i h
    rw [Bool.and_eq_true] at h
    have := (gd_facts h.1).2.1
    simp only
    rw [shL_len]
    omega
  · simp

theorem own_madeQ (w : World) (n : Nat) (hn : n ≤ 1048576) : Own (w.alloc (.cells (madeCells #[.int .i64 0] n) 3)) w.heap.size (.slice (some ⟨w.heap.size, 0, none⟩) n n) (List.replicate n 0) := by
  have h : Has (w.alloc (.cells (madeCells #[.int .i64 0] n) 3)) w.heap.size ((List.replicate n (0 : Int)).map (Value.int .i64)) 3 := by
    rw [made_eq, List.map_replicate]
    exact Has.new w _ _
  exact own_of_has h (Nat.le_refl _) (by simp) (by unfold maxLen; omega)


/-- The straight list. -/
def strL (n : Nat) (st : Int) : List Int := (List.range n).map (fun (r : Nat) => (st * r).tmod n)
def strR (n st : Int) : LR := if inB 1 n 8 && (inB (min 1 (n - 1)) st (n - 1) && gdB (strL n.toNat st)) then ⟨strL n.toNat st, true⟩ else ⟨[], false⟩
theorem strL_len (n : Nat) (st : Int) : (strL n st).length = n := by simp [strL]
theorem strR_len (n st : Int) : (strR n st).ys.length ≤ 1048576 := by
  unfold strR
  split
  · rename_i h
    rw [Bool.and_eq_true, inB_iff] at h
    simp only
    rw [strL_len]
    omega
  · simp
theorem strL_get (n : Nat) (st : Int) (k : Nat) (hk : k < n) : (strL n st).getD k 0 = (st * k).tmod n := by
  simp [strL, List.getD, hk]
theorem strL_zero : ∀ n : Fin 9, 2 ≤ (n : Nat) → gdB (strL n 0) = false := by decide +kernel
theorem strL_succ (n : Nat) (st : Int) (k : Nat) (hk : k < n) : (strL n st).take (k + 1) = (strL n st).take k ++ [(st * k).tmod n] := by
  have h : k < (strL n st).length := by rw [strL_len]; exact hk
  rw [List.take_succ_eq_append_getElem h]
  have := strL_get n st k hk
  simp only [List.getD, List.getElem?_eq_getElem h, Option.getD_some] at this
  rw [this]
theorem mul_small (st : Int) (k n : Nat) (h0 : 0 ≤ st) (h1 : st < n) (hk : k < n) (hn : n ≤ 8) : 0 ≤ st * k ∧ st * k ≤ 64 := by
  obtain ⟨s, rfl⟩ := Int.eq_ofNat_of_zero_le h0
  have : s * k ≤ 8 * 8 := Nat.mul_le_mul (by omega) (by omega)
  have e : (s : Int) * k = ((s * k : Nat) : Int) := by push_cast; rfl
  rw [e]
  omega

end Go.Proofs.Ytmhlpaenfknofaa
