/- Numbers behind which others were put: the plain part. No condition. -/
import Derived.Test.YtddmommamcgelabZk
import Derived.Test.YtddmommamcgelabPt
import Derived.Test.YtddmommamcgelabFm
namespace Go.Proofs.Ytddmommamcgelab
open Go.RowKit Go.WideShapes

def upd (f : Nat → Int) (x : Nat) (v : Int) : Nat → Int := fun q => if q = x then v else f q
theorem upd_at (f : Nat → Int) (x : Nat) (v : Int) : upd f x v x = v := by unfold upd; rw [if_pos rfl]
theorem upd_off (f : Nat → Int) (x : Nat) (v : Int) (q : Nat) (h : q ≠ x) : upd f x v q = f q := by unfold upd; rw [if_neg h]
theorem upd_upd (f : Nat → Int) (x : Nat) (u v : Int) : upd (upd f x u) x v = upd f x v := by
  funext q
  unfold upd
  by_cases h : q = x
  · rw [if_pos h, if_pos h]
  · rw [if_neg h, if_neg h, if_neg h]
theorem upd_same (f : Nat → Int) (x : Nat) (v : Int) (h : f x = v) : upd f x v = f := by
  funext q
  unfold upd
  by_cases e : q = x
  · rw [if_pos e, e, h]
  · rw [if_neg e]
theorem lstI_upd (L : Nat) (f : Nat → Int) (x : Nat) (v : Int) : (lstI L f).set x v = lstI L (upd f x v) :=
  lstI_set L _ _ x v (upd_at _ _ _) (fun _ _ hk => upd_off _ _ _ _ hk)
/-- What is told for the numbers of a row, one after the other. -/
def rowSt (val : List Int → Nat → Int) (r : List Int) (f : Nat → Int) : Nat → Nat → Int
  | 0 => f
  | k + 1 => upd (rowSt val r f k) (r.getD k 0).toNat (val r k)
def allSt (val : List Int → Nat → Int) (zz : List (List Int)) (f : Nat → Int) : Nat → Nat → Int
  | 0 => f
  | i + 1 => rowSt val (rowZ zz i) (allSt val zz f i) (rowZ zz i).length
theorem rowSt_off (val : List Int → Nat → Int) (r : List Int) (f : Nat → Int) (k q : Nat) (h : ∀ j, j < k → q ≠ (r.getD j 0).toNat) : rowSt val r f k q = f q := by
  induction k with
  | zero => rfl
  | succ k ih => rw [rowSt, upd_off _ _ _ _ (h k (by omega)), ih (fun j hj => h j (by omega))]
theorem rowSt_at (val : List Int → Nat → Int) (r : List Int) (f : Nat → Int) (k j : Nat) (hj : j < k) (h : ∀ l, j < l → l < k → (r.getD j 0).toNat ≠ (r.getD l 0).toNat) : rowSt val r f k (r.getD j 0).toNat = val r j := by
  induction k with
  | zero => omega
  | succ k ih =>
    rw [rowSt]
    by_cases e : j = k
    · subst e; exact upd_at _ _ _
    · rw [upd_off _ _ _ _ (h k (by omega) (by omega)), ih (by omega) (fun l h1 h2 => h l h1 (by omega))]
/-- The k-th number of row i. -/
def numZ (zz : List (List Int)) (i k : Nat) : Int := (rowZ zz i).getD k 0
theorem GF.nonneg {d : Bool} {zz : List (List Int)} (g : GF d zz) (i k : Nat) (hi : i < zz.length) (hk : k < (rowZ zz i).length) : 0 ≤ numZ zz i k ∧ numZ zz i k < (total zz : Int) := g.wi _ (rowZ_mem zz i k hi hk)
theorem preZ_mono (zz : List (List Int)) (i j : Nat) (h : i ≤ j) (x : Int) (hx : x ∈ preZ zz i) : x ∈ preZ zz j := by
  have e : preZ zz i = (zz.take i).flatten := rfl
  have e2 : preZ zz j = (zz.take j).flatten := rfl
  rw [e, List.mem_flatten] at hx
  obtain ⟨r, hr, hx⟩ := hx
  rw [e2, List.mem_flatten]
  exact ⟨r, (List.take_sublist_take_left h).subset hr, hx⟩
theorem GF.apart {d : Bool} {zz : List (List Int)} (g : GF d zz) (i k j l : Nat) (hi : i < zz.length) (hk : k < (rowZ zz i).length) (hj : j < zz.length) (hl : l < (rowZ zz j).length) (h : i < j ∨ (i = j ∧ k < l)) : numZ zz i k ≠ numZ zz j l := by
  intro e
  refine GF.bad_elem (d := d) j l hj hl (.inl ?_) g
  rw [show (rowZ zz j).getD l 0 = numZ zz i k from e.symm]
  unfold seenZ
  rw [List.mem_append]
  rcases h with h | ⟨rfl, h⟩
  · refine .inl (preZ_mono zz (i + 1) j (by omega) _ ?_)
    rw [preZ_succ zz i hi, List.mem_append]
    exact .inr (by unfold numZ; simp [List.getD, hk])
  · refine .inr ?_
    rw [List.mem_iff_getElem]
    exact ⟨k, by simp; omega, by unfold numZ; simp [List.getD, hk]⟩
theorem GF.apartN {d : Bool} {zz : List (List Int)} (g : GF d zz) (i k j l : Nat) (hi : i < zz.length) (hk : k < (rowZ zz i).length) (hj : j < zz.length) (hl : l < (rowZ zz j).length) (h : ¬ (i = j ∧ k = l)) : (numZ zz i k).toNat ≠ (numZ zz j l).toNat := by
  have h1 := g.nonneg i k hi hk
  have h2 := g.nonneg j l hj hl
  have h3 : numZ zz i k ≠ numZ zz j l := by
    by_cases a : i < j ∨ (i = j ∧ k < l)
    · exact g.apart i k j l hi hk hj hl a
    · exact (g.apart j l i k hj hl hi hk (by omega)).symm
  omega
theorem allSt_off {d : Bool} {zz : List (List Int)} (_g : GF d zz) (val : List Int → Nat → Int) (f : Nat → Int) (n q : Nat) (hn : n ≤ zz.length) (h : ∀ i k, i < n → k < (rowZ zz i).length → q ≠ (numZ zz i k).toNat) : allSt val zz f n q = f q := by
  induction n with
  | zero => rfl
  | succ n ih =>
    rw [allSt, rowSt_off _ _ _ _ _ (fun j hj => h n j (by omega) hj), ih (by omega) (fun i k hi hk => h i k (by omega) hk)]
theorem allSt_at {d : Bool} {zz : List (List Int)} (g : GF d zz) (val : List Int → Nat → Int) (f : Nat → Int) (n i k : Nat) (hn : n ≤ zz.length) (hi : i < n) (hk : k < (rowZ zz i).length) : allSt val zz f n (numZ zz i k).toNat = val (rowZ zz i) k := by
  induction n with
  | zero => omega
  | succ n ih =>
    rw [allSt]
    by_cases e : i = n
    · subst e
      exact rowSt_at val (rowZ zz i) _ _ k hk (fun l h1 h2 => g.apartN i k i l (by omega) hk (by omega) h2 (by omega))
    · rw [rowSt_off _ _ _ _ _ (fun j hj => g.apartN i k n j (by omega) hk (by omega) hj (by omega)), ih (by omega) (by omega)]
theorem nodup_short (n : Nat) : ∀ l : List Int, l.Nodup → (∀ x ∈ l, 0 ≤ x ∧ x < (n : Int)) → l.length ≤ n := by
  induction n with
  | zero =>
    intro l _ h
    match l with
    | [] => simp
    | x :: t => have := h x (by simp); omega
  | succ n ih =>
    intro l hnd h
    by_cases hm : (n : Int) ∈ l
    · have h1 := ih (l.erase (n : Int)) (hnd.erase _) (fun x hx => by
        have h2 := (hnd.mem_erase_iff).1 hx
        have h3 := h x h2.2
        have h4 : x ≠ (n : Int) := h2.1
        omega)
      rw [List.length_erase_of_mem hm] at h1
      omega
    · have h1 := ih l hnd (fun x hx => by
        have h3 := h x hx
        have h4 : x ≠ (n : Int) := fun e => hm (e ▸ hx)
        omega)
      omega
theorem GF.all {d : Bool} {zz : List (List Int)} (g : GF d zz) (q : Nat) (hq : q < total zz) : ∃ i k, i < zz.length ∧ k < (rowZ zz i).length ∧ numZ zz i k = (q : Int) := by
  have hm : (q : Int) ∈ zz.flatten := by
    refine Decidable.byContradiction (fun hm => ?_)
    have h1 := nodup_short (total zz) ((q : Int) :: zz.flatten) (List.nodup_cons.2 ⟨hm, g.nd⟩) (fun x hx => by
      rcases List.mem_cons.1 hx with rfl | hx
      · omega
      · exact g.wi x hx)
    rw [List.length_cons, flat_total] at h1
    omega
  obtain ⟨r, hr, hx⟩ := List.mem_flatten.1 hm
  obtain ⟨i, hi, rfl⟩ := List.mem_iff_getElem.1 hr
  obtain ⟨k, hk, hx⟩ := List.mem_iff_getElem.1 hx
  refine ⟨i, k, hi, by rw [rowZ_eq zz i hi]; exact hk, ?_⟩
  unfold numZ
  rw [rowZ_eq zz i hi]
  simp [List.getD, hk, hx]
/-- The last one of the first numbers that is less than x. -/
def lastL (r : List Int) (x : Int) : Nat → Int
  | 0 => -1
  | k + 1 => if r.getD k 0 < x then r.getD k 0 else lastL r x k
def valC (r : List Int) (k : Nat) : Int := lastL r (r.getD k 0) k
/-- The next one behind it. -/
def valP (r : List Int) (k : Nat) : Int := if k + 1 < r.length then r.getD (k + 1) 0 else -1
theorem allSt_start {d : Bool} {zz : List (List Int)} (g : GF d zz) (val : List Int → Nat → Int) (f h : Nat → Int) (q : Nat) (hq : q < total zz) : allSt val zz f zz.length q = allSt val zz h zz.length q := by
  obtain ⟨i, k, hi, hk, e⟩ := g.all q hq
  have e2 : q = (numZ zz i k).toNat := by rw [e]; simp
  rw [e2, allSt_at g val f _ i k (Nat.le_refl _) hi hk, allSt_at g val h _ i k (Nat.le_refl _) hi hk]
theorem allSt_out {d : Bool} {zz : List (List Int)} (g : GF d zz) (val : List Int → Nat → Int) (f : Nat → Int) (n q : Nat) (hn : n ≤ zz.length) (hq : total zz ≤ q) : allSt val zz f n q = f q :=
  allSt_off g val f n q hn (fun i k hi hk e => by have := g.nonneg i k (by omega) hk; omega)
/-- A first number is not told anew. -/
theorem allSt_first {d : Bool} {zz : List (List Int)} (g : GF d zz) (i : Nat) (hi : i < zz.length) : rowSt valC (rowZ zz i) (allSt valC zz (fun _ => -1) i) 1 = allSt valC zz (fun _ => -1) i := by
  rw [rowSt, rowSt]
  refine upd_same _ _ _ ?_
  show allSt valC zz (fun _ => -1) i (numZ zz i 0).toNat = -1
  rw [allSt_off g valC (fun _ => -1) i _ (by omega) (fun a k ha hk => g.apartN i 0 a k hi (by have := g.ne i hi; omega) (by omega) hk (by omega))]
theorem lastL_skip (r : List Int) (x : Int) (k : Nat) (h : ¬ r.getD k 0 < x) : lastL r x (k + 1) = lastL r x k := by rw [lastL, if_neg h]
theorem lastL_at (r : List Int) (x : Int) (k : Nat) (h : r.getD k 0 < x) : lastL r x (k + 1) = r.getD k 0 := by rw [lastL, if_pos h]
theorem GF.before {zz : List (List Int)} (g : GF true zz) (i k : Nat) (hi : i < zz.length) (hk : k + 1 < (rowZ zz i).length) : valC (rowZ zz i) (k + 1) = numZ zz i k := by
  have h1 := g.so rfl i hi k (by omega)
  have h2 := g.apart i k i (k + 1) hi (by omega) hi hk (.inr ⟨rfl, by omega⟩)
  unfold numZ at h2
  exact lastL_at _ _ _ (by omega)
theorem trF_one (p : Nat → Int) (K c q : Nat) (hc : c < K) (h : p c = (q : Int)) (hu : ∀ b, b < K → p b = (q : Int) → b = c) : trF p K q = c := by
  induction K with
  | zero => omega
  | succ K ih =>
    rw [trF]
    by_cases e : p K = (q : Int)
    · rw [if_pos e, hu K (by omega) e]
    · rw [if_neg e]
      have : c ≠ K := fun e2 => e (by rw [← e2]; exact h)
      exact ih (by omega) (fun b hb => hu b (by omega))
theorem trF_none (p : Nat → Int) (K q : Nat) (h : ∀ b, b < K → p b ≠ (q : Int)) : trF p K q = -1 := by
  induction K with
  | zero => rfl
  | succ K ih => rw [trF, if_neg (h K (by omega)), ih (fun b hb => h b (by omega))]
/-- Turned, they are the next ones. -/
theorem turn_files {zz : List (List Int)} (g : GF true zz) (h0 : Nat → Int) (q : Nat) (hq : q < total zz) : trF (allSt valC zz (fun _ => -1) zz.length) 6 q = allSt valP zz h0 zz.length q := by
  obtain ⟨i, k, hi, hk, e⟩ := g.all q hq
  have e2 : q = (numZ zz i k).toNat := by rw [e]; simp
  have ht := g.tot
  have hun : ∀ b, b < 6 → allSt valC zz (fun _ => -1) zz.length b = (q : Int) → k + 1 < (rowZ zz i).length ∧ b = (numZ zz i (k + 1)).toNat := by
    intro b _ hb
    by_cases hbt : b < total zz
    · obtain ⟨j, l, hj, hl, e3⟩ := g.all b hbt
      have e4 : b = (numZ zz j l).toNat := by rw [e3]; simp
      rw [e4, allSt_at g valC _ _ j l (Nat.le_refl _) hj hl] at hb
      match l, hl with
      | 0, hl => unfold valC lastL at hb; omega
      | l + 1, hl =>
        rw [g.before j l hj hl, ← e] at hb
        by_cases hs : j = i ∧ l = k
        · obtain ⟨rfl, rfl⟩ := hs
          exact ⟨hl, e4⟩
        · have h1 := g.apartN j l i k hj (by omega) hi hk hs
          rw [hb] at h1
          exact absurd rfl h1
    · rw [allSt_out g valC _ _ _ (Nat.le_refl _) (by omega)] at hb
      omega
  rw [show allSt valP zz h0 zz.length q = valP (rowZ zz i) k by rw [e2]; exact allSt_at g valP h0 _ i k (Nat.le_refl _) hi hk]
  by_cases hk1 : k + 1 < (rowZ zz i).length
  · have hn := g.nonneg i (k + 1) hi hk1
    have hv : valP (rowZ zz i) k = numZ zz i (k + 1) := by unfold valP; rw [if_pos hk1]; rfl
    rw [hv, trF_one _ 6 (numZ zz i (k + 1)).toNat q (by omega) (by rw [allSt_at g valC _ _ i (k + 1) (Nat.le_refl _) hi hk1, g.before i k hi hk1, e]) (fun b hb h => (hun b hb h).2)]
    omega
  · have hv : valP (rowZ zz i) k = -1 := by unfold valP; rw [if_neg hk1]
    rw [hv]
    exact trF_none _ 6 q (fun b hb h => hk1 (hun b hb h).1)
end Go.Proofs.Ytddmommamcgelab
