/- Cells told one by one: the plain part. No condition. -/
import Derived.Test.YtakdiiccdkjjcacK
namespace Go.Proofs.Ytakdiiccdkjjcac
open Go.RowKit Go.WideShapes

def bit (xs : List Int) (a b : Nat) : Bool := (xs.getD a 0).toNat.testBit b
def cellsP (xs : List Int) (n m : Nat) : List (Nat × Nat) := (List.range n).flatMap (fun a => ((List.range m).filter (fun b => bit xs a b)).map (fun b => (a, b)))
theorem cellsL_eq (xs : List Int) (n m : Nat) : cellsL xs n m = (cellsP xs n m).map (fun c => [(c.1 : Int), (c.2 : Int)]) := by
  unfold cellsL cellsU cellsP rowC bit
  rw [List.map_flatMap]
  simp [Function.comp_def]
theorem cellsP_mem (xs : List Int) (n m : Nat) (c : Nat × Nat) (h : c ∈ cellsP xs n m) : c.1 < n ∧ c.2 < m := by
  unfold cellsP at h
  simp only [List.mem_flatMap, List.mem_range, List.mem_map, List.mem_filter] at h
  obtain ⟨a, ha, b, ⟨hb, _⟩, rfl⟩ := h
  exact ⟨ha, hb⟩

def addAt (l : List Int) (p : Nat) (v : Int) : List Int := l.set p (l.getD p 0 + v)
def tally (pos : Nat × Nat → Nat) (val : Nat × Nat → Int) (z : List Int) (cs : List (Nat × Nat)) : List Int := cs.foldl (fun l c => addAt l (pos c) (val c)) z
def contrib (pos : Nat × Nat → Nat) (val : Nat × Nat → Int) (p : Nat) : List (Nat × Nat) → Int
  | [] => 0
  | c :: cs => (if pos c = p then val c else 0) + contrib pos val p cs
theorem addAt_get (l : List Int) (p q : Nat) (v : Int) (hq : q < l.length) : (addAt l p v).getD q 0 = l.getD q 0 + if p = q then v else 0 := by
  unfold addAt
  by_cases h : p = q
  · subst h
    rw [if_pos rfl]
    simp [List.getD, hq]
  · rw [if_neg h, Int.add_zero]
    simp [List.getD, h]
theorem tally_len (pos : Nat × Nat → Nat) (val : Nat × Nat → Int) (cs : List (Nat × Nat)) (z : List Int) : (tally pos val z cs).length = z.length := by
  induction cs generalizing z with
  | nil => rfl
  | cons c cs ih =>
    show (tally pos val (addAt z (pos c) (val c)) cs).length = z.length
    rw [ih]
    simp [addAt]
theorem tally_get (pos : Nat × Nat → Nat) (val : Nat × Nat → Int) (cs : List (Nat × Nat)) (z : List Int) (q : Nat) (hq : q < z.length) : (tally pos val z cs).getD q 0 = z.getD q 0 + contrib pos val q cs := by
  induction cs generalizing z with
  | nil => simp [tally, contrib]
  | cons c cs ih =>
    show (tally pos val (addAt z (pos c) (val c)) cs).getD q 0 = _
    rw [ih _ (by simpa [addAt] using hq), addAt_get _ _ _ _ hq, contrib]
    omega
theorem tally_next (pos : Nat × Nat → Nat) (val : Nat × Nat → Int) (cs : List (Nat × Nat)) (z : List Int) (k : Nat) (hk : k < cs.length) (x : Int) (hx : (tally pos val z (cs.take k)).getD (pos cs[k]) 0 = x) :
    (tally pos val z (cs.take k)).set (pos cs[k]) (x + val cs[k]) = tally pos val z (cs.take (k + 1)) := by
  subst hx
  rw [List.take_succ_eq_append_getElem hk]
  unfold tally
  rw [List.foldl_append]
  rfl
theorem contrib_append (pos : Nat × Nat → Nat) (val : Nat × Nat → Int) (p : Nat) (l r : List (Nat × Nat)) : contrib pos val p (l ++ r) = contrib pos val p l + contrib pos val p r := by
  induction l with
  | nil => simp [contrib]
  | cons c l ih => rw [List.cons_append, contrib, contrib, ih]; omega
theorem contrib_bd (pos : Nat × Nat → Nat) (val : Nat × Nat → Int) (p : Nat) (B : Int) (l : List (Nat × Nat)) (h : ∀ c ∈ l, 0 ≤ val c ∧ val c ≤ B) : 0 ≤ contrib pos val p l ∧ contrib pos val p l ≤ B * l.length := by
  induction l with
  | nil => simp [contrib]
  | cons c l ih =>
    have h1 := h c (by simp)
    have h2 := ih (fun c hc => h c (by simp [hc]))
    rw [contrib, List.length_cons, Int.natCast_add, Int.mul_add]
    split <;> omega
/-- A sum over the first n numbers. -/
def sumR (f : Nat → Int) : Nat → Int
  | 0 => 0
  | n + 1 => sumR f n + f n
theorem sumR_congr (f g : Nat → Int) (n : Nat) (h : ∀ k, k < n → f k = g k) : sumR f n = sumR g n := by
  induction n with
  | zero => rfl
  | succ n ih => rw [sumR, sumR, ih (fun k hk => h k (by omega)), h n (by omega)]
theorem sumR_one (v : Nat → Int) (p n : Nat) : sumR (fun b => if b = p then v b else 0) n = if p < n then v p else 0 := by
  induction n with
  | zero => simp [sumR]
  | succ n ih =>
    rw [sumR, ih]
    by_cases h : n = p
    · subst h
      rw [if_neg (by omega), if_pos rfl, if_pos (by omega)]
      omega
    · rw [if_neg h]
      by_cases h2 : p < n
      · rw [if_pos h2, if_pos (by omega)]; omega
      · rw [if_neg h2, if_neg (by omega)]; rfl
theorem contrib_row (pos : Nat × Nat → Nat) (val : Nat × Nat → Int) (p a m : Nat) (t : Nat → Bool) :
    contrib pos val p (((List.range m).filter t).map (fun b => (a, b))) = sumR (fun b => if t b = true then (if pos (a, b) = p then val (a, b) else 0) else 0) m := by
  induction m with
  | zero => simp [contrib, sumR]
  | succ m ih =>
    rw [List.range_succ, List.filter_append, List.map_append, contrib_append, ih, sumR]
    cases h : t m <;> simp [h, contrib]
theorem contrib_flat (pos : Nat × Nat → Nat) (val : Nat × Nat → Int) (p : Nat) (f : Nat → List (Nat × Nat)) (n : Nat) : contrib pos val p ((List.range n).flatMap f) = sumR (fun a => contrib pos val p (f a)) n := by
  induction n with
  | zero => simp [contrib, sumR]
  | succ n ih =>
    have e : [n].flatMap f = f n := by simp
    rw [List.range_succ, List.flatMap_append, contrib_append, e, ih, sumR]
theorem rowM_sum (t : Nat → Bool) (n : Nat) : (rowM t n : Int) = sumR (fun a => if t a = true then 2 ^ a else 0) n := by
  induction n with
  | zero => rfl
  | succ n ih =>
    rw [rowM, sumR, ← ih]
    cases t n <;> simp

/-- Turned. -/
def turnL (xs : List Int) (n m : Nat) : List Int := ([0, 1, 2, 3, 4, 5].take m).map fun k => (rowM (fun a => bit xs a k) n : Int)
theorem turn_tally (xs : List Int) (n m : Nat) (hm : m ≤ 6) : tally (fun c => c.2) (fun c => 2 ^ c.1) (List.replicate m 0) (cellsP xs n m) = turnL xs n m := by
  refine (cells_n m _ _ (by rw [tally_len]; simp) hm (fun k hk => ?_)).symm
  rw [tally_get _ _ _ _ _ (by simpa using hk), cellsP, contrib_flat, rowM_sum]
  have e : (List.replicate m (0 : Int)).getD k 0 = 0 := by simp [List.getD, hk]
  rw [e, Int.zero_add]
  refine sumR_congr _ _ _ (fun a _ => ?_)
  rw [contrib_row]
  have e2 : sumR (fun b => if bit xs a b = true then (if b = k then (2 : Int) ^ a else 0) else 0) m = sumR (fun b => if b = k then (if bit xs a b = true then (2 : Int) ^ a else 0) else 0) m :=
    sumR_congr _ _ _ (fun b _ => by by_cases h1 : b = k <;> cases bit xs a b <;> simp [h1])
  rw [e2, sumR_one, if_pos hk]

/-- Mirrored. -/
def mirL (xs : List Int) (n m : Nat) : List Int := ([0, 1, 2, 3, 4, 5].take n).map fun k => (rowM (fun c => bit xs k (m - 1 - c)) m : Int)
theorem mir_row (x : Int) (m : Nat) (hm : m ≤ 6) (h : 0 ≤ x ∧ x < 64) : (rowM (fun c => x.toNat.testBit (m - 1 - c)) m : Int) = sumR (fun b => if x.toNat.testBit b = true then 2 ^ (m - 1 - b) else 0) m := by
  obtain ⟨n, rfl⟩ := Int.eq_ofNat_of_zero_le h.1
  have key : ∀ m : Fin 7, ∀ n : Fin 64, (rowM (fun c => ((n : Nat) : Int).toNat.testBit ((m : Nat) - 1 - c)) m : Int) = sumR (fun b => if ((n : Nat) : Int).toNat.testBit b = true then 2 ^ ((m : Nat) - 1 - b) else 0) m := by decide +kernel
  exact key ⟨m, by omega⟩ ⟨n, by omega⟩
theorem mir_tally (xs : List Int) (n m : Nat) (hn : n ≤ 6) (hm : m ≤ 6) (hx : ∀ k, 0 ≤ xs.getD k 0 ∧ xs.getD k 0 < 64) : tally (fun c => c.1) (fun c => 2 ^ (m - 1 - c.2)) (List.replicate n 0) (cellsP xs n m) = mirL xs n m := by
  refine (cells_n n _ _ (by rw [tally_len]; simp) hn (fun k hk => ?_)).symm
  rw [tally_get _ _ _ _ _ (by simpa using hk), cellsP, contrib_flat]
  have e : (List.replicate n (0 : Int)).getD k 0 = 0 := by simp [List.getD, hk]
  rw [e, Int.zero_add]
  have e2 : sumR (fun a => contrib (fun c => c.1) (fun c => (2 : Int) ^ (m - 1 - c.2)) k (((List.range m).filter (fun b => bit xs a b)).map (fun b => (a, b)))) n = sumR (fun a => if a = k then sumR (fun b => if bit xs a b = true then (2 : Int) ^ (m - 1 - b) else 0) m else 0) n :=
    sumR_congr _ _ _ (fun a _ => by
      rw [contrib_row]
      by_cases h1 : a = k
      · rw [if_pos h1]
        exact sumR_congr _ _ _ (fun b _ => by simp [h1])
      · rw [if_neg h1]
        have : sumR (fun b => if bit xs a b = true then (if a = k then (2 : Int) ^ (m - 1 - b) else 0) else 0) m = sumR (fun b => if b = m then (0 : Int) else 0) m := sumR_congr _ _ _ (fun b _ => by simp [h1])
        rw [this, sumR_one]
        simp)
  rw [e2, sumR_one, if_pos hk]
  exact mir_row _ _ hm (hx k)

/-- Counted by rows. -/
def cntL (xs : List Int) (n : Nat) : List Int := ([0, 1, 2, 3, 4, 5].take n).map fun k => pop (xs.getD k 0)
theorem cnt_row (x : Int) (m : Nat) (hm : m ≤ 6) (h : 0 ≤ x ∧ x < pw m) : pop x = sumR (fun b => if x.toNat.testBit b = true then 1 else 0) m := by
  obtain ⟨n, rfl⟩ := Int.eq_ofNat_of_zero_le h.1
  have key : ∀ m : Fin 7, ∀ n : Fin 64, ((n : Nat) : Int) < pw (m : Nat) → pop ((n : Nat) : Int) = sumR (fun b => if ((n : Nat) : Int).toNat.testBit b = true then 1 else 0) m := by decide +kernel
  have h6 := (pw_bd (c := (m : Int)) (by omega)).2.1
  exact key ⟨m, by omega⟩ ⟨n, by omega⟩ h.2
theorem cnt_tally (xs : List Int) (n m : Nat) (hn : n ≤ 6) (hm : m ≤ 6) (hx : ∀ k, k < n → 0 ≤ xs.getD k 0 ∧ xs.getD k 0 < pw m) : tally (fun c => c.1) (fun _ => 1) (List.replicate n 0) (cellsP xs n m) = cntL xs n := by
  refine (cells_n n _ _ (by rw [tally_len]; simp) hn (fun k hk => ?_)).symm
  rw [tally_get _ _ _ _ _ (by simpa using hk), cellsP, contrib_flat]
  have e : (List.replicate n (0 : Int)).getD k 0 = 0 := by simp [List.getD, hk]
  rw [e, Int.zero_add]
  have e2 : sumR (fun a => contrib (fun c => c.1) (fun _ => (1 : Int)) k (((List.range m).filter (fun b => bit xs a b)).map (fun b => (a, b)))) n = sumR (fun a => if a = k then sumR (fun b => if bit xs a b = true then (1 : Int) else 0) m else 0) n :=
    sumR_congr _ _ _ (fun a _ => by
      rw [contrib_row]
      by_cases h1 : a = k
      · rw [if_pos h1]
        exact sumR_congr _ _ _ (fun b _ => by simp [h1])
      · rw [if_neg h1]
        have : sumR (fun b => if bit xs a b = true then (if a = k then (1 : Int) else 0) else 0) m = sumR (fun b => if b = m then (0 : Int) else 0) m := sumR_congr _ _ _ (fun b _ => by simp [h1])
        rw [this, sumR_one]
        simp)
  rw [e2, sumR_one, if_pos hk]
  exact cnt_row _ _ hm (hx k hk)
theorem cellsP_len (xs : List Int) (n m : Nat) (hn : n ≤ 6) (hm : m ≤ 6) : (cellsP xs n m).length ≤ 42 := by
  have h := cellsU_len xs m n 0 hn hm (by omega)
  have e : (cellsL xs n m).length = (cellsP xs n m).length := by rw [cellsL_eq, List.length_map]
  rw [← e]
  exact h

end Go.Proofs.Ytakdiiccdkjjcac
