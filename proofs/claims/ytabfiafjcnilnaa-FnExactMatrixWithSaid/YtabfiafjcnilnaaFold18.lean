import Derived.Test.YtabfiafjcnilnaaFold11
namespace Go.Proofs.Ytabfiafjcnilnaa

/-- A sum over the numbers below n. -/
def sumN (h : Nat → Nat) : Nat → Nat
  | 0 => 0
  | n + 1 => sumN h n + h n
theorem sumN_range (h : Nat → Nat) (n : Nat) : ((List.range n).map h).sum = sumN h n := by
  induction n with
  | zero => rfl
  | succ n ih => rw [List.range_succ, List.map_append, List.sum_append, ih]; simp [sumN]
theorem sumN_congr (h h' : Nat → Nat) (n : Nat) (e : ∀ k, k < n → h k = h' k) : sumN h n = sumN h' n := by
  induction n with
  | zero => rfl
  | succ n ih => rw [sumN, sumN, ih (fun k hk => e k (by omega)), e n (by omega)]
theorem sumN_add (h h' : Nat → Nat) (n : Nat) : sumN (fun k => h k + h' k) n = sumN h n + sumN h' n := by
  induction n with
  | zero => rfl
  | succ n ih => rw [sumN, sumN, sumN, ih]; omega
theorem sumN_zero (n : Nat) : sumN (fun _ => 0) n = 0 := by
  induction n with
  | zero => rfl
  | succ n ih => rw [sumN, ih]
theorem sumN_mul (a : Nat) (h : Nat → Nat) (n : Nat) : sumN (fun k => a * h k) n = a * sumN h n := by
  induction n with
  | zero => rfl
  | succ n ih => rw [sumN, sumN, ih, Nat.mul_add]
theorem sumN_mulr (a : Nat) (h : Nat → Nat) (n : Nat) : sumN (fun k => h k * a) n = sumN h n * a := by
  induction n with
  | zero => simp [sumN]
  | succ n ih => rw [sumN, sumN, ih, Nat.add_mul]
theorem sumN_swap (h : Nat → Nat → Nat) (n m : Nat) : sumN (fun a => sumN (h a) m) n = sumN (fun b => sumN (fun a => h a b) n) m := by
  induction n with
  | zero => exact (sumN_zero m).symm
  | succ n ih =>
    rw [sumN, ih]
    simp only [sumN]
    rw [sumN_add]
theorem sumN_le (h : Nat → Nat) (b n : Nat) (e : ∀ k, k < n → h k ≤ b) : sumN h n ≤ n * b := by
  induction n with
  | zero => simp [sumN]
  | succ n ih =>
    rw [sumN, Nat.succ_mul]
    have := ih (fun k hk => e k (by omega))
    have := e n (by omega)
    omega
theorem sumN_pos (h : Nat → Nat) (n : Nat) (e : sumN h n ≠ 0) : ∃ k, k < n ∧ h k ≠ 0 := by
  induction n with
  | zero => simp [sumN] at e
  | succ n ih =>
    by_cases e2 : h n = 0
    · rw [sumN, e2, Nat.add_zero] at e
      obtain ⟨k, hk, h2⟩ := ih e
      exact ⟨k, by omega, h2⟩
    · exact ⟨n, by omega, e2⟩
theorem sumN_filter (p : Nat → Bool) (h : Nat → Nat) (n : Nat) : sumN (fun k => if p k = true then h k else 0) n = (((List.range n).filter p).map h).sum := by
  induction n with
  | zero => rfl
  | succ n ih =>
    rw [sumN, ih, List.range_succ, List.filter_append, List.map_append, List.sum_append]
    cases e : p n <;> simp [e]
/-- Sets with the column c are those without it, it put in. -/
theorem sets_put (c : Nat) (hc : c < 6) (h : Nat → Nat → Nat) : sumN (fun s => if s.testBit c = true then h (s - 2 ^ c) s else 0) 64 = sumN (fun s => if s.testBit c = false then h s (s ||| 2 ^ c) else 0) 64 := by
  have e1 := sumN_filter (fun s => s.testBit c) (fun s => h (s - 2 ^ c) s) 64
  have e2 := sumN_filter (fun s => !s.testBit c) (fun s => h s (s ||| 2 ^ c)) 64
  have key : ∀ c : Fin 6, ((List.range 64).filter (fun s => s.testBit (c : Nat))).map (fun s => (s - 2 ^ (c : Nat), s)) = ((List.range 64).filter (fun s => !s.testBit (c : Nat))).map (fun s => (s, s ||| 2 ^ (c : Nat))) := by decide +kernel
  have k := congrArg (List.map (fun p : Nat × Nat => h p.1 p.2)) (key ⟨c, hc⟩)
  simp only [List.map_map] at k
  have e3 : sumN (fun s => if s.testBit c = false then h s (s ||| 2 ^ c) else 0) 64 = sumN (fun s => if (!s.testBit c) = true then h s (s ||| 2 ^ c) else 0) 64 := sumN_congr _ _ _ (fun s _ => by cases s.testBit c <;> rfl)
  rw [e1, e3, e2]
  exact congrArg List.sum k

/-- How many columns are in a set. -/
def cnt6 (s : Nat) : Nat := ((List.range 6).filter (fun c => s.testBit c)).length
theorem cnt6_put (s c : Nat) (hs : s < 64) (hc : c < 6) (h : s.testBit c = false) : cnt6 (s ||| 2 ^ c) = cnt6 s + 1 ∧ s ||| 2 ^ c < 64 := by
  have key : ∀ s : Fin 64, ∀ c : Fin 6, (s : Nat).testBit c = false → cnt6 ((s : Nat) ||| 2 ^ (c : Nat)) = cnt6 s + 1 ∧ (s : Nat) ||| 2 ^ (c : Nat) < 64 := by decide +kernel
  exact key ⟨s, hs⟩ ⟨c, hc⟩ h
theorem cnt6_off (s c : Nat) (hs : s < 64) (hc : c < 6) (h : s.testBit c = true) : cnt6 s = cnt6 (s - 2 ^ c) + 1 ∧ s - 2 ^ c < s ∧ (s - 2 ^ c).testBit c = false ∧ (s - 2 ^ c) ||| 2 ^ c = s := by
  have key : ∀ s : Fin 64, ∀ c : Fin 6, (s : Nat).testBit c = true → cnt6 s = cnt6 ((s : Nat) - 2 ^ (c : Nat)) + 1 ∧ (s : Nat) - 2 ^ (c : Nat) < s ∧ ((s : Nat) - 2 ^ (c : Nat)).testBit c = false ∧ ((s : Nat) - 2 ^ (c : Nat)) ||| 2 ^ (c : Nat) = s := by decide +kernel
  exact key ⟨s, hs⟩ ⟨c, hc⟩ h
theorem cnt6_le (s m : Nat) (hm : m ≤ 6) (hs : s < 2 ^ m) : cnt6 s ≤ m := by
  have key : ∀ m : Fin 7, ∀ s : Fin 64, (s : Nat) < 2 ^ (m : Nat) → cnt6 s ≤ m := by decide +kernel
  have h6 : 2 ^ m ≤ 2 ^ 6 := Nat.pow_le_pow_right (by omega) hm
  exact key ⟨m, by omega⟩ ⟨s, by omega⟩ hs

/-- What the column c of the row r brings to a set. -/
def gain (B : Nat → Nat → Bool) (a : Nat → Nat) (r s c : Nat) : Nat := if B r c && s.testBit c then a (s - 2 ^ c) else 0
/-- In how many ways the first r rows carry rooks in just the columns of a set. -/
def wS (m : Nat) (B : Nat → Nat → Bool) : Nat → Nat → Nat
  | 0, s => if s = 0 then 1 else 0
  | r + 1, s => wS m B r s + sumN (gain B (wS m B r) r s) m

theorem wS_le (m : Nat) (hm : m ≤ 6) (B : Nat → Nat → Bool) (r : Nat) : ∀ s, wS m B r s ≤ 7 ^ r := by
  induction r with
  | zero => intro s; unfold wS; split <;> simp
  | succ r ih =>
    intro s
    rw [wS]
    have h1 := ih s
    have h2 := sumN_le (gain B (wS m B r) r s) (7 ^ r) m (fun c _ => by unfold gain; split; exact ih _; omega)
    have h3 : m * 7 ^ r ≤ 6 * 7 ^ r := Nat.mul_le_mul_right _ hm
    rw [Nat.pow_succ]
    omega
theorem wS_off (m : Nat) (hm : m ≤ 6) (B : Nat → Nat → Bool) (r : Nat) : ∀ s, s < 64 → wS m B r s ≠ 0 → cnt6 s ≤ r ∧ s < 2 ^ m := by
  induction r with
  | zero =>
    intro s hs h
    unfold wS at h
    split at h
    · rename_i e
      subst e
      exact ⟨by decide, Nat.two_pow_pos m⟩
    · simp at h
  | succ r ih =>
    intro s hs h
    by_cases h1 : wS m B r s = 0
    · rw [wS, h1, Nat.zero_add] at h
      obtain ⟨c, hc, h2⟩ := sumN_pos _ _ h
      unfold gain at h2
      split at h2
      · rename_i h3
        rw [Bool.and_eq_true] at h3
        obtain ⟨e1, e2, e3, e4⟩ := cnt6_off s c hs (by omega) h3.2
        obtain ⟨f1, f2⟩ := ih _ (by omega) h2
        refine ⟨by omega, ?_⟩
        rw [← e4]
        exact Nat.or_lt_two_pow f2 (Nat.pow_lt_pow_right (by omega) hc)
      · simp at h2
    · have := ih s hs h1
      exact ⟨by omega, this.2⟩

/-- What is behind a set, for k rooks in all. -/
def rest (w : Nat → Nat → Nat) (k s : Nat) : Nat := if cnt6 s ≤ k then w s (k - cnt6 s) else 0
/-- Rows that have been set, by sets, and those that are left. -/
def tot (m : Nat) (B : Nat → Nat → Bool) (r d k : Nat) : Nat := sumN (fun s => wS m B r s * rest (wR m B d r) k s) 64

theorem tot_step (m : Nat) (hm : m ≤ 6) (B : Nat → Nat → Bool) (r d k : Nat) : tot m B r (d + 1) k = tot m B (r + 1) d k := by
  have eL : tot m B r (d + 1) k = sumN (fun s => wS m B r s * rest (wR m B d (r + 1)) k s) 64 + sumN (fun c => sumN (fun s => if s.testBit c = false then (if B r c = true then wS m B r s * rest (wR m B d (r + 1)) k (s ||| 2 ^ c) else 0) else 0) 64) m := by
    rw [← sumN_swap, ← sumN_add]
    unfold tot
    refine sumN_congr _ _ _ (fun s hs => ?_)
    have e1 : rest (wR m B (d + 1) r) k s = rest (wR m B d (r + 1)) k s + sumN (fun c => if s.testBit c = false then (if B r c = true then rest (wR m B d (r + 1)) k (s ||| 2 ^ c) else 0) else 0) m := by
      unfold rest
      by_cases hk : cnt6 s ≤ k
      · rw [if_pos hk, if_pos hk, wR, sumN_range]
        congr 1
        refine sumN_congr _ _ _ (fun c hc => ?_)
        unfold term
        cases hB : B r c
        · simp
        · cases ht : s.testBit c
          · obtain ⟨p1, p2⟩ := cnt6_put s c hs (by omega) ht
            rw [p1]
            by_cases h0 : k - cnt6 s = 0
            · simp [h0, show ¬ (cnt6 s + 1 ≤ k) by omega]
            · simp [h0, show cnt6 s + 1 ≤ k by omega, show k - cnt6 s - 1 = k - (cnt6 s + 1) by omega]
          · simp
      · rw [if_neg hk, if_neg hk]
        have e2 : sumN (fun c => if s.testBit c = false then (if B r c = true then (if cnt6 (s ||| 2 ^ c) ≤ k then wR m B d (r + 1) (s ||| 2 ^ c) (k - cnt6 (s ||| 2 ^ c)) else 0) else 0) else 0) m = sumN (fun _ => 0) m := by
          refine sumN_congr _ _ _ (fun c hc => ?_)
          cases ht : s.testBit c
          · obtain ⟨p1, p2⟩ := cnt6_put s c hs (by omega) ht
            rw [p1]
            simp [show ¬ (cnt6 s + 1 ≤ k) by omega]
          · simp
        rw [e2, sumN_zero]
    rw [e1, Nat.mul_add, ← sumN_mul]
    congr 1
    refine sumN_congr _ _ _ (fun c hc => ?_)
    cases s.testBit c <;> cases B r c <;> simp
  have eR : tot m B (r + 1) d k = sumN (fun s => wS m B r s * rest (wR m B d (r + 1)) k s) 64 + sumN (fun c => sumN (fun s => if s.testBit c = true then (if B r c = true then wS m B r (s - 2 ^ c) * rest (wR m B d (r + 1)) k s else 0) else 0) 64) m := by
    rw [← sumN_swap, ← sumN_add]
    unfold tot
    refine sumN_congr _ _ _ (fun s hs => ?_)
    rw [wS, Nat.add_mul, ← sumN_mulr]
    congr 1
    refine sumN_congr _ _ _ (fun c hc => ?_)
    unfold gain
    cases s.testBit c <;> cases B r c <;> simp
  rw [eL, eR]
  congr 1
  refine sumN_congr _ _ _ (fun c hc => ?_)
  exact (sets_put c (by omega) (fun s' s => if B r c = true then wS m B r s' * rest (wR m B d (r + 1)) k s else 0)).symm

theorem tot_all (m : Nat) (hm : m ≤ 6) (B : Nat → Nat → Bool) (n k : Nat) : ∀ d r, r + d = n → tot m B r d k = tot m B n 0 k := by
  intro d
  induction d with
  | zero => intro r h; rw [show r = n by omega]
  | succ d ih => intro r h; rw [tot_step m hm, ih (r + 1) (by omega)]
theorem tot_first (m : Nat) (B : Nat → Nat → Bool) (n k : Nat) : tot m B 0 n k = wR m B n 0 0 k := by
  have h : ∀ N, sumN (fun s => wS m B 0 s * rest (wR m B n 0) k s) (N + 1) = wR m B n 0 0 k := by
    intro N
    induction N with
    | zero =>
      have : cnt6 0 = 0 := by decide
      simp [sumN, wS, rest, this]
    | succ N ih => rw [sumN, ih]; simp [wS]
  exact h 63
/-- Sets of k columns, summed up. -/
theorem sets_sum (m : Nat) (hm : m ≤ 6) (B : Nat → Nat → Bool) (n k : Nat) : sumN (fun s => if cnt6 s = k then wS m B n s else 0) 64 = wR m B n 0 0 k := by
  rw [← tot_first, tot_all m hm B n k n 0 (by omega)]
  unfold tot
  refine sumN_congr _ _ _ (fun s _ => ?_)
  unfold rest
  by_cases h : cnt6 s = k
  · subst h
    simp [wR]
  · rw [if_neg h]
    by_cases h2 : cnt6 s ≤ k
    · rw [if_pos h2, wR, if_neg (by omega)]
      simp
    · rw [if_neg h2]; simp

/-- Does the set x owe something to the column c, with the sets from σ on looked at, and of σ - 1 the first j columns? -/
def seen (σ j x c : Nat) : Bool := x.testBit c && (decide (σ ≤ x - 2 ^ c) || (decide (x - 2 ^ c + 1 = σ) && decide (c < j)))
/-- The ways by sets, in the middle of a row. -/
def midW (m : Nat) (B : Nat → Nat → Bool) (r σ j x : Nat) : Nat := wS m B r x + sumN (fun c => if B r c && seen σ j x c then wS m B r (x - 2 ^ c) else 0) m
theorem midW_start (m : Nat) (B : Nat → Nat → Bool) (r x : Nat) (hx : x < 64) : midW m B r 64 0 x = wS m B r x := by
  unfold midW
  have e : sumN (fun c => if B r c && seen 64 0 x c then wS m B r (x - 2 ^ c) else 0) m = sumN (fun _ => 0) m := by
    refine sumN_congr _ _ _ (fun c _ => ?_)
    rw [if_neg]
    unfold seen
    have : ¬ (64 ≤ x - 2 ^ c) := by have := Nat.sub_le x (2 ^ c); omega
    have h2 : ¬ (x - 2 ^ c = 63) := by have := Nat.two_pow_pos c; omega
    simp [this, h2]
  rw [e, sumN_zero, Nat.add_zero]
theorem midW_end (m : Nat) (B : Nat → Nat → Bool) (r x : Nat) : midW m B r 0 0 x = wS m B (r + 1) x := by
  unfold midW
  rw [wS]
  congr 1
  refine sumN_congr _ _ _ (fun c _ => ?_)
  unfold gain seen
  simp
theorem midW_next (m : Nat) (B : Nat → Nat → Bool) (r σ x : Nat) : midW m B r (σ + 1) m x = midW m B r σ 0 x := by
  unfold midW
  congr 1
  refine sumN_congr _ _ _ (fun c hc => ?_)
  have : seen (σ + 1) m x c = seen σ 0 x c := by
    unfold seen
    congr 1
    by_cases h : σ + 1 ≤ x - 2 ^ c
    · simp [h, show σ ≤ x - 2 ^ c by omega]
    · by_cases h2 : σ ≤ x - 2 ^ c
      · simp [hc, show x - 2 ^ c = σ by omega]
      · simp [h, h2, show ¬ x - 2 ^ c = σ by omega]
  rw [this]
theorem midW_self (m : Nat) (hm : m ≤ 6) (B : Nat → Nat → Bool) (r σ j : Nat) (hs : σ < 64) : midW m B r (σ + 1) j σ = wS m B r σ := by
  unfold midW
  have e : sumN (fun c => if B r c && seen (σ + 1) j σ c then wS m B r (σ - 2 ^ c) else 0) m = sumN (fun _ => 0) m := by
    refine sumN_congr _ _ _ (fun c hc => ?_)
    rw [if_neg]
    cases ht : σ.testBit c
    · simp [seen, ht]
    · have := cnt6_off σ c hs (by omega) ht
      have h1 : ¬ (σ + 1 ≤ σ - 2 ^ c) := by omega
      have h2 : ¬ (σ - 2 ^ c = σ) := by omega
      simp [seen, h1, h2]
  rw [e, sumN_zero, Nat.add_zero]
theorem seen_succ (σ j x c : Nat) (h : c ≠ j) : seen (σ + 1) (j + 1) x c = seen (σ + 1) j x c := by
  unfold seen
  have : decide (c < j + 1) = decide (c < j) := by
    rw [decide_eq_decide]; omega
  rw [this]
theorem midW_skip (m : Nat) (hm : m ≤ 6) (B : Nat → Nat → Bool) (r σ j x : Nat) (hx : x < 64) (hj : j < m) (h : B r j = false ∨ σ.testBit j = true ∨ x ≠ σ ||| 2 ^ j) : midW m B r (σ + 1) (j + 1) x = midW m B r (σ + 1) j x := by
  unfold midW
  congr 1
  refine sumN_congr _ _ _ (fun c hc => ?_)
  by_cases e : c = j
  · subst e
    cases hB : B r c
    · simp
    · have hn : ¬ (x.testBit c = true ∧ x - 2 ^ c = σ) := by
        rintro ⟨h1, h2⟩
        obtain ⟨_, _, k3, k4⟩ := cnt6_off x c hx (by omega) h1
        rw [h2] at k3 k4
        rcases h with h | h | h
        · rw [hB] at h; cases h
        · rw [k3] at h; cases h
        · exact h k4.symm
      have : seen (σ + 1) (c + 1) x c = seen (σ + 1) c x c := by
        unfold seen
        cases ht : x.testBit c
        · simp
        · have : ¬ (x - 2 ^ c = σ) := fun e => hn ⟨ht, e⟩
          simp [this]
      rw [this]
  · rw [seen_succ _ _ _ _ e]
theorem sumN_one (h h' : Nat → Nat) (n j : Nat) (hj : j < n) (e : ∀ k, k ≠ j → h k = h' k) : sumN h n + h' j = sumN h' n + h j := by
  induction n with
  | zero => omega
  | succ n ih =>
    rw [sumN, sumN]
    by_cases c : n = j
    · subst c
      rw [sumN_congr h h' n (fun k hk => e k (by omega))]
      omega
    · have := ih (by omega)
      have := e n c
      omega
theorem midW_put (m : Nat) (hm : m ≤ 6) (B : Nat → Nat → Bool) (r σ j : Nat) (hs : σ < 64) (hj : j < m) (hB : B r j = true) (ht : σ.testBit j = false) : midW m B r (σ + 1) (j + 1) (σ ||| 2 ^ j) = midW m B r (σ + 1) j (σ ||| 2 ^ j) + wS m B r σ := by
  unfold midW
  have key : ∀ s : Fin 64, ∀ c : Fin 6, (s : Nat).testBit c = false → ((s : Nat) ||| 2 ^ (c : Nat)).testBit c = true ∧ ((s : Nat) ||| 2 ^ (c : Nat)) - 2 ^ (c : Nat) = s := by decide +kernel
  obtain ⟨k1, k2⟩ := key ⟨σ, hs⟩ ⟨j, by omega⟩ ht
  simp only at k1 k2
  have := sumN_one (fun c => if B r c && seen (σ + 1) (j + 1) (σ ||| 2 ^ j) c then wS m B r ((σ ||| 2 ^ j) - 2 ^ c) else 0) (fun c => if B r c && seen (σ + 1) j (σ ||| 2 ^ j) c then wS m B r ((σ ||| 2 ^ j) - 2 ^ c) else 0) m j hj (fun k hk => by
    show (if _ then _ else _) = (if _ then _ else _)
    rw [seen_succ _ _ _ _ hk])
  have e1 : seen (σ + 1) (j + 1) (σ ||| 2 ^ j) j = true := by simp [seen, k1, k2]
  have e2 : seen (σ + 1) j (σ ||| 2 ^ j) j = false := by simp [seen, k1, k2]
  rw [hB, e1, e2, k2] at this
  simp only [Bool.and_self, Bool.and_false, if_true, Bool.false_eq_true, if_false] at this
  omega
theorem midW_le (m : Nat) (hm : m ≤ 6) (B : Nat → Nat → Bool) (r σ j x : Nat) : midW m B r σ j x ≤ 7 ^ (r + 1) := by
  unfold midW
  have h1 := wS_le m hm B r x
  have h2 := sumN_le (fun c => if B r c && seen σ j x c then wS m B r (x - 2 ^ c) else 0) (7 ^ r) m (fun c _ => by
    show (if _ then _ else _) ≤ _
    split
    · exact wS_le m hm B r _
    · omega)
  have h3 : m * 7 ^ r ≤ 6 * 7 ^ r := Nat.mul_le_mul_right _ hm
  rw [Nat.pow_succ]
  omega

end Go.Proofs.Ytabfiafjcnilnaa
