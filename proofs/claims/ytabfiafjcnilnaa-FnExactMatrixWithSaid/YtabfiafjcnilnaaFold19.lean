import Derived.Test.YtabfiafjcnilnaaFold18
import Derived.Test.YtabfiafjcnilnaaFold11
import Derived.IntWalk

section
namespace Go.Proofs.Ytabfiafjcnilnaa
open Go.RowKit

/-- A column that isn't there put in. -/
theorem bit_or (c : Nat) : ∀ s : Nat, s.testBit c = false → s ||| 2 ^ c = s + 2 ^ c := by
  induction c with
  | zero =>
    intro s h
    have h0 : s % 2 = 0 := by simpa using h
    have e1 : (s ||| 1) / 2 = s / 2 ||| 1 / 2 := Nat.or_div_two
    have e2 : (s ||| 1) % 2 = 1 := Nat.or_mod_two_eq_one.2 (.inr rfl)
    rw [show 1 / 2 = 0 from rfl, Nat.or_zero] at e1
    show s ||| 1 = s + 1
    omega
  | succ c ih =>
    intro s h
    rw [Nat.testBit_succ] at h
    have h2 := ih _ h
    have e1 : (s ||| 2 ^ (c + 1)) / 2 = s / 2 ||| 2 ^ (c + 1) / 2 := Nat.or_div_two
    have e0 : 2 ^ (c + 1) / 2 = 2 ^ c := by rw [Nat.pow_succ]; omega
    rw [e0, h2] at e1
    have e2 : (s ||| 2 ^ (c + 1)) % 2 = 1 ↔ s % 2 = 1 ∨ 2 ^ (c + 1) % 2 = 1 := Nat.or_mod_two_eq_one
    have e3 : 2 ^ (c + 1) % 2 = 0 := by rw [Nat.pow_succ]; omega
    have e4 : 2 ^ (c + 1) = 2 * 2 ^ c := by rw [Nat.pow_succ]; omega
    omega
theorem bit_out (s c : Nat) (h : s.testBit c = true) : 2 ^ c ≤ s ∧ (s - 2 ^ c).testBit c = false ∧ (s - 2 ^ c) ||| 2 ^ c = s := by
  have h1 := Nat.ge_two_pow_of_testBit h
  obtain ⟨t, rfl⟩ : ∃ t, s = 2 ^ c + t := ⟨s - 2 ^ c, by omega⟩
  rw [Nat.testBit_two_pow_add_eq] at h
  have h2 : t.testBit c = false := by simpa using h
  have h3 : 2 ^ c + t - 2 ^ c = t := by omega
  rw [h3]
  exact ⟨by omega, h2, by rw [bit_or c t h2]; omega⟩
theorem bit_same (s c k : Nat) (h : k ≠ c) : (s ||| 2 ^ c).testBit k = s.testBit k := by
  rw [Nat.testBit_or, Nat.testBit_two_pow_of_ne (fun e => h e.symm), Bool.or_false]

/-- How many of the first m columns are in a set. -/
def cntG (m s : Nat) : Nat := sumN (fun c => if s.testBit c = true then 1 else 0) m
theorem cntG_put (m s c : Nat) (hc : c < m) (h : s.testBit c = false) : cntG m (s ||| 2 ^ c) = cntG m s + 1 := by
  have := sumN_one (fun k => if (s ||| 2 ^ c).testBit k = true then 1 else 0) (fun k => if s.testBit k = true then 1 else 0) m c hc (fun k hk => by
    show (if _ then _ else _) = (if _ then _ else _)
    rw [bit_same s c k hk])
  unfold cntG
  have e1 : (s ||| 2 ^ c).testBit c = true := by rw [Nat.testBit_or, Nat.testBit_two_pow_self, Bool.or_true]
  have e2 : (if s.testBit c = true then 1 else 0) = 0 := by rw [h]; rfl
  have e3 : (if (s ||| 2 ^ c).testBit c = true then 1 else 0) = 1 := by rw [e1]; rfl
  simp only [e2, e3] at this
  omega
theorem cntG_le (m s : Nat) : cntG m s ≤ m := by
  have := sumN_le (fun c => if s.testBit c = true then 1 else 0) 1 m (fun c _ => by
    show (if _ then _ else _) ≤ _
    split <;> omega)
  unfold cntG
  omega
theorem cntG_zero (m : Nat) : cntG m 0 = 0 := by
  unfold cntG
  rw [sumN_congr _ (fun _ => 0) m (fun c _ => by simp), sumN_zero]
theorem cntG_more (m s : Nat) (hs : s < 2 ^ m) : ∀ d, cntG (m + d) s = cntG m s := by
  intro d
  induction d with
  | zero => rfl
  | succ d ih =>
    have h2 : s < 2 ^ (m + d) := Nat.lt_of_lt_of_le hs (Nat.pow_le_pow_right (by omega) (by omega))
    show cntG (m + d) s + (if s.testBit (m + d) = true then 1 else 0) = _
    rw [ih, Nat.testBit_lt_two_pow h2]
    rfl

theorem sumN_part (h : Nat → Nat) (a b : Nat) : sumN h (a + b) = sumN h a + sumN (fun k => h (a + k)) b := by
  induction b with
  | zero => rfl
  | succ b ih =>
    rw [← Nat.add_assoc, sumN, ih, sumN]
    omega
/-- Sets with the column c are those without it, it put in. -/
theorem setsG_put (c m : Nat) (hc : c < m) (h : Nat → Nat → Nat) : sumN (fun s => if s.testBit c = true then h (s - 2 ^ c) s else 0) (2 ^ m) = sumN (fun s => if s.testBit c = false then h s (s ||| 2 ^ c) else 0) (2 ^ m) := by
  induction m generalizing h with
  | zero => omega
  | succ m ih =>
    rw [show 2 ^ (m + 1) = 2 ^ m + 2 ^ m by rw [Nat.pow_succ]; omega, sumN_part, sumN_part]
    by_cases e : c = m
    · subst e
      rw [sumN_congr (fun s => if s.testBit c = true then h (s - 2 ^ c) s else 0) (fun _ => 0) (2 ^ c) (fun s hs => by simp [Nat.testBit_lt_two_pow hs]), sumN_zero,
        sumN_congr (fun k => if (2 ^ c + k).testBit c = false then h (2 ^ c + k) ((2 ^ c + k) ||| 2 ^ c) else 0) (fun _ => 0) (2 ^ c) (fun s hs => by simp [Nat.testBit_two_pow_add_eq, Nat.testBit_lt_two_pow hs]), sumN_zero]
      rw [Nat.zero_add, Nat.add_zero]
      refine sumN_congr _ _ _ (fun s hs => ?_)
      have hb := Nat.testBit_lt_two_pow hs
      simp only [Nat.testBit_two_pow_add_eq, hb, Bool.not_false, if_true, bit_or c s hb]
      rw [show 2 ^ c + s - 2 ^ c = s by omega, Nat.add_comm]
    · have hm : c < m := by omega
      congr 1
      · exact ih hm h
      · have := ih hm (fun a b => h (2 ^ m + a) (2 ^ m + b))
        rw [sumN_congr _ (fun k => if k.testBit c = true then h (2 ^ m + (k - 2 ^ c)) (2 ^ m + k) else 0) (2 ^ m) (fun k hk => by
          show (if _ then _ else _) = (if _ then _ else _)
          rw [Nat.testBit_two_pow_add_gt hm]
          cases hb : k.testBit c
          · rfl
          · have := (bit_out k c hb).1
            rw [show 2 ^ m + k - 2 ^ c = 2 ^ m + (k - 2 ^ c) by omega]), this]
        refine sumN_congr _ _ _ (fun k hk => ?_)
        show (if _ then _ else _) = (if _ then _ else _)
        rw [Nat.testBit_two_pow_add_gt hm]
        cases hb : k.testBit c
        · have h2 : (2 ^ m + k).testBit c = false := by rw [Nat.testBit_two_pow_add_gt hm]; exact hb
          rw [bit_or c k hb, bit_or c _ h2, Nat.add_assoc]
        · rfl

theorem wSG_le (m : Nat) (hm : m ≤ 12) (B : Nat → Nat → Bool) (r : Nat) : ∀ s, wS m B r s ≤ 13 ^ r := by
  induction r with
  | zero => intro s; unfold wS; split <;> simp
  | succ r ih =>
    intro s
    rw [wS]
    have h1 := ih s
    have h2 := sumN_le (gain B (wS m B r) r s) (13 ^ r) m (fun c _ => by unfold gain; split; exact ih _; omega)
    have h3 : m * 13 ^ r ≤ 12 * 13 ^ r := Nat.mul_le_mul_right _ hm
    rw [Nat.pow_succ]
    omega
theorem pow13 (d : Nat) (h : d ≤ 12) : 13 ^ d ≤ 23298085122481 := by
  have : 13 ^ d ≤ 13 ^ 12 := Nat.pow_le_pow_right (by omega) h
  exact this
theorem wSG_off (m : Nat) (B : Nat → Nat → Bool) (r : Nat) : ∀ s, wS m B r s ≠ 0 → cntG m s ≤ r ∧ s < 2 ^ m := by
  induction r with
  | zero =>
    intro s h
    unfold wS at h
    split at h
    · rename_i e
      subst e
      exact ⟨by rw [cntG_zero]; omega, Nat.two_pow_pos m⟩
    · simp at h
  | succ r ih =>
    intro s h
    by_cases h1 : wS m B r s = 0
    · rw [wS, h1, Nat.zero_add] at h
      obtain ⟨c, hc, h2⟩ := sumN_pos _ _ h
      unfold gain at h2
      split at h2
      · rename_i h3
        rw [Bool.and_eq_true] at h3
        obtain ⟨e2, e3, e4⟩ := bit_out s c h3.2
        obtain ⟨f1, f2⟩ := ih _ h2
        have e1 := cntG_put m (s - 2 ^ c) c hc e3
        rw [e4] at e1
        refine ⟨by omega, ?_⟩
        rw [← e4]
        exact Nat.or_lt_two_pow f2 (Nat.pow_lt_pow_right (by omega) hc)
      · simp at h2
    · have := ih s h1
      exact ⟨by omega, this.2⟩

/-- What is behind a set, for k rooks in all. -/
def restG (m : Nat) (w : Nat → Nat → Nat) (k s : Nat) : Nat := if cntG m s ≤ k then w s (k - cntG m s) else 0
/-- Rows that have been set, by sets, and those that are left. -/
def totG (m : Nat) (B : Nat → Nat → Bool) (r d k : Nat) : Nat := sumN (fun s => wS m B r s * restG m (wR m B d r) k s) (2 ^ m)

theorem totG_step (m : Nat) (B : Nat → Nat → Bool) (r d k : Nat) : totG m B r (d + 1) k = totG m B (r + 1) d k := by
  have eL : totG m B r (d + 1) k = sumN (fun s => wS m B r s * restG m (wR m B d (r + 1)) k s) (2 ^ m) + sumN (fun c => sumN (fun s => if s.testBit c = false then (if B r c = true then wS m B r s * restG m (wR m B d (r + 1)) k (s ||| 2 ^ c) else 0) else 0) (2 ^ m)) m := by
    rw [← sumN_swap, ← sumN_add]
    unfold totG
    refine sumN_congr _ _ _ (fun s hs => ?_)
    have e1 : restG m (wR m B (d + 1) r) k s = restG m (wR m B d (r + 1)) k s + sumN (fun c => if s.testBit c = false then (if B r c = true then restG m (wR m B d (r + 1)) k (s ||| 2 ^ c) else 0) else 0) m := by
      unfold restG
      by_cases hk : cntG m s ≤ k
      · rw [if_pos hk, if_pos hk, wR, sumN_range]
        congr 1
        refine sumN_congr _ _ _ (fun c hc => ?_)
        unfold term
        cases hB : B r c
        · simp
        · cases ht : s.testBit c
          · have p1 := cntG_put m s c hc ht
            rw [p1]
            by_cases h0 : k - cntG m s = 0
            · simp [h0, show ¬ (cntG m s + 1 ≤ k) by omega]
            · simp [h0, show cntG m s + 1 ≤ k by omega, show k - cntG m s - 1 = k - (cntG m s + 1) by omega]
          · simp
      · rw [if_neg hk, if_neg hk]
        have e2 : sumN (fun c => if s.testBit c = false then (if B r c = true then (if cntG m (s ||| 2 ^ c) ≤ k then wR m B d (r + 1) (s ||| 2 ^ c) (k - cntG m (s ||| 2 ^ c)) else 0) else 0) else 0) m = sumN (fun _ => 0) m := by
          refine sumN_congr _ _ _ (fun c hc => ?_)
          cases ht : s.testBit c
          · have p1 := cntG_put m s c hc ht
            rw [p1]
            simp [show ¬ (cntG m s + 1 ≤ k) by omega]
          · simp
        rw [e2, sumN_zero]
    rw [e1, Nat.mul_add, ← sumN_mul]
    congr 1
    refine sumN_congr _ _ _ (fun c hc => ?_)
    cases s.testBit c <;> cases B r c <;> simp
  have eR : totG m B (r + 1) d k = sumN (fun s => wS m B r s * restG m (wR m B d (r + 1)) k s) (2 ^ m) + sumN (fun c => sumN (fun s => if s.testBit c = true then (if B r c = true then wS m B r (s - 2 ^ c) * restG m (wR m B d (r + 1)) k s else 0) else 0) (2 ^ m)) m := by
    rw [← sumN_swap, ← sumN_add]
    unfold totG
    refine sumN_congr _ _ _ (fun s hs => ?_)
    rw [wS, Nat.add_mul, ← sumN_mulr]
    congr 1
    refine sumN_congr _ _ _ (fun c hc => ?_)
    unfold gain
    cases s.testBit c <;> cases B r c <;> simp
  rw [eL, eR]
  congr 1
  refine sumN_congr _ _ _ (fun c hc => ?_)
  exact (setsG_put c m hc (fun s' s => if B r c = true then wS m B r s' * restG m (wR m B d (r + 1)) k s else 0)).symm

theorem totG_all (m : Nat) (B : Nat → Nat → Bool) (n k : Nat) : ∀ d r, r + d = n → totG m B r d k = totG m B n 0 k := by
  intro d
  induction d with
  | zero => intro r h; rw [show r = n by omega]
  | succ d ih => intro r h; rw [totG_step m, ih (r + 1) (by omega)]
theorem totG_first (m : Nat) (B : Nat → Nat → Bool) (n k : Nat) : totG m B 0 n k = wR m B n 0 0 k := by
  have h : ∀ N, sumN (fun s => wS m B 0 s * restG m (wR m B n 0) k s) (N + 1) = wR m B n 0 0 k := by
    intro N
    induction N with
    | zero => simp [sumN, wS, restG, cntG_zero]
    | succ N ih => rw [sumN, ih]; simp [wS]
  obtain ⟨N, hN⟩ : ∃ N, 2 ^ m = N + 1 := ⟨2 ^ m - 1, by have := Nat.two_pow_pos m; omega⟩
  unfold totG
  rw [hN]
  exact h N
/-- Sets of k columns, summed up. -/
theorem setsG_sum (m : Nat) (B : Nat → Nat → Bool) (n k : Nat) : sumN (fun s => if cntG m s = k then wS m B n s else 0) (2 ^ m) = wR m B n 0 0 k := by
  rw [← totG_first, totG_all m B n k n 0 (by omega)]
  unfold totG
  refine sumN_congr _ _ _ (fun s _ => ?_)
  unfold restG
  by_cases h : cntG m s = k
  · subst h
    simp [wR]
  · rw [if_neg h]
    by_cases h2 : cntG m s ≤ k
    · rw [if_pos h2, wR, if_neg (by omega)]
      simp
    · rw [if_neg h2]; simp

theorem midG_start (m : Nat) (B : Nat → Nat → Bool) (r N x : Nat) (hx : x < N) : midW m B r N 0 x = wS m B r x := by
  unfold midW
  have e : sumN (fun c => if B r c && seen N 0 x c then wS m B r (x - 2 ^ c) else 0) m = sumN (fun _ => 0) m := by
    refine sumN_congr _ _ _ (fun c _ => ?_)
    rw [if_neg]
    unfold seen
    have h1 : ¬ (N ≤ x - 2 ^ c) := by have := Nat.sub_le x (2 ^ c); omega
    have h2 : decide (c < 0) = false := by simp
    simp [h1]
  rw [e, sumN_zero, Nat.add_zero]
theorem midG_self (m : Nat) (B : Nat → Nat → Bool) (r σ j : Nat) : midW m B r (σ + 1) j σ = wS m B r σ := by
  unfold midW
  have e : sumN (fun c => if B r c && seen (σ + 1) j σ c then wS m B r (σ - 2 ^ c) else 0) m = sumN (fun _ => 0) m := by
    refine sumN_congr _ _ _ (fun c hc => ?_)
    rw [if_neg]
    cases ht : σ.testBit c
    · simp [seen, ht]
    · have := (bit_out σ c ht).1
      have := Nat.two_pow_pos c
      have h1 : ¬ (σ + 1 ≤ σ - 2 ^ c) := by omega
      have h2 : ¬ (σ - 2 ^ c = σ) := by omega
      simp [seen, h1, h2]
  rw [e, sumN_zero, Nat.add_zero]
theorem midG_skip (m : Nat) (B : Nat → Nat → Bool) (r σ j x : Nat) (h : B r j = false ∨ σ.testBit j = true ∨ x ≠ σ ||| 2 ^ j) : midW m B r (σ + 1) (j + 1) x = midW m B r (σ + 1) j x := by
  unfold midW
  congr 1
  refine sumN_congr _ _ _ (fun c hc => ?_)
  by_cases e : c = j
  · subst e
    cases hB : B r c
    · simp
    · have hn : ¬ (x.testBit c = true ∧ x - 2 ^ c = σ) := by
        rintro ⟨h1, h2⟩
        obtain ⟨_, k3, k4⟩ := bit_out x c h1
        rw [h2] at k3 k4
        rcases h with h | h | h
        · rw [hB] at h; cases h
        · rw [k3] at h; cases h
        · exact h k4.symm
      have : seen (σ + 1) (c + 1) x c = seen (σ + 1) c x c := by
        unfold seen
        cases ht : x.testBit c
        · simp
        · have : ¬ (x - 2 ^ c = σ) := fun e => hn ⟨ht, e⟩
          simp [this]
      rw [this]
  · rw [seen_succ _ _ _ _ e]
theorem midG_put (m : Nat) (B : Nat → Nat → Bool) (r σ j : Nat) (hj : j < m) (hB : B r j = true) (ht : σ.testBit j = false) : midW m B r (σ + 1) (j + 1) (σ ||| 2 ^ j) = midW m B r (σ + 1) j (σ ||| 2 ^ j) + wS m B r σ := by
  unfold midW
  have k1 : (σ ||| 2 ^ j).testBit j = true := by rw [Nat.testBit_or, Nat.testBit_two_pow_self, Bool.or_true]
  have k2 : (σ ||| 2 ^ j) - 2 ^ j = σ := by rw [bit_or j σ ht]; omega
  have := sumN_one (fun c => if B r c && seen (σ + 1) (j + 1) (σ ||| 2 ^ j) c then wS m B r ((σ ||| 2 ^ j) - 2 ^ c) else 0) (fun c => if B r c && seen (σ + 1) j (σ ||| 2 ^ j) c then wS m B r ((σ ||| 2 ^ j) - 2 ^ c) else 0) m j hj (fun k hk => by
    show (if _ then _ else _) = (if _ then _ else _)
    rw [seen_succ _ _ _ _ hk])
  have e1 : seen (σ + 1) (j + 1) (σ ||| 2 ^ j) j = true := by simp [seen, k1, k2]
  have e2 : seen (σ + 1) j (σ ||| 2 ^ j) j = false := by simp [seen, k1, k2]
  rw [hB, e1, e2, k2] at this
  simp only [Bool.and_self, Bool.and_false, if_true, Bool.false_eq_true, if_false] at this
  omega
theorem midG_le (m : Nat) (hm : m ≤ 12) (B : Nat → Nat → Bool) (r σ j x : Nat) : midW m B r σ j x ≤ 13 ^ (r + 1) := by
  unfold midW
  have h1 := wSG_le m hm B r x
  have h2 := sumN_le (fun c => if B r c && seen σ j x c then wS m B r (x - 2 ^ c) else 0) (13 ^ r) m (fun c _ => by
    show (if _ then _ else _) ≤ _
    split
    · exact wSG_le m hm B r _
    · omega)
  have h3 : m * 13 ^ r ≤ 12 * 13 ^ r := Nat.mul_le_mul_right _ hm
  rw [Nat.pow_succ]
  omega

end Go.Proofs.Ytabfiafjcnilnaa
end

section
namespace Go.Proofs.Ytabfiafjcnilnaa
open Go.RowKit Go.WideShapes

/-- The cells of a board, as a test. -/
abbrev bt (xs : List Int) (a b : Nat) : Bool := (xs.getD a 0).toNat.testBit b
theorem bit_nat (t c : Nat) (ht : t < 64) (hc : c < 6) : (((t : Int) / 2 ^ c).tmod 2 == 1) = t.testBit c := by
  have key : ∀ t : Fin 64, ∀ c : Fin 6, ((((t : Nat) : Int) / 2 ^ (c : Nat)).tmod 2 == 1) = (t : Nat).testBit c := by decide +kernel
  exact key ⟨t, ht⟩ ⟨c, hc⟩
theorem or_nat (t c : Nat) (ht : t < 64) (hc : c < 6) : bits .or .i64 (t : Int) (wrap64 (2 ^ c)) = ((t ||| 2 ^ c : Nat) : Int) := by
  have key : ∀ t : Fin 64, ∀ c : Fin 6, bits .or .i64 ((t : Nat) : Int) (wrap64 (2 ^ (c : Nat))) = (((t : Nat) ||| 2 ^ (c : Nat) : Nat) : Int) := by decide +kernel
  exact key ⟨t, ht⟩ ⟨c, hc⟩
theorem or_nat2 (t c : Nat) (ht : t < 64) (hc : c < 6) : bits .or .i64 (t : Int) (IntKind.i64.wrap (2 ^ c)) = ((t ||| 2 ^ c : Nat) : Int) := by
  have key : ∀ t : Fin 64, ∀ c : Fin 6, bits .or .i64 ((t : Nat) : Int) (IntKind.i64.wrap (2 ^ (c : Nat))) = (((t : Nat) ||| 2 ^ (c : Nat) : Nat) : Int) := by decide +kernel
  exact key ⟨t, ht⟩ ⟨c, hc⟩
theorem add_in (x y : Nat) (hx : x ≤ 1000000000) (hy : y ≤ 1000000000) : IntKind.i64.wrap ((x : Int) + y) = ((x + y : Nat) : Int) := by
  rw [show (x : Int) + y = ((x + y : Nat) : Int) by push_cast; rfl]
  exact IntWalk.i64_in _ (by omega)


end Go.Proofs.Ytabfiafjcnilnaa
end
