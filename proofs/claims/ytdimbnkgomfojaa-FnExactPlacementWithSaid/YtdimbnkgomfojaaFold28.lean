import Derived.Test.YtdimbnkgomfojaaFold10
import Derived.Test.YtdimbnkgomfojaaFold27
import Derived.Test.YtdimbnkgomfojaaFold14
import Derived.Test.YtdimbnkgomfojaaFold22
import Derived.Test.YtdimbnkgomfojaaFold24

section
namespace Go.Proofs.Ytdimbnkgomfojaa
open Go.RowKit

theorem sk_ne (c c0 : Nat) : sk c c0 ≠ c0 := by unfold sk; split <;> omega
theorem sk_inj {a b c0 : Nat} (h : sk a c0 = sk b c0) : a = b := by unfold sk at h; split at h <;> split at h <;> omega
/-- A sum over columns, without one of them. -/
theorem sumN_strike (g : Nat → Nat) (c0 : Nat) : ∀ m, c0 ≤ m → sumN g (m + 1) = sumN (fun c => g (sk c c0)) m + g c0 := by
  intro m
  induction m with
  | zero => intro h; rw [show c0 = 0 by omega]; simp [sumN]
  | succ m ih =>
    intro h
    by_cases e : c0 = m + 1
    · subst e
      rw [sumN, sumN_congr (fun c => g (sk c (m + 1))) g (m + 1) (fun c hc => by show g _ = g _; unfold sk; rw [if_pos hc])]
    · rw [sumN, ih (by omega), sumN]
      have : sk m c0 = m + 1 := by unfold sk; rw [if_neg (by omega)]
      rw [this]
      omega
theorem or_bit (t c x : Nat) : (t ||| 2 ^ c).testBit x = (t.testBit x || decide (c = x)) := by
  rw [Nat.testBit_or, Nat.testBit_two_pow]

/-- Columns: with one taken, the others are those of the board without it. -/
theorem wR_strike (m : Nat) (B B' : Nat → Nat → Bool) (c0 r0 : Nat) (hc : c0 ≤ m) (hB : ∀ a c, B' a c = B (sk a r0) (sk c c0)) (d : Nat) : ∀ f T T' k, r0 < f → T.testBit c0 = true → (∀ c, T'.testBit c = T.testBit (sk c c0)) → wR (m + 1) B d f T k = wR m B' d (f - 1) T' k := by
  induction d with
  | zero => intro f T T' k _ _ _; rfl
  | succ d ih =>
    intro f T T' k hf hT hTT
    rw [wR, wR, ih (f + 1) T T' k (by omega) hT hTT, show f + 1 - 1 = f - 1 + 1 by omega, sumN_range, sumN_range, sumN_strike _ c0 m hc]
    have h0 : term B (wR (m + 1) B d (f + 1)) f T k c0 = 0 := by unfold term; rw [hT]; simp
    rw [h0, Nat.add_zero]
    congr 1
    refine sumN_congr _ _ _ (fun c _ => ?_)
    unfold term
    have e1 : B' (f - 1) c = B f (sk c c0) := by rw [hB, show sk (f - 1) r0 = f by unfold sk; rw [if_neg (by omega)]; omega]
    rw [e1, hTT c]
    by_cases h : (B f (sk c c0) && !T.testBit (sk c c0)) = true
    · rw [if_pos h, if_pos h]
      by_cases hk : k = 0
      · rw [if_pos hk, if_pos hk]
      · rw [if_neg hk, if_neg hk, ih (f + 1) (T ||| 2 ^ sk c c0) (T' ||| 2 ^ c) (k - 1) (by omega) (by rw [or_bit, hT]; rfl) (fun x => by
          rw [or_bit, or_bit, hTT x]
          congr 1
          rw [decide_eq_decide]
          exact ⟨fun e => by rw [e], sk_inj⟩), show f + 1 - 1 = f - 1 + 1 by omega]
    · rw [if_neg h, if_neg h]

/-- How many of the placements have a rook in the row r0, told from f on, and the column c0. -/
def cR (m : Nat) (B : Nat → Nat → Bool) (i c0 : Nat) (d f t k : Nat) : Nat := ((pl m B d f t k).filter (fun P => P.getD i 0 == (c0 : Int))).length

theorem filt_flat {α : Type} (p : List Int → Bool) (l : List α) (g : α → List (List Int)) : ((l.flatMap g).filter p).length = (l.map (fun a => ((g a).filter p).length)).sum := by
  induction l with
  | nil => rfl
  | cons a l ih => rw [List.flatMap_cons, List.filter_append, List.length_append, ih, List.map_cons, List.sum_cons]
theorem filt_cons (p : List Int → Bool) (x : Int) (X : List (List Int)) : ((X.map (fun Q => x :: Q)).filter p).length = (X.filter (fun Q => p (x :: Q))).length := by
  rw [List.filter_map, List.length_map]
  rfl
/-- .. by rows. -/
theorem cR_succ (m : Nat) (B : Nat → Nat → Bool) (i c0 d f t k : Nat) : cR m B (i + 1) c0 (d + 1) f t k = cR m B i c0 d (f + 1) t k + sumN (fun c => if B f c && !t.testBit c then (if k = 0 then 0 else cR m B i c0 d (f + 1) (t ||| 2 ^ c) (k - 1)) else 0) m := by
  unfold cR
  rw [pl, List.filter_append, List.length_append, filt_cons, filt_flat, sumN_range]
  congr 1
  refine sumN_congr _ _ _ (fun c _ => ?_)
  by_cases h : (B f c && !t.testBit c) = true
  · rw [if_pos h]
    by_cases hk : k = 0
    · subst hk; simp
    · rw [if_pos (by rw [h]; simp; omega), if_neg hk, filt_cons]
      rfl
  · rw [if_neg h, if_neg (by rw [Bool.and_eq_true]; exact fun e => h e.2)]
    rfl
theorem cR_here (m : Nat) (B : Nat → Nat → Bool) (c0 d f t k : Nat) (hc : c0 < m) : cR m B 0 c0 (d + 1) f t k = if B f c0 && !t.testBit c0 then (if k = 0 then 0 else wR m B d (f + 1) (t ||| 2 ^ c0) (k - 1)) else 0 := by
  unfold cR
  rw [pl, List.filter_append, List.length_append, filt_cons, filt_flat, sumN_range]
  have h1 : ((pl m B d (f + 1) t k).filter (fun Q => ((-1 : Int) :: Q).getD 0 0 == (c0 : Int))).length = 0 := by
    rw [List.length_eq_zero_iff, List.filter_eq_nil_iff]
    intro Q _
    have : ((-1 : Int) == (c0 : Int)) = false := by rw [beq_eq_false_iff_ne]; omega
    simp [this]
  rw [h1, Nat.zero_add]
  have h2 : ∀ c, ((if decide (0 < k) && (B f c && !t.testBit c) then (pl m B d (f + 1) (t ||| 2 ^ c) (k - 1)).map (fun Q => (c : Int) :: Q) else []).filter (fun P => P.getD 0 0 == (c0 : Int))).length = if c = c0 then (if B f c0 && !t.testBit c0 then (if k = 0 then 0 else wR m B d (f + 1) (t ||| 2 ^ c0) (k - 1)) else 0) else 0 := by
    intro c
    by_cases e : c = c0
    · subst e
      rw [if_pos rfl]
      by_cases h : (B f c && !t.testBit c) = true
      · rw [if_pos h]
        by_cases hk : k = 0
        · subst hk; simp
        · rw [if_pos (by rw [h]; simp; omega), if_neg hk, filt_cons, ← pl_len]
          congr 1
          rw [List.filter_eq_self]
          intro Q _
          simp
      · rw [if_neg h, if_neg (by rw [Bool.and_eq_true]; exact fun e => h e.2)]
        rfl
    · rw [if_neg e]
      split
      · rw [filt_cons, List.length_eq_zero_iff, List.filter_eq_nil_iff]
        intro Q _
        have : ((c : Int) == (c0 : Int)) = false := by rw [beq_eq_false_iff_ne]; omega
        simp [this]
      · rfl
  rw [sumN_congr _ _ m (fun c _ => h2 c)]
  generalize (if B f c0 && !t.testBit c0 then (if k = 0 then 0 else wR m B d (f + 1) (t ||| 2 ^ c0) (k - 1)) else 0) = v
  clear h1 h2
  induction m with
  | zero => omega
  | succ m ih =>
    rw [sumN]
    by_cases e : m = c0
    · subst e
      rw [if_pos rfl, sumN_congr _ (fun _ => 0) m (fun c hc => by show (if _ then _ else _) = _; rw [if_neg (by omega)]), sumN_zero]
      omega
    · rw [if_neg e, ih (by omega)]
      rfl
theorem cR_taken (m : Nat) (B : Nat → Nat → Bool) (c0 : Nat) (hc : c0 < m) (i : Nat) : ∀ d f t k, i < d → t.testBit c0 = true → cR m B i c0 d f t k = 0 := by
  induction i with
  | zero =>
    intro d f t k hd ht
    obtain ⟨d, rfl⟩ : ∃ e, d = e + 1 := ⟨d - 1, by omega⟩
    rw [cR_here _ _ _ _ _ _ _ hc, ht]
    simp
  | succ i ih =>
    intro d f t k hd ht
    obtain ⟨d, rfl⟩ : ∃ e, d = e + 1 := ⟨d - 1, by omega⟩
    rw [cR_succ, ih d (f + 1) t k (by omega) ht, sumN_congr _ (fun _ => 0) m (fun c _ => by
      show (if _ then _ else _) = _
      split
      · split
        · rfl
        · exact ih d (f + 1) _ _ (by omega) (by rw [or_bit, ht]; rfl)
      · rfl), sumN_zero]
theorem cR_strike (m : Nat) (B B' : Nat → Nat → Bool) (c0 r0 : Nat) (hc : c0 ≤ m) (hB : ∀ a c, B' a c = B (sk a r0) (sk c c0)) (hr : B r0 c0 = true) (i : Nat) : ∀ d f t t' k, f + i = r0 → i < d → t.testBit c0 = false → (∀ c, t'.testBit c = t.testBit (sk c c0)) →
    cR (m + 1) B i c0 d f t k = if k = 0 then 0 else wR m B' (d - 1) f t' (k - 1) := by
  induction i with
  | zero =>
    intro d f t t' k hf hd ht htt
    obtain ⟨d, rfl⟩ : ∃ e, d = e + 1 := ⟨d - 1, by omega⟩
    obtain rfl : f = r0 := by omega
    rw [cR_here _ _ _ _ _ _ _ (by omega), hr, ht]
    simp only [Bool.not_false, Bool.and_self, if_true, Nat.add_sub_cancel]
    by_cases hk : k = 0
    · rw [if_pos hk, if_pos hk]
    · rw [if_neg hk, if_neg hk, wR_strike m B B' c0 f hc hB d (f + 1) (t ||| 2 ^ c0) t' (k - 1) (by omega) (by rw [or_bit]; simp) (fun c => by
        have h2 : decide (c0 = sk c c0) = false := by
          rw [decide_eq_false_iff_not]
          exact fun e => sk_ne c c0 e.symm
        rw [or_bit, htt c, h2, Bool.or_false]), Nat.add_sub_cancel]
  | succ i ih =>
    intro d f t t' k hf hd ht htt
    obtain ⟨d, rfl⟩ : ∃ e, d = e + 1 := ⟨d - 1, by omega⟩
    obtain ⟨d, rfl⟩ : ∃ e, d = e + 1 := ⟨d - 1, by omega⟩
    rw [cR_succ, ih (d + 1) (f + 1) t t' k (by omega) (by omega) ht htt, sumN_strike _ c0 m hc]
    have h0 : (if B f c0 && !t.testBit c0 then (if k = 0 then 0 else cR (m + 1) B i c0 (d + 1) (f + 1) (t ||| 2 ^ c0) (k - 1)) else 0) = 0 := by
      split
      · split
        · rfl
        · exact cR_taken _ _ _ (by omega) i _ _ _ _ (by omega) (by rw [or_bit]; simp)
      · rfl
    rw [h0, Nat.add_zero]
    by_cases hk : k = 0
    · subst hk
      rw [if_pos rfl, if_pos rfl, Nat.zero_add, sumN_congr _ (fun _ => 0) m (fun c _ => by show (if _ then _ else _) = _; split <;> rfl), sumN_zero]
    · rw [if_neg hk, if_neg hk, Nat.add_sub_cancel, Nat.add_sub_cancel, wR, sumN_range]
      congr 1
      refine sumN_congr _ _ _ (fun c _ => ?_)
      unfold term
      have e1 : B' f c = B f (sk c c0) := by rw [hB, show sk f r0 = f by unfold sk; rw [if_pos (by omega)]]
      rw [e1, htt c]
      by_cases h : (B f (sk c c0) && !t.testBit (sk c c0)) = true
      · rw [if_pos h, if_pos h, if_neg hk, ih (d + 1) (f + 1) (t ||| 2 ^ sk c c0) (t' ||| 2 ^ c) (k - 1) (by omega) (by omega) (by
          rw [or_bit, ht]
          simp [sk_ne c c0]) (fun x => by
          rw [or_bit, or_bit, htt x]
          congr 1
          rw [decide_eq_decide]
          exact ⟨fun e => by rw [e], sk_inj⟩), Nat.add_sub_cancel]
      · rw [if_neg h, if_neg h]

theorem rowM_bit (p : Nat → Bool) (m c : Nat) : (rowM p m).testBit c = (decide (c < m) && p c) := by
  induction m with
  | zero => simp [rowM]
  | succ m ih =>
    have hlt := rowM_lt p m
    rw [rowM]
    cases hp : p m
    · simp only [Bool.false_eq_true, if_false, Nat.add_zero]
      rw [ih]
      by_cases e : c = m
      · subst e; simp [hp]
      · have : decide (c < m + 1) = decide (c < m) := by rw [decide_eq_decide]; omega
        rw [this]
    · simp only [if_true]
      have h1 : rowM p m + 2 ^ m = rowM p m ||| 2 ^ m := by
        have := Nat.two_pow_add_eq_or_of_lt hlt 1
        rw [Nat.mul_one] at this
        rw [Nat.add_comm, this, Nat.or_comm]
      rw [h1, or_bit, ih]
      by_cases e : c = m
      · subst e; simp [hp]
      · have h2 : decide (c < m + 1) = decide (c < m) := by rw [decide_eq_decide]; omega
        have h3 : decide (m = c) = false := by rw [decide_eq_false_iff_not]; omega
        rw [h2, h3, Bool.or_false]
theorem high_bit (x m c : Nat) (h : x < 2 ^ m) (hc : m ≤ c) : x.testBit c = false :=
  Nat.testBit_lt_two_pow (Nat.lt_of_lt_of_le h (Nat.pow_le_pow_right (by omega) hc))
/-- The struck board, cell by cell. -/
theorem strike_bt (xs : List Int) (r0 c0 m : Nat) (hc : c0 ≤ m) (hx : ∀ k, k < xs.length → 0 ≤ xs.getD k 0 ∧ xs.getD k 0 < pw ((m : Int) + 1)) (a c : Nat) : (((strikeL xs r0 c0 m).getD a 0).toNat.testBit c) = ((xs.getD (sk a r0) 0).toNat.testBit (sk c c0)) := by
  have e : (xs.eraseIdx r0)[a]? = xs[sk a r0]? := by
    rw [List.getElem?_eraseIdx]
    unfold sk
    split <;> rfl
  unfold strikeL
  rw [List.getD_eq_getElem?_getD, List.getElem?_map, e, List.getD_eq_getElem?_getD]
  cases h : xs[sk a r0]? with
  | none => simp
  | some x =>
    simp only [Option.map_some, Option.getD_some]
    unfold skv
    rw [Int.toNat_natCast, rowM_bit]
    obtain ⟨hl, hxe⟩ := List.getElem?_eq_some_iff.1 h
    have hx2 := hx _ hl
    rw [List.getD_eq_getElem?_getD, h] at hx2
    simp only [Option.getD_some] at hx2
    by_cases hcm : c < m
    · simp [hcm]
    · have h1 : x.toNat.testBit (sk c c0) = false := by
        refine high_bit _ (m + 1) _ ?_ (by unfold sk; rw [if_neg (by omega)]; omega)
        have : pw ((m : Int) + 1) = ((2 ^ (m + 1) : Nat) : Int) := by
          unfold pw
          rw [show ((m : Int) + 1).toNat = m + 1 by omega]
          simp
        omega
      simp [hcm, h1]

theorem cR_none (m : Nat) (B : Nat → Nat → Bool) (c0 : Nat) (hc : c0 < m) (i : Nat) : ∀ d f t k, i < d → B (f + i) c0 = false → cR m B i c0 d f t k = 0 := by
  induction i with
  | zero =>
    intro d f t k hd hB
    obtain ⟨d, rfl⟩ : ∃ e, d = e + 1 := ⟨d - 1, by omega⟩
    rw [cR_here _ _ _ _ _ _ _ hc, show B f c0 = false from hB]
    simp
  | succ i ih =>
    intro d f t k hd hB
    obtain ⟨d, rfl⟩ : ∃ e, d = e + 1 := ⟨d - 1, by omega⟩
    have hB2 : B (f + 1 + i) c0 = false := by rw [← hB]; congr 1; omega
    rw [cR_succ, ih d (f + 1) t k (by omega) hB2, sumN_congr _ (fun _ => 0) m (fun c _ => by
      show (if _ then _ else _) = _
      split
      · split
        · rfl
        · exact ih d (f + 1) _ _ (by omega) hB2
      · rfl), sumN_zero]
theorem numL_all (n m : Nat) (hm : m ≤ 6) (B : Nat → Nat → Bool) (k : Nat) : (numL n m B).getD k 0 = wR m B n 0 0 k := by
  by_cases h : k < min n m + 1
  · exact numL_get n m B k h
  · rw [List.getD_eq_getElem?_getD, List.getElem?_eq_none (by rw [numL_len]; omega)]
    by_cases h2 : wR m B n 0 0 k = 0
    · rw [h2]; rfl
    · have := wR_off m hm B n 0 0 k (by omega) (by rw [cntT_zero]; omega) h2
      rw [cntT_zero] at this
      omega
/-- Placements counted up to the j-th one. -/
def totC (L : List (List Int)) (i c0 j : Nat) : Nat := ((L.take j).filter (fun P => P.getD i 0 == (c0 : Int))).length
theorem totC_succ (L : List (List Int)) (i c0 j : Nat) (P : List Int) (h : L[j]? = some P) : totC L i c0 (j + 1) = totC L i c0 j + if P.getD i 0 = (c0 : Int) then 1 else 0 := by
  obtain ⟨hl, he⟩ := List.getElem?_eq_some_iff.1 h
  unfold totC
  rw [List.take_succ_eq_append_getElem hl, List.filter_append, List.length_append, he]
  congr 1
  by_cases e : P.getD i 0 = (c0 : Int)
  · rw [if_pos e]
    have : (P.getD i 0 == (c0 : Int)) = true := by simp only [e, beq_self_eq_true]
    rw [List.filter_cons, this]
    rfl
  · rw [if_neg e]
    have : (P.getD i 0 == (c0 : Int)) = false := by rw [beq_eq_false_iff_ne]; exact e
    rw [List.filter_cons, this]
    rfl
theorem totC_le (L : List (List Int)) (i c0 j : Nat) : totC L i c0 j ≤ j := by
  unfold totC
  refine Nat.le_trans (List.length_filter_le _ _) ?_
  simp
  omega
theorem totC_all (m : Nat) (B : Nat → Nat → Bool) (i c0 d k : Nat) : totC (pl m B d 0 0 k) i c0 (wR m B d 0 0 k) = cR m B i c0 d 0 0 k := by
  unfold totC cR
  rw [← pl_len, List.take_length]

end Go.Proofs.Ytdimbnkgomfojaa
end

section
namespace Go.Proofs.Ytdimbnkgomfojaa
open Go.RowKit Go.WideShapes

def isPlB (r c : Int) (xs P : List Int) : R2 := if goodB r c xs then ⟨placeP r.toNat c.toNat xs P, true⟩ else ⟨false, false⟩

theorem own_cap {w : World} {lo : Nat} {a : Option Addr} {n p : Nat} {xs : List Int} (h : Own w lo (.slice a n p) xs) : n ≤ p := by
  rcases h.cases with ⟨h0, _⟩ | ⟨g', p', h0, _, _, h1, _⟩
  · injection h0 with _ h2 h3
    omega
  · injection h0 with _ h2 h3
    omega


end Go.Proofs.Ytdimbnkgomfojaa
end
