import Derived.Test.YtdimbnkgomfojaaFold11
import Derived.Test.YtdimbnkgomfojaaFold12
namespace Go.Proofs.Ytdimbnkgomfojaa
open Go.RowKit

/-- How far a walk over s things comes from the j-th one on, and whether it goes on behind them. -/
def runV (cont : Nat → Bool) : Nat → Nat → Nat × Bool
  | _, 0 => (0, true)
  | j, s + 1 => if cont j then ((runV cont (j + 1) s).1 + 1, (runV cont (j + 1) s).2) else (1, false)
theorem runV_full (cont : Nat → Bool) (s : Nat) : ∀ j, (runV cont j s).2 = true → (runV cont j s).1 = s := by
  induction s with
  | zero => intro j _; rfl
  | succ s ih =>
    intro j h
    rw [runV] at h ⊢
    by_cases hc : cont j = true
    · rw [if_pos hc] at h ⊢
      simp only at h ⊢
      rw [ih (j + 1) h]
    · rw [if_neg hc] at h
      cases h
theorem runV_add (cont : Nat → Bool) (a b : Nat) : ∀ j, runV cont j (a + b) = if (runV cont j a).2 then (a + (runV cont (j + a) b).1, (runV cont (j + a) b).2) else runV cont j a := by
  induction a with
  | zero => intro j; simp [runV]
  | succ a ih =>
    intro j
    rw [show a + 1 + b = (a + b) + 1 by omega, runV, runV]
    by_cases hc : cont j = true
    · rw [if_pos hc, if_pos hc, ih (j + 1)]
      simp only
      by_cases h2 : (runV cont (j + 1) a).2 = true
      · rw [if_pos h2, if_pos h2, show j + 1 + a = j + (a + 1) by omega]
        simp only
        rw [show a + (runV cont (j + (a + 1)) b).1 + 1 = a + 1 + (runV cont (j + (a + 1)) b).1 by omega]
      · rw [if_neg h2, if_neg h2]
    · rw [if_neg hc, if_neg hc]
      simp
theorem runV_all (cont : Nat → Bool) (h : ∀ j, cont j = true) (s : Nat) : ∀ j, runV cont j s = (s, true) := by
  induction s with
  | zero => intro j; rfl
  | succ s ih => intro j; rw [runV, if_pos (h j), ih]

/-- The placements of d rows from f on, with k rooks in columns that are not in t, in order. -/
def pl (m : Nat) (B : Nat → Nat → Bool) : Nat → Nat → Nat → Nat → List (List Int)
  | 0, _, _, k => if k = 0 then [[]] else []
  | d + 1, f, t, k => (pl m B d (f + 1) t k).map (fun Q => -1 :: Q) ++ (List.range m).flatMap (fun c => if decide (0 < k) && (B f c && !t.testBit c) then (pl m B d (f + 1) (t ||| 2 ^ c) (k - 1)).map (fun Q => (c : Int) :: Q) else [])
/-- What one column brings. -/
def blk (m : Nat) (B : Nat → Nat → Bool) (d f t k c : Nat) : List (List Int) := if decide (0 < k) && (B f c && !t.testBit c) then (pl m B d (f + 1) (t ||| 2 ^ c) (k - 1)).map (fun Q => (c : Int) :: Q) else []
/-- .. and all before it. -/
def plc (m : Nat) (B : Nat → Nat → Bool) (d f t k c : Nat) : List (List Int) := (pl m B d (f + 1) t k).map (fun Q => -1 :: Q) ++ (List.range c).flatMap (blk m B d f t k)
theorem plc_zero (m : Nat) (B : Nat → Nat → Bool) (d f t k : Nat) : plc m B d f t k 0 = (pl m B d (f + 1) t k).map (fun Q => -1 :: Q) := by simp [plc]
theorem plc_full (m : Nat) (B : Nat → Nat → Bool) (d f t k : Nat) : plc m B d f t k m = pl m B (d + 1) f t k := rfl
theorem plc_succ (m : Nat) (B : Nat → Nat → Bool) (d f t k c : Nat) : plc m B d f t k (c + 1) = plc m B d f t k c ++ blk m B d f t k c := by
  unfold plc
  rw [List.range_succ, List.flatMap_append, List.append_assoc]
  simp
theorem plc_split (m : Nat) (B : Nat → Nat → Bool) (d f t k c e : Nat) (h : c ≤ e) : ∃ tl, plc m B d f t k e = plc m B d f t k c ++ tl := by
  induction e with
  | zero => exact ⟨[], by rw [show c = 0 by omega]; simp⟩
  | succ e ih =>
    by_cases h2 : c = e + 1
    · subst h2; exact ⟨[], by simp⟩
    · obtain ⟨tl, ht⟩ := ih (by omega)
      exact ⟨tl ++ blk m B d f t k e, by rw [plc_succ, ht, List.append_assoc]⟩
theorem blk_no (m : Nat) (B : Nat → Nat → Bool) (d f t k c : Nat) (h : k = 0 ∨ B f c = false ∨ t.testBit c = true) : blk m B d f t k c = [] := by
  unfold blk
  rcases h with rfl | h | h
  · simp
  · simp [h]
  · simp [h]
theorem blk_yes (m : Nat) (B : Nat → Nat → Bool) (d f t k c : Nat) (hk : 0 < k) (h : B f c = true) (ht : t.testBit c = false) : blk m B d f t k c = (pl m B d (f + 1) (t ||| 2 ^ c) (k - 1)).map (fun Q => (c : Int) :: Q) := by
  unfold blk
  simp [hk, h, ht]
theorem plc_none (m : Nat) (B : Nat → Nat → Bool) (d f t c e : Nat) (h : c ≤ e) : plc m B d f t 0 e = plc m B d f t 0 c := by
  induction e with
  | zero => rw [show c = 0 by omega]
  | succ e ih =>
    by_cases h2 : c = e + 1
    · subst h2; rfl
    · rw [plc_succ, blk_no _ _ _ _ _ _ _ (.inl rfl), List.append_nil, ih (by omega)]
theorem pl_none (m : Nat) (B : Nat → Nat → Bool) (d : Nat) : ∀ f t k, d < k → pl m B d f t k = [] := by
  induction d with
  | zero => intro f t k h; rw [pl, if_neg (by omega)]
  | succ d ih =>
    intro f t k h
    rw [pl, ih _ _ _ (by omega)]
    simp only [List.map_nil, List.nil_append]
    rw [List.flatMap_eq_nil_iff]
    intro c _
    split
    · rw [ih _ _ _ (by omega)]; rfl
    · rfl
theorem pl_len (m : Nat) (B : Nat → Nat → Bool) (d : Nat) : ∀ f t k, (pl m B d f t k).length = wR m B d f t k := by
  induction d with
  | zero => intro f t k; rw [pl, wR]; split <;> simp
  | succ d ih =>
    intro f t k
    rw [pl, wR, List.length_append, List.length_map, ih, List.length_flatMap]
    congr 2
    refine List.map_congr_left (fun c _ => ?_)
    unfold term
    by_cases h : (B f c && !t.testBit c) = true
    · rw [if_pos h]
      by_cases hk : k = 0
      · subst hk; simp
      · rw [if_pos (by simp [h]; omega), if_neg hk, List.length_map, ih]
    · rw [if_neg h, if_neg (by rw [Bool.and_eq_true]; exact fun e => h e.2)]
      rfl
theorem pl_rows (m : Nat) (B : Nat → Nat → Bool) (d : Nat) : ∀ f t k, ∀ P ∈ pl m B d f t k, P.length = d := by
  induction d with
  | zero =>
    intro f t k P h
    rw [pl] at h
    split at h
    · rw [List.mem_singleton.1 h]; rfl
    · simp at h
  | succ d ih =>
    intro f t k P h
    rw [pl, List.mem_append, List.mem_map, List.mem_flatMap] at h
    rcases h with ⟨Q, hQ, rfl⟩ | ⟨c, _, h⟩
    · rw [List.length_cons, ih _ _ _ Q hQ]
    · split at h
      · obtain ⟨Q, hQ, rfl⟩ := List.mem_map.1 h
        rw [List.length_cons, ih _ _ _ Q hQ]
      · simp at h

theorem drop_at (L : List (List Int)) (j : Nat) (A T : List (List Int)) (f : List Int → List Int) (rest : List (List Int)) (h : L.drop j = (A ++ T).map f ++ rest) : L.drop (j + A.length) = T.map f ++ rest := by
  rw [← List.drop_drop, h, List.map_append, List.append_assoc, List.drop_left' (by simp)]
theorem map_snoc (X : List (List Int)) (P : List Int) (c : Int) : (X.map (fun Q => c :: Q)).map (fun Q => P ++ Q) = X.map (fun Q => (P ++ [c]) ++ Q) := by
  rw [List.map_map]
  refine List.map_congr_left (fun Q _ => ?_)
  simp

end Go.Proofs.Ytdimbnkgomfojaa
