import Derived.Test.YtdimbnkgomfojabFold15
import Derived.Test.YtdimbnkgomfojabFold16
import Derived.Test.YtdimbnkgomfojabFold8
import Derived.Test.YtdimbnkgomfojabFold9

section
namespace Go.Proofs.Ytdimbnkgomfojab
open Go.RowKit Go.WideShapes

theorem shK_eq (xs : List Int) (L N : Nat) (hL : L ≤ N) (h0 : ∀ j, L ≤ j → j < N → xs.getD j 0 = 0) (h1 : 0 < L → xs.getD (L - 1) 0 ≠ 0) : shK xs N = L := by
  induction N with
  | zero => rw [shK]; omega
  | succ N ih =>
    rw [shK]
    by_cases e : L = N + 1
    · subst e
      have h2 := h1 (by omega)
      rw [Nat.add_sub_cancel] at h2
      rw [if_neg h2]
    · rw [if_pos (h0 N (by omega) (by omega)), ih (by omega) (fun j a b => h0 j a (by omega))]
set_option maxRecDepth 100000 in
set_option maxHeartbeats 1600000 in
theorem mostRooks_any (n m : Nat) (M : Nat → Int) (w : World) (hn : n ≤ 6) (hm : m ≤ 6) (hgc : ∀ k, k < 6 → 0 ≤ M k ∧ M k < 64) :
    Calls Try.prog 66 #[gv n m M] w fun e w' => e = .returned (.int .i64 ((shK (numL n m (bM M)) (min n m + 1) : Int) - 1)) ∧ Below w.heap.size w w' := by
  have L0 := (Law.start w).has (gl n m M) 68
  have hn := fun W => rookNumbers_any n m M W hn hm hgc
  have hd : lstL (min n m + 1) (wR m (bM M) n 0 0) = numL n m (bM M) := rfl
  rw [hd] at hn
  have HN := Lib.hid hn
  have HK := Lib.hid (numL_len n m (bM M))
  have HL := Lib.hid L0
  have hq6 : min n m ≤ 6 := by omega
  have hsk := shK_le (numL n m (bM M)) (min n m + 1)
  clear hgc hn hd L0
  generalize numL n m (bM M) = ys at *
  generalize min n m = q at *
  go_enter Try.func66, Try.ntmps66
  go_wp2_with fail
  refine (HN.out _).mono ?_
  rintro e w2 ⟨g, p, rfl, hO, hb⟩
  · have hqp := hO.capLe
    have HB := Lib.hid (HL.out.kept hb).below
    clear HL hb
    go_wp2_with fail
    refine (withoutLast_any g (q + 1) p ys _ (by omega) hqp HK.out _ hO).mono ?_
    rintro e w' ⟨rfl, rfl⟩
    clear hO
    go_wp2_with fail
    go_ret
    exact ⟨rfl, HB.out⟩
end Go.Proofs.Ytdimbnkgomfojab
end

section
namespace Go.Proofs.Ytdimbnkgomfojab
open Go.RowKit

/-- How far a walk over s things comes from the j-th one on, and whether it goes on behind them. -/
def runV (cont : Nat → Bool) : Nat → Nat → Nat × Bool
  | _, 0 => (0, true)
  | j, s + 1 => if cont j then ((runV cont (j + 1) s).1 + 1, (runV cont (j + 1) s).2) else (1, false)
theorem runV_full (cont : Nat → Bool) (s : Nat) : ∀ j, (runV cont j s).2 = true → (runV cont j s).1 = s := by
  induction s with
  | zero => intro j _; rfl
  | succ s ih =>
    intro j h
    rw [runV] at h ⊢
    by_cases hc : cont j = true
    · rw [if_pos hc] at h ⊢
      simp only at h ⊢
      rw [ih (j + 1) h]
    · rw [if_neg hc] at h
      cases h
theorem runV_add (cont : Nat → Bool) (a b : Nat) : ∀ j, runV cont j (a + b) = if (runV cont j a).2 then (a + (runV cont (j + a) b).1, (runV cont (j + a) b).2) else runV cont j a := by
  induction a with
  | zero => intro j; simp [runV]
  | succ a ih =>
    intro j
    rw [show a + 1 + b = (a + b) + 1 by omega, runV, runV]
    by_cases hc : cont j = true
    · rw [if_pos hc, if_pos hc, ih (j + 1)]
      simp only
      by_cases h2 : (runV cont (j + 1) a).2 = true
      · rw [if_pos h2, if_pos h2, show j + 1 + a = j + (a + 1) by omega]
        simp only
        rw [show a + (runV cont (j + (a + 1)) b).1 + 1 = a + 1 + (runV cont (j + (a + 1)) b).1 by omega]
      · rw [if_neg h2, if_neg h2]
    · rw [if_neg hc, if_neg hc]
      simp
theorem runV_all (cont : Nat → Bool) (h : ∀ j, cont j = true) (s : Nat) : ∀ j, runV cont j s = (s, true) := by
  induction s with
  | zero => intro j; rfl
  | succ s ih => intro j; rw [runV, if_pos (h j), ih]

/-- The placements of d rows from f on, with k rooks in columns that are not in t, in order. -/
def pl (m : Nat) (B : Nat → Nat → Bool) : Nat → Nat → Nat → Nat → List (List Int)
  | 0, _, _, k => if k = 0 then [[]] else []
  | d + 1, f, t, k => (pl m B d (f + 1) t k).map (fun Q => -1 :: Q) ++ (List.range m).flatMap (fun c => if decide (0 < k) && (B f c && !t.testBit c) then (pl m B d (f + 1) (t ||| 2 ^ c) (k - 1)).map (fun Q => (c : Int) :: Q) else [])
/-- What one column brings. -/
def blk (m : Nat) (B : Nat → Nat → Bool) (d f t k c : Nat) : List (List Int) := if decide (0 < k) && (B f c && !t.testBit c) then (pl m B d (f + 1) (t ||| 2 ^ c) (k - 1)).map (fun Q => (c : Int) :: Q) else []
/-- .. and all before it. -/
def plc (m : Nat) (B : Nat → Nat → Bool) (d f t k c : Nat) : List (List Int) := (pl m B d (f + 1) t k).map (fun Q => -1 :: Q) ++ (List.range c).flatMap (blk m B d f t k)
theorem plc_zero (m : Nat) (B : Nat → Nat → Bool) (d f t k : Nat) : plc m B d f t k 0 = (pl m B d (f + 1) t k).map (fun Q => -1 :: Q) := by simp [plc]
theorem plc_full (m : Nat) (B : Nat → Nat → Bool) (d f t k : Nat) : plc m B d f t k m = pl m B (d + 1) f t k := rfl
theorem plc_succ (m : Nat) (B : Nat → Nat → Bool) (d f t k c : Nat) : plc m B d f t k (c + 1) = plc m B d f t k c ++ blk m B d f t k c := by
  unfold plc
  rw [List.range_succ, List.flatMap_append, List.append_assoc]
  simp
theorem plc_split (m : Nat) (B : Nat → Nat → Bool) (d f t k c e : Nat) (h : c ≤ e) : ∃ tl, plc m B d f t k e = plc m B d f t k c ++ tl := by
  induction e with
  | zero => exact ⟨[], by rw [show c = 0 by omega]; simp⟩
  | succ e ih =>
    by_cases h2 : c = e + 1
    · subst h2; exact ⟨[], by simp⟩
    · obtain ⟨tl, ht⟩ := ih (by omega)
      exact ⟨tl ++ blk m B d f t k e, by rw [plc_succ, ht, List.append_assoc]⟩
theorem blk_no (m : Nat) (B : Nat → Nat → Bool) (d f t k c : Nat) (h : k = 0 ∨ B f c = false ∨ t.testBit c = true) : blk m B d f t k c = [] := by
  unfold blk
  rcases h with rfl | h | h
  · simp
  · simp [h]
  · simp [h]
theorem blk_yes (m : Nat) (B : Nat → Nat → Bool) (d f t k c : Nat) (hk : 0 < k) (h : B f c = true) (ht : t.testBit c = false) : blk m B d f t k c = (pl m B d (f + 1) (t ||| 2 ^ c) (k - 1)).map (fun Q => (c : Int) :: Q) := by
  unfold blk
  simp [hk, h, ht]
theorem plc_none (m : Nat) (B : Nat → Nat → Bool) (d f t c e : Nat) (h : c ≤ e) : plc m B d f t 0 e = plc m B d f t 0 c := by
  induction e with
  | zero => rw [show c = 0 by omega]
  | succ e ih =>
    by_cases h2 : c = e + 1
    · subst h2; rfl
    · rw [plc_succ, blk_no _ _ _ _ _ _ _ (.inl rfl), List.append_nil, ih (by omega)]
theorem pl_none (m : Nat) (B : Nat → Nat → Bool) (d : Nat) : ∀ f t k, d < k → pl m B d f t k = [] := by
  induction d with
  | zero => intro f t k h; rw [pl, if_neg (by omega)]
  | succ d ih =>
    intro f t k h
    rw [pl, ih _ _ _ (by omega)]
    simp only [List.map_nil, List.nil_append]
    rw [List.flatMap_eq_nil_iff]
    intro c _
    split
    · rw [ih _ _ _ (by omega)]; rfl
    · rfl
theorem pl_len (m : Nat) (B : Nat → Nat → Bool) (d : Nat) : ∀ f t k, (pl m B d f t k).length = wR m B d f t k := by
  induction d with
  | zero => intro f t k; rw [pl, wR]; split <;> simp
  | succ d ih =>
    intro f t k
    rw [pl, wR, List.length_append, List.length_map, ih, List.length_flatMap]
    congr 2
    refine List.map_congr_left (fun c _ => ?_)
    unfold term
    by_cases h : (B f c && !t.testBit c) = true
    · rw [if_pos h]
      by_cases hk : k = 0
      · subst hk; simp
      · rw [if_pos (by simp [h]; omega), if_neg hk, List.length_map, ih]
    · rw [if_neg h, if_neg (by rw [Bool.and_eq_true]; exact fun e => h e.2)]
      rfl
theorem pl_rows (m : Nat) (B : Nat → Nat → Bool) (d : Nat) : ∀ f t k, ∀ P ∈ pl m B d f t k, P.length = d := by
  induction d with
  | zero =>
    intro f t k P h
    rw [pl] at h
    split at h
    · rw [List.mem_singleton.1 h]; rfl
    · simp at h
  | succ d ih =>
    intro f t k P h
    rw [pl, List.mem_append, List.mem_map, List.mem_flatMap] at h
    rcases h with ⟨Q, hQ, rfl⟩ | ⟨c, _, h⟩
    · rw [List.length_cons, ih _ _ _ Q hQ]
    · split at h
      · obtain ⟨Q, hQ, rfl⟩ := List.mem_map.1 h
        rw [List.length_cons, ih _ _ _ Q hQ]
      · simp at h

theorem drop_at (L : List (List Int)) (j : Nat) (A T : List (List Int)) (f : List Int → List Int) (rest : List (List Int)) (h : L.drop j = (A ++ T).map f ++ rest) : L.drop (j + A.length) = T.map f ++ rest := by
  rw [← List.drop_drop, h, List.map_append, List.append_assoc, List.drop_left' (by simp)]
theorem map_snoc (X : List (List Int)) (P : List Int) (c : Int) : (X.map (fun Q => c :: Q)).map (fun Q => P ++ Q) = X.map (fun Q => (P ++ [c]) ++ Q) := by
  rw [List.map_map]
  refine List.map_congr_left (fun Q _ => ?_)
  simp

end Go.Proofs.Ytdimbnkgomfojab
end

section
namespace Go.Proofs.Ytdimbnkgomfojab
open Go.RowKit

/-- The placements of d rows from f on, with k rooks in columns that are not in t; each row tries the choices C in their order. -/
def plG (B : Nat → Nat → Bool) (C : List Int) : Nat → Nat → Nat → Nat → List (List Int)
  | 0, _, _, k => if k = 0 then [[]] else []
  | d + 1, f, t, k => C.flatMap fun c => if c = -1 then (plG B C d (f + 1) t k).map (fun Q => c :: Q) else if decide (0 < k) && (B f c.toNat && !t.testBit c.toNat) then (plG B C d (f + 1) (t ||| 2 ^ c.toNat) (k - 1)).map (fun Q => c :: Q) else []
/-- What one choice brings. -/
def blkG (B : Nat → Nat → Bool) (C : List Int) (d f t k : Nat) (c : Int) : List (List Int) := if c = -1 then (plG B C d (f + 1) t k).map (fun Q => c :: Q) else if decide (0 < k) && (B f c.toNat && !t.testBit c.toNat) then (plG B C d (f + 1) (t ||| 2 ^ c.toNat) (k - 1)).map (fun Q => c :: Q) else []
/-- .. and the first i of them. -/
def plcG (B : Nat → Nat → Bool) (C : List Int) (d f t k i : Nat) : List (List Int) := (C.take i).flatMap (blkG B C d f t k)
theorem plcG_zero (B : Nat → Nat → Bool) (C : List Int) (d f t k : Nat) : plcG B C d f t k 0 = [] := by simp [plcG]
theorem plcG_full (B : Nat → Nat → Bool) (C : List Int) (d f t k : Nat) : plcG B C d f t k C.length = plG B C (d + 1) f t k := by
  unfold plcG
  rw [List.take_length]
  rfl
theorem plcG_succ (B : Nat → Nat → Bool) (C : List Int) (d f t k i : Nat) (h : i < C.length) : plcG B C d f t k (i + 1) = plcG B C d f t k i ++ blkG B C d f t k (C.getD i 0) := by
  unfold plcG
  rw [List.take_succ_eq_append_getElem h, List.flatMap_append]
  simp [List.getD, h]
theorem plcG_split (B : Nat → Nat → Bool) (C : List Int) (d f t k i : Nat) : ∃ tl, plG B C (d + 1) f t k = plcG B C d f t k i ++ tl := by
  refine ⟨(C.drop i).flatMap (blkG B C d f t k), ?_⟩
  unfold plcG
  rw [← List.flatMap_append, List.take_append_drop]
  rfl
theorem blkG_none (B : Nat → Nat → Bool) (C : List Int) (d f t k : Nat) : blkG B C d f t k (-1) = (plG B C d (f + 1) t k).map (fun Q => (-1) :: Q) := by
  unfold blkG
  rw [if_pos rfl]
theorem blkG_no (B : Nat → Nat → Bool) (C : List Int) (d f t k c : Nat) (h : k = 0 ∨ B f c = false ∨ t.testBit c = true) : blkG B C d f t k (c : Int) = [] := by
  unfold blkG
  rw [if_neg (by omega)]
  rcases h with rfl | h | h
  · simp
  · simp [h]
  · simp [h]
theorem blkG_yes (B : Nat → Nat → Bool) (C : List Int) (d f t k c : Nat) (hk : 0 < k) (h : B f c = true) (ht : t.testBit c = false) : blkG B C d f t k (c : Int) = (plG B C d (f + 1) (t ||| 2 ^ c) (k - 1)).map (fun Q => (c : Int) :: Q) := by
  unfold blkG
  rw [if_neg (by omega)]
  simp [hk, h, ht]
theorem plG_none (B : Nat → Nat → Bool) (C : List Int) (d : Nat) : ∀ f t k, d < k → plG B C d f t k = [] := by
  induction d with
  | zero => intro f t k h; rw [plG, if_neg (by omega)]
  | succ d ih =>
    intro f t k h
    rw [plG, List.flatMap_eq_nil_iff]
    intro c _
    split
    · rw [ih _ _ _ (by omega)]; rfl
    · split
      · rw [ih _ _ _ (by omega)]; rfl
      · rfl
theorem plG_rows (B : Nat → Nat → Bool) (C : List Int) (d : Nat) : ∀ f t k, ∀ P ∈ plG B C d f t k, P.length = d := by
  induction d with
  | zero =>
    intro f t k P h
    rw [plG] at h
    split at h
    · rw [List.mem_singleton.1 h]; rfl
    · simp at h
  | succ d ih =>
    intro f t k P h
    rw [plG, List.mem_flatMap] at h
    obtain ⟨c, _, h⟩ := h
    split at h
    · obtain ⟨Q, hQ, rfl⟩ := List.mem_map.1 h
      rw [List.length_cons, ih _ _ _ Q hQ]
    · split at h
      · obtain ⟨Q, hQ, rfl⟩ := List.mem_map.1 h
        rw [List.length_cons, ih _ _ _ Q hQ]
      · simp at h

/-- The columns as numbers. -/
def cols (m : Nat) : List Int := (List.range m).map fun (c : Nat) => (c : Int)
theorem cols_len (m : Nat) : (cols m).length = m := by simp [cols]
theorem flat_cols (m : Nat) (g : Int → List (List Int)) : (cols m).flatMap g = (List.range m).flatMap fun (c : Nat) => g (c : Int) := by
  unfold cols
  rw [List.flatMap_map]
/-- No rook first: the placements in order. -/
theorem plG_first (m : Nat) (B : Nat → Nat → Bool) (d : Nat) : ∀ f t k, plG B (-1 :: cols m) d f t k = pl m B d f t k := by
  induction d with
  | zero => intro f t k; rfl
  | succ d ih =>
    intro f t k
    rw [plG, pl, List.flatMap_cons, if_pos rfl, ih, flat_cols]
    congr 1
    refine congrArg (fun g => (List.range m).flatMap g) (funext fun c => ?_)
    rw [if_neg (by omega)]
    simp only [Int.toNat_natCast, ih]
/-- A list of choices: -1 and columns, no more than seven. -/
def choiceOk (m : Nat) (C : List Int) : Prop := C.length ≤ 7 ∧ ∀ i, i < C.length → C.getD i 0 = -1 ∨ ∃ c : Nat, c < m ∧ C.getD i 0 = (c : Int)
theorem choice_of {m : Nat} {C : List Int} (h1 : C.length ≤ 7) (h : ∀ x ∈ C, x = -1 ∨ ∃ c : Nat, c < m ∧ x = (c : Int)) : choiceOk m C :=
  ⟨h1, fun i hi => by
    have : C.getD i 0 = C[i] := by simp [List.getD, hi]
    rw [this]
    exact h _ (List.getElem_mem hi)⟩
theorem choice_first (m : Nat) (h : m ≤ 6) : choiceOk m (-1 :: cols m) := choice_of (by simp [cols]; omega) (fun x hx => by
  rcases List.mem_cons.1 hx with rfl | hx
  · exact .inl rfl
  · obtain ⟨c, hc, rfl⟩ := List.mem_map.1 hx
    exact .inr ⟨c, List.mem_range.1 hc, rfl⟩)
theorem choice_last (m : Nat) (h : m ≤ 6) : choiceOk m (cols m ++ [-1]) := choice_of (by simp [cols]; omega) (fun x hx => by
  rcases List.mem_append.1 hx with hx | hx
  · obtain ⟨c, hc, rfl⟩ := List.mem_map.1 hx
    exact .inr ⟨c, List.mem_range.1 hc, rfl⟩
  · exact .inl (List.mem_singleton.1 hx))

end Go.Proofs.Ytdimbnkgomfojab
end
