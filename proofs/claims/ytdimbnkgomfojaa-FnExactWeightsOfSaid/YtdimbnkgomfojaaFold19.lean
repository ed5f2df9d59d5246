import Derived.Test.YtdimbnkgomfojaaFold13
namespace Go.Proofs.Ytdimbnkgomfojaa
open Go.RowKit

/-- The placements of d rows from f on, with k rooks in columns that are not in t; each row tries the choices C in their order. -/
def plG (B : Nat → Nat → Bool) (C : List Int) : Nat → Nat → Nat → Nat → List (List Int)
  | 0, _, _, k => if k = 0 then [[]] else []
  | d + 1, f, t, k => C.flatMap fun c => if c = -1 then (plG B C d (f + 1) t k).map (fun Q => c :: Q) else if decide (0 < k) && (B f c.toNat && !t.testBit c.toNat) then (plG B C d (f + 1) (t ||| 2 ^ c.toNat) (k - 1)).map (fun Q => c :: Q) else []
/-- What one choice brings. -/
def blkG (B : Nat → Nat → Bool) (C : List Int) (d f t k : Nat) (c : Int) : List (List Int) := if c = -1 then (plG B C d (f + 1) t k).map (fun Q => c :: Q) else if decide (0 < k) && (B f c.toNat && !t.testBit c.toNat) then (plG B C d (f + 1) (t ||| 2 ^ c.toNat) (k - 1)).map (fun Q => c :: Q) else []
/-- .. and the first i of them. -/
def plcG (B : Nat → Nat → Bool) (C : List Int) (d f t k i : Nat) : List (List Int) := (C.take i).flatMap (blkG B C d f t k)
theorem plcG_zero (B : Nat → Nat → Bool) (C : List Int) (d f t k : Nat) : plcG B C d f t k 0 = [] := by simp [plcG]
theorem plcG_full (B : Nat → Nat → Bool) (C : List Int) (d f t k : Nat) : plcG B C d f t k C.length = plG B C (d + 1) f t k := by
  unfold plcG
  rw [List.take_length]
  rfl
theorem plcG_succ (B : Nat → Nat → Bool) (C : List Int) (d f t k i : Nat) (h : i < C.length) : plcG B C d f t k (i + 1) = plcG B C d f t k i ++ blkG B C d f t k (C.getD i 0) := by
  unfold plcG
  rw [List.take_succ_eq_append_getElem h, List.flatMap_append]
  simp [List.getD, h]
theorem plcG_split (B : Nat → Nat → Bool) (C : List Int) (d f t k i : Nat) : ∃ tl, plG B C (d + 1) f t k = plcG B C d f t k i ++ tl := by
  refine ⟨(C.drop i).flatMap (blkG B C d f t k), ?_⟩
  unfold plcG
  rw [← List.flatMap_append, List.take_append_drop]
  rfl
theorem blkG_none (B : Nat → Nat → Bool) (C : List Int) (d f t k : Nat) : blkG B C d f t k (-1) = (plG B C d (f + 1) t k).map (fun Q => (-1) :: Q) := by
  unfold blkG
  rw [if_pos rfl]
theorem blkG_no (B : Nat → Nat → Bool) (C : List Int) (d f t k c : Nat) (h : k = 0 ∨ B f c = false ∨ t.testBit c = true) : blkG B C d f t k (c : Int) = [] := by
  unfold blkG
  rw [if_neg (by omega)]
  rcases h with rfl | h | h
  · simp
  · simp [h]
  · simp [h]
theorem blkG_yes (B : Nat → Nat → Bool) (C : List Int) (d f t k c : Nat) (hk : 0 < k) (h : B f c = true) (ht : t.testBit c = false) : blkG B C d f t k (c : Int) = (plG B C d (f + 1) (t ||| 2 ^ c) (k - 1)).map (fun Q => (c : Int) :: Q) := by
  unfold blkG
  rw [if_neg (by omega)]
  simp [hk, h, ht]
theorem plG_none (B : Nat → Nat → Bool) (C : List Int) (d : Nat) : ∀ f t k, d < k → plG B C d f t k = [] := by
  induction d with
  | zero => intro f t k h; rw [plG, if_neg (by omega)]
  | succ d ih =>
    intro f t k h
    rw [plG, List.flatMap_eq_nil_iff]
    intro c _
    split
    · rw [ih _ _ _ (by omega)]; rfl
    · split
      · rw [ih _ _ _ (by omega)]; rfl
      · rfl
theorem plG_rows (B : Nat → Nat → Bool) (C : List Int) (d : Nat) : ∀ f t k, ∀ P ∈ plG B C d f t k, P.length = d := by
  induction d with
  | zero =>
    intro f t k P h
    rw [plG] at h
    split at h
    · rw [List.mem_singleton.1 h]; rfl
    · simp at h
  | succ d ih =>
    intro f t k P h
    rw [plG, List.mem_flatMap] at h
    obtain ⟨c, _, h⟩ := h
    split at h
    · obtain ⟨Q, hQ, rfl⟩ := List.mem_map.1 h
      rw [List.length_cons, ih _ _ _ Q hQ]
    · split at h
      · obtain ⟨Q, hQ, rfl⟩ := List.mem_map.1 h
        rw [List.length_cons, ih _ _ _ Q hQ]
      · simp at h

/-- The columns as numbers. -/
def cols (m : Nat) : List Int := (List.range m).map fun (c : Nat) => (c : Int)
theorem cols_len (m : Nat) : (cols m).length = m := by simp [cols]
theorem flat_cols (m : Nat) (g : Int → List (List Int)) : (cols m).flatMap g = (List.range m).flatMap fun (c : Nat) => g (c : Int) := by
  unfold cols
  rw [List.flatMap_map]
/-- No rook first: the placements in order. -/
theorem plG_first (m : Nat) (B : Nat → Nat → Bool) (d : Nat) : ∀ f t k, plG B (-1 :: cols m) d f t k = pl m B d f t k := by
  induction d with
  | zero => intro f t k; rfl
  | succ d ih =>
    intro f t k
    rw [plG, pl, List.flatMap_cons, if_pos rfl, ih, flat_cols]
    congr 1
    refine congrArg (fun g => (List.range m).flatMap g) (funext fun c => ?_)
    rw [if_neg (by omega)]
    simp only [Int.toNat_natCast, ih]
/-- A list of choices: -1 and columns, no more than seven. -/
def choiceOk (m : Nat) (C : List Int) : Prop := C.length ≤ 7 ∧ ∀ i, i < C.length → C.getD i 0 = -1 ∨ ∃ c : Nat, c < m ∧ C.getD i 0 = (c : Int)
theorem choice_of {m : Nat} {C : List Int} (h1 : C.length ≤ 7) (h : ∀ x ∈ C, x = -1 ∨ ∃ c : Nat, c < m ∧ x = (c : Int)) : choiceOk m C :=
  ⟨h1, fun i hi => by
    have : C.getD i 0 = C[i] := by simp [List.getD, hi]
    rw [this]
    exact h _ (List.getElem_mem hi)⟩
theorem choice_first (m : Nat) (h : m ≤ 6) : choiceOk m (-1 :: cols m) := choice_of (by simp [cols]; omega) (fun x hx => by
  rcases List.mem_cons.1 hx with rfl | hx
  · exact .inl rfl
  · obtain ⟨c, hc, rfl⟩ := List.mem_map.1 hx
    exact .inr ⟨c, List.mem_range.1 hc, rfl⟩)
theorem choice_last (m : Nat) (h : m ≤ 6) : choiceOk m (cols m ++ [-1]) := choice_of (by simp [cols]; omega) (fun x hx => by
  rcases List.mem_append.1 hx with hx | hx
  · obtain ⟨c, hc, rfl⟩ := List.mem_map.1 hx
    exact .inr ⟨c, List.mem_range.1 hc, rfl⟩
  · exact .inl (List.mem_singleton.1 hx))

end Go.Proofs.Ytdimbnkgomfojaa
