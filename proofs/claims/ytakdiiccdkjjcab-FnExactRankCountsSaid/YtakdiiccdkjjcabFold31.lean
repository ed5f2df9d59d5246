import Derived.Test.YtakdiiccdkjjcabFold29
import Derived.Test.YtakdiiccdkjjcabFold30
import Derived.Deep.RegionWith
import Derived.Laws.EntriesVeiled
import Derived.Test.YtakdiiccdkjjcabFold18
import Derived.Test.YtakdiiccdkjjcabFold23
import Derived.Test.YtakdiiccdkjjcabFold6
import Derived.Laws.Rows
import Derived.Test.YtakdiiccdkjjcabFold4
import Derived.Test.YtakdiiccdkjjcabFold5
import Derived.Test.YtakdiiccdkjjcabFold8
import Derived.Test.YtakdiiccdkjjcabFold14

section
namespace Go.Proofs.Ytakdiiccdkjjcab
open Go.RowKit

/-- The placements of d rows from f on, with k rooks in columns that are not in t; each row tries the choices C in their order. -/
def plG (B : Nat → Nat → Bool) (C : List Int) : Nat → Nat → Nat → Nat → List (List Int)
  | 0, _, _, k => if k = 0 then [[]] else []
  | d + 1, f, t, k => C.flatMap fun c => if c = -1 then (plG B C d (f + 1) t k).map (fun Q => c :: Q) else if decide (0 < k) && (B f c.toNat && !t.testBit c.toNat) then (plG B C d (f + 1) (t ||| 2 ^ c.toNat) (k - 1)).map (fun Q => c :: Q) else []
/-- What one choice brings. -/
def blkG (B : Nat → Nat → Bool) (C : List Int) (d f t k : Nat) (c : Int) : List (List Int) := if c = -1 then (plG B C d (f + 1) t k).map (fun Q => c :: Q) else if decide (0 < k) && (B f c.toNat && !t.testBit c.toNat) then (plG B C d (f + 1) (t ||| 2 ^ c.toNat) (k - 1)).map (fun Q => c :: Q) else []
/-- .. and the first i of them. -/
def plcG (B : Nat → Nat → Bool) (C : List Int) (d f t k i : Nat) : List (List Int) := (C.take i).flatMap (blkG B C d f t k)
theorem plcG_zero (B : Nat → Nat → Bool) (C : List Int) (d f t k : Nat) : plcG B C d f t k 0 = [] := by simp [plcG]
theorem plcG_full (B : Nat → Nat → Bool) (C : List Int) (d f t k : Nat) : plcG B C d f t k C.length = plG B C (d + 1) f t k := by
  unfold plcG
  rw [List.take_length]
  rfl
theorem plcG_succ (B : Nat → Nat → Bool) (C : List Int) (d f t k i : Nat) (h : i < C.length) : plcG B C d f t k (i + 1) = plcG B C d f t k i ++ blkG B C d f t k (C.getD i 0) := by
  unfold plcG
  rw [List.take_succ_eq_append_getElem h, List.flatMap_append]
  simp [List.getD, h]
theorem plcG_split (B : Nat → Nat → Bool) (C : List Int) (d f t k i : Nat) : ∃ tl, plG B C (d + 1) f t k = plcG B C d f t k i ++ tl := by
  refine ⟨(C.drop i).flatMap (blkG B C d f t k), ?_⟩
  unfold plcG
  rw [← List.flatMap_append, List.take_append_drop]
  rfl
theorem blkG_none (B : Nat → Nat → Bool) (C : List Int) (d f t k : Nat) : blkG B C d f t k (-1) = (plG B C d (f + 1) t k).map (fun Q => (-1) :: Q) := by
  unfold blkG
  rw [if_pos rfl]
theorem blkG_no (B : Nat → Nat → Bool) (C : List Int) (d f t k c : Nat) (h : k = 0 ∨ B f c = false ∨ t.testBit c = true) : blkG B C d f t k (c : Int) = [] := by
  unfold blkG
  rw [if_neg (by omega)]
  rcases h with rfl | h | h
  · simp
  · simp [h]
  · simp [h]
theorem blkG_yes (B : Nat → Nat → Bool) (C : List Int) (d f t k c : Nat) (hk : 0 < k) (h : B f c = true) (ht : t.testBit c = false) : blkG B C d f t k (c : Int) = (plG B C d (f + 1) (t ||| 2 ^ c) (k - 1)).map (fun Q => (c : Int) :: Q) := by
  unfold blkG
  rw [if_neg (by omega)]
  simp [hk, h, ht]
theorem plG_none (B : Nat → Nat → Bool) (C : List Int) (d : Nat) : ∀ f t k, d < k → plG B C d f t k = [] := by
  induction d with
  | zero => intro f t k h; rw [plG, if_neg (by omega)]
  | succ d ih =>
    intro f t k h
    rw [plG, List.flatMap_eq_nil_iff]
    intro c _
    split
    · rw [ih _ _ _ (by omega)]; rfl
    · split
      · rw [ih _ _ _ (by omega)]; rfl
      · rfl
theorem plG_rows (B : Nat → Nat → Bool) (C : List Int) (d : Nat) : ∀ f t k, ∀ P ∈ plG B C d f t k, P.length = d := by
  induction d with
  | zero =>
    intro f t k P h
    rw [plG] at h
    split at h
    · rw [List.mem_singleton.1 h]; rfl
    · simp at h
  | succ d ih =>
    intro f t k P h
    rw [plG, List.mem_flatMap] at h
    obtain ⟨c, _, h⟩ := h
    split at h
    · obtain ⟨Q, hQ, rfl⟩ := List.mem_map.1 h
      rw [List.length_cons, ih _ _ _ Q hQ]
    · split at h
      · obtain ⟨Q, hQ, rfl⟩ := List.mem_map.1 h
        rw [List.length_cons, ih _ _ _ Q hQ]
      · simp at h

/-- The columns as numbers. -/
def cols (m : Nat) : List Int := (List.range m).map fun (c : Nat) => (c : Int)
theorem cols_len (m : Nat) : (cols m).length = m := by simp [cols]
theorem flat_cols (m : Nat) (g : Int → List (List Int)) : (cols m).flatMap g = (List.range m).flatMap fun (c : Nat) => g (c : Int) := by
  unfold cols
  rw [List.flatMap_map]
/-- No rook first: the placements in order. -/
theorem plG_first (m : Nat) (B : Nat → Nat → Bool) (d : Nat) : ∀ f t k, plG B (-1 :: cols m) d f t k = pl m B d f t k := by
  induction d with
  | zero => intro f t k; rfl
  | succ d ih =>
    intro f t k
    rw [plG, pl, List.flatMap_cons, if_pos rfl, ih, flat_cols]
    congr 1
    refine congrArg (fun g => (List.range m).flatMap g) (funext fun c => ?_)
    rw [if_neg (by omega)]
    simp only [Int.toNat_natCast, ih]
/-- A list of choices: -1 and columns, no more than seven. -/
def choiceOk (m : Nat) (C : List Int) : Prop := C.length ≤ 7 ∧ ∀ i, i < C.length → C.getD i 0 = -1 ∨ ∃ c : Nat, c < m ∧ C.getD i 0 = (c : Int)
theorem choice_of {m : Nat} {C : List Int} (h1 : C.length ≤ 7) (h : ∀ x ∈ C, x = -1 ∨ ∃ c : Nat, c < m ∧ x = (c : Int)) : choiceOk m C :=
  ⟨h1, fun i hi => by
    have : C.getD i 0 = C[i] := by simp [List.getD, hi]
    rw [this]
    exact h _ (List.getElem_mem hi)⟩
theorem choice_first (m : Nat) (h : m ≤ 6) : choiceOk m (-1 :: cols m) := choice_of (by simp [cols]; omega) (fun x hx => by
  rcases List.mem_cons.1 hx with rfl | hx
  · exact .inl rfl
  · obtain ⟨c, hc, rfl⟩ := List.mem_map.1 hx
    exact .inr ⟨c, List.mem_range.1 hc, rfl⟩)
theorem choice_last (m : Nat) (h : m ≤ 6) : choiceOk m (cols m ++ [-1]) := choice_of (by simp [cols]; omega) (fun x hx => by
  rcases List.mem_append.1 hx with hx | hx
  · obtain ⟨c, hc, rfl⟩ := List.mem_map.1 hx
    exact .inr ⟨c, List.mem_range.1 hc, rfl⟩
  · exact .inl (List.mem_singleton.1 hx))

end Go.Proofs.Ytakdiiccdkjjcab
end

section
namespace Go.Proofs.Ytakdiiccdkjjcab
open Go.RowKit Go.WideShapes

theorem Chg.has {foot : Nat → Prop} {w w' : World} {b : Nat} {cs : List Value} {t : TypeId} (h : Chg foot w w') (hf : ¬ foot b) (hh : Has w b cs t) : Has w' b cs t := (h.block b hh.lt hf).trans hh
theorem Chg.set (w : World) (bp r : Nat) (v : Value) (foot : Nat → Prop) : Chg (fun k => k = bp ∨ foot k) w (w.setCell ⟨bp, r, none⟩ v) :=
  ⟨rfl, rfl, rfl, by simp [World.setCell], fun k _ hf => Below.heap_setCell w ⟨bp, r, none⟩ _ k (fun e => hf (.inl e))⟩
theorem own_keep {w w' : World} {lo g n cap : Nat} {xs : List Int} {foot : Nat → Prop} (h : Own w lo (.slice (some ⟨g, 0, none⟩) n cap) xs) (hc : Chg foot w w') (hf : ¬ foot g) : Own w' lo (.slice (some ⟨g, 0, none⟩) n cap) xs := by
  refine ⟨h.1, ?_⟩
  rcases h.2 with h2 | ⟨g', cap', cur, hv, hg, hh, r⟩
  · exact .inl h2
  · refine .inr ⟨g', cap', cur, hv, hg, ?_, r⟩
    have e : g = g' := by injection hv with h1; injection h1 with h1; injection h1
    subst e
    rw [hc.block g (Array.getElem?_eq_some_iff.1 hh).1 hf]
    exact hh

/-- Places that begin as a list of r numbers, with nothing behind the rows. -/
def okF (P : List Int) (r n : Nat) (F : Nat → Int) : Prop := (∀ k, k < r → F k = P.getD k 0) ∧ ∀ k, n ≤ k → F k = -1
theorem okF_nil (n : Nat) : okF [] 0 n (fun _ => -1) := ⟨fun k h => by omega, fun _ _ => rfl⟩
theorem okF_set {P : List Int} {r n : Nat} {F : Nat → Int} (h : okF P r n F) (hr : r < n) (x : Int) : okF P r n (fun q => if q = r then x else F q) :=
  ⟨fun k hk => by simp only; rw [if_neg (by omega)]; exact h.1 k hk, fun k hk => by simp only; rw [if_neg (by omega)]; exact h.2 k hk⟩
theorem okF_put {P : List Int} {r n : Nat} {F : Nat → Int} (h : okF P r n F) (hP : P.length = r) (hr : r < n) (x : Int) : okF (P ++ [x]) (r + 1) n (fun q => if q = r then x else F q) := by
  refine ⟨fun k hk => ?_, fun k hk => by simp only; rw [if_neg (by omega)]; exact h.2 k hk⟩
  simp only
  by_cases e : k = r
  · subst e
    rw [if_pos rfl, List.getD_eq_getElem?_getD, List.getElem?_append_right (by omega), hP]
    simp
  · rw [if_neg e, h.1 k (by omega), List.getD_eq_getElem?_getD, List.getD_eq_getElem?_getD, List.getElem?_append_left (by omega)]
theorem okF_weak {P : List Int} {r n : Nat} {F : Nat → Int} {x : Int} (h : okF (P ++ [x]) (r + 1) n F) (hP : P.length = r) : okF P r n F :=
  ⟨fun k hk => by
    rw [h.1 k (by omega), List.getD_eq_getElem?_getD, List.getD_eq_getElem?_getD, List.getElem?_append_left (by omega)], h.2⟩
theorem okF_full {P : List Int} {n : Nat} {F : Nat → Int} (h : okF P n n F) : F = plF P n := funext fun k => by
  unfold plF
  by_cases e : k < n
  · rw [if_pos e, h.1 k e]
  · rw [if_neg e, h.2 k (by omega)]

end Go.Proofs.Ytakdiiccdkjjcab
end

section
namespace Go.Proofs.Ytakdiiccdkjjcab
open Go.RowKit Go.WideShapes
/-- The masks of rows behind k rounds. -/
def mskG (M : Nat → Int) (k q : Nat) : Int := if q < k then pw (M q) - 1 else 0

end Go.Proofs.Ytakdiiccdkjjcab
end

section
namespace Go.Proofs.Ytakdiiccdkjjcab
open Go.RowKit Go.WideShapes

/-- Before which column free cells of a row are. -/
def limP (xs P : List Int) (i : Nat) : Nat := if P.getD i 0 = -1 then lenN xs i else (P.getD i 0).toNat
/-- The free cells of the first rows. -/
def frN (xs P : List Int) : Nat → Nat
  | 0 => 0
  | i + 1 => frN xs P i + cntF (tkn P i) (limP xs P i)
theorem freeW_frN (xs P : List Int) (i : Nat) (hi : i ≤ P.length) : frN xs P i + freeW xs (P.drop i) i (tkn P i) = freeW xs P 0 0 := by
  induction i with
  | zero => simp [frN, tkn]
  | succ i ih =>
    rw [← ih (by omega), List.drop_eq_getElem_cons (by omega : i < P.length), freeW, frN]
    have e : P[i] = P.getD i 0 := by simp [List.getD, show i < P.length by omega]
    rw [e]
    have h1 : tkn P (i + 1) = if P.getD i 0 = -1 then tkn P i else tkn P i ||| 2 ^ (P.getD i 0).toNat := rfl
    have h2 : cntF (tkn P i) (limP xs P i) = if P.getD i 0 = -1 then cntF (tkn P i) (lenN xs i) else cntF (tkn P i) (P.getD i 0).toNat := by
      unfold limP
      split <;> rfl
    rw [h1, h2]
    omega
theorem freeW_all (xs P : List Int) : freeW xs P 0 0 = frN xs P P.length := by
  have := freeW_frN xs P P.length (Nat.le_refl _)
  rw [List.drop_length] at this
  simpa [freeW] using this.symm

/-- The columns before c that are not in t, as a set. -/
def lft (t c : Nat) : Nat := (2 ^ c - 1) &&& (63 ^^^ t)
theorem lft_facts : ∀ t : Fin 64, ∀ m : Fin 7, lft t m < 64 ∧ pop (lft t m : Nat) = cntF t m ∧ bits .andNot .i64 (pw ((m : Nat) : Int) - 1) ((t : Nat) : Int) = ((lft t m : Nat) : Int) ∧
    ∀ c : Fin 7, (c : Nat) ≤ m → bits .and .i64 ((lft t m : Nat) : Int) (pw ((c : Nat) : Int) - 1) = ((lft t c : Nat) : Int) := by decide +kernel
theorem lft_at (t m : Nat) (ht : t < 64) (hm : m ≤ 6) : lft t m < 64 ∧ pop (lft t m : Nat) = cntF t m ∧ bits .andNot .i64 (pw (m : Int) - 1) (t : Int) = ((lft t m : Nat) : Int) ∧
    ∀ c : Nat, c ≤ m → bits .and .i64 ((lft t m : Nat) : Int) (pw (c : Int) - 1) = ((lft t c : Nat) : Int) := by
  obtain ⟨a, b, c, d⟩ := lft_facts ⟨t, ht⟩ ⟨m, by omega⟩
  exact ⟨a, b, c, fun k hk => d ⟨k, by omega⟩ hk⟩
theorem frN_le (xs P : List Int) (h : ∀ i, limP xs P i ≤ 6) (i : Nat) : frN xs P i ≤ 6 * i := by
  induction i with
  | zero => simp [frN]
  | succ i ih =>
    have := cntF_le (tkn P i) (limP xs P i)
    have := h i
    rw [frN]
    omega

end Go.Proofs.Ytakdiiccdkjjcab
end

section
namespace Go.Proofs.Ytakdiiccdkjjcab
open Go.RowKit Go.WideShapes

end Go.Proofs.Ytakdiiccdkjjcab
end

section
namespace Go.Proofs.Ytakdiiccdkjjcab
open Go.RowKit Go.WideShapes

def idx0 (n : Nat) : List Int := lstI n (fun q => (q : Int))
def uptI (k q : Nat) : Int := if q < k then (q : Int) else 0

end Go.Proofs.Ytakdiiccdkjjcab
end

section
namespace Go.Proofs.Ytakdiiccdkjjcab
open Go.RowKit Go.WideShapes

theorem idx0_cols (m : Nat) : idx0 m = cols m := rfl
theorem plG_len (m : Nat) (B : Nat → Nat → Bool) (n k : Nat) : (plG B (-1 :: cols m) n 0 0 k).length = wR m B n 0 0 k := by rw [plG_first, pl_len]
theorem first_len (m : Nat) : (-1 :: cols m).length = m + 1 := by simp [cols]

theorem concat2 (W : World) (lo g0 g8 gi m : Nat) (hm : m ≤ 6) (h0 : g0 < W.heap.size) (c0 : W.cell? ⟨g0, 0, none⟩ = some (.slice (some ⟨g8, 0, none⟩) 1 1)) (c1 : W.cell? ⟨g0, 1, none⟩ = some (.slice (some ⟨gi, 0, none⟩) m m)) (c8 : W.cell? ⟨g8, 0, none⟩ = some (.int .i64 (-1))) (hO : Own W lo (.slice (some ⟨gi, 0, none⟩) m m) (idx0 m)) :
    Calls Try.prog 138 #[.slice (some ⟨g0, 0, none⟩) 2 2] W fun e w' => ∃ g cp, e = .returned (.slice (some ⟨g, 0, none⟩) (m + 1) cp) ∧ W.heap.size ≤ g ∧ Own w' 0 (.slice (some ⟨g, 0, none⟩) (m + 1) cp) (-1 :: cols m) ∧ Below W.heap.size W w' := by
  let S : Nat → Value := fun k => if k = 0 then .slice (some ⟨g8, 0, none⟩) 1 1 else .slice (some ⟨gi, 0, none⟩) m m
  let Y : Nat → List Int := fun k => if k = 0 then [-1] else idx0 m
  have hY : catY Y 2 = -1 :: cols m := rfl
  have := concat_any g0 2 2 S Y W (by omega) h0 (by rw [hY, first_len]; omega) (by rw [hY, first_len]; omega) (fun k hk => by
    have : k = 0 ∨ k = 1 := by omega
    rcases this with rfl | rfl
    · exact c0
    · exact c1) (fun k hk => by
    have : k = 0 ∨ k = 1 := by omega
    rcases this with rfl | rfl
    · refine .inr ⟨⟨g8, 0, none⟩, 1, rfl, fun j hj => ?_⟩
      have hj0 : j = 0 := by have : ([-1] : List Int).length = 1 := rfl; simp only [Y, if_pos] at hj; simp at hj; omega
      subst hj0
      rw [Addr.add_lit]
      exact c8
    · exact hO.src)
  rw [hY] at this
  refine this.mono (fun e w' h => ?_)
  obtain ⟨v, rfl, hO, hb⟩ := h
  rcases hO.cases with ⟨rfl, h⟩ | ⟨g, cap, rfl, _⟩
  · simp at h
  · have := (own_lt hO g rfl).1
    rw [first_len] at hO ⊢
    exact ⟨g, cap, rfl, this, hO.lower (Nat.zero_le _), hb⟩


end Go.Proofs.Ytakdiiccdkjjcab
end

section

end
