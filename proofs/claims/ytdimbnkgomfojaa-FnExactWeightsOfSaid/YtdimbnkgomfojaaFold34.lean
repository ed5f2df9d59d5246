import Derived.Test.YtdimbnkgomfojaaFold6
import Derived.Test.YtdimbnkgomfojaaFold22
import Derived.Test.YtdimbnkgomfojaaFold33
import Derived.Test.YtdimbnkgomfojaaFold9
import Derived.Test.YtdimbnkgomfojaaFold25
import Derived.Test.YtdimbnkgomfojaaFold8
import Derived.Test.YtdimbnkgomfojaaFold31
import Derived.Deep.RegionWith
import Derived.Deep.RegionHeld3

section
namespace Go.Proofs.Ytdimbnkgomfojaa
open Go.RowKit Go.WideShapes

theorem upL_app (s : Nat) (ys : List Int) (h : 0 < ys.length) : upL s ys = List.replicate s 0 ++ ys := by
  unfold upL
  rw [if_neg (by omega)]
  refine Eq.trans (lstI_congr _ _ (fun k => (List.replicate s (0 : Int) ++ ys).getD k 0) (fun k _ => ?_)) ?_
  · by_cases e : k < s
    · rw [if_pos e, List.getD_eq_getElem?_getD, List.getElem?_append_left (by rw [List.length_replicate]; exact e)]
      simp [e]
    · rw [if_neg e, List.getD_eq_getElem?_getD (l := _ ++ _), List.getElem?_append_right (by rw [List.length_replicate]; omega), List.length_replicate]
      simp [List.getD_eq_getElem?_getD]
  · have := lstI_self (List.replicate s (0 : Int) ++ ys)
    rwa [List.length_append, List.length_replicate] at this

end Go.Proofs.Ytdimbnkgomfojaa
end

section
namespace Go.Proofs.Ytdimbnkgomfojaa
open Go.RowKit Go.WideShapes

/-- All lists added. -/
def sumR (rss : List (List Int)) : List Int := rss.foldl addL []
theorem sumR_snoc (rss : List (List Int)) (x : List Int) : sumR (rss ++ [x]) = addL (sumR rss) x := by simp [sumR]
theorem sumR_take (rss : List (List Int)) (k : Nat) (h : k < rss.length) : sumR (rss.take (k + 1)) = addL (sumR (rss.take k)) rss[k] := by
  rw [List.take_succ_eq_append_getElem h, sumR_snoc]
/-- The longest one of the first k. -/
theorem sumR_len (rss : List (List Int)) (k : Nat) (h : k < rss.length) : (sumR (rss.take (k + 1))).length = max (sumR (rss.take k)).length rss[k].length := by
  rw [sumR_take rss k h, addL_len]
theorem sumR_mono (rss : List (List Int)) (k n : Nat) (hk : k ≤ n) (hn : n ≤ rss.length) : (sumR (rss.take k)).length ≤ (sumR (rss.take n)).length := by
  induction n with
  | zero => rw [show k = 0 by omega]; exact Nat.le_refl _
  | succ n ih =>
    by_cases e : k = n + 1
    · rw [e]; exact Nat.le_refl _
    · have := ih (by omega) (by omega)
      rw [sumR_len rss n (by omega)]
      omega
theorem sumR_row (rss : List (List Int)) (k : Nat) (h : k < rss.length) : rss[k].length ≤ (sumR rss).length := by
  have a := sumR_len rss k h
  have b := sumR_mono rss (k + 1) rss.length (by omega) (Nat.le_refl _)
  rw [List.take_length] at b
  omega
/-- In the midst of the row r: the sums of the first j numbers have it already. -/
def midA (A r : List Int) (j e : Nat) : Int := if e < j then A.getD e 0 + r.getD e 0 else A.getD e 0
theorem midA_zero (A r : List Int) : midA A r 0 = fun e => A.getD e 0 := by funext e; simp [midA]
theorem midA_full (A r : List Int) (e : Nat) : midA A r r.length e = (addL A r).getD e 0 := by
  rw [addL_get]
  unfold midA
  split
  · rfl
  · rename_i h
    rw [getD_far r e (by omega), Int.add_zero]
theorem midA_set (L : Nat) (A r : List Int) (j : Nat) : (lstI L (midA A r j)).set j (A.getD j 0 + r.getD j 0) = lstI L (midA A r (j + 1)) :=
  lstI_set L _ _ j _ (by simp [midA]) (fun k _ hk => by
    unfold midA
    by_cases h : k < j
    · rw [if_pos h, if_pos (by omega)]
    · rw [if_neg h, if_neg (by omega)])
theorem midA_at (A r : List Int) (j : Nat) : midA A r j j = A.getD j 0 := by simp [midA]


/-- The lists behind a row, with k places of a rook so far. -/
def behR (same fewer : List Int) (s k : Nat) : List (List Int) := upL s same :: (List.range k).map (fun t => upL t fewer)
theorem behR_len (same fewer : List Int) (s k : Nat) : (behR same fewer s k).length = k + 1 := by simp [behR]
theorem behR_snoc (same fewer : List Int) (s k : Nat) : behR same fewer s k ++ [upL k fewer] = behR same fewer s (k + 1) := by simp [behR, List.range_succ]
theorem behR_sum (same fewer : List Int) (s k : Nat) : sumR (behR same fewer s k) = behL same fewer s k := by
  induction k with
  | zero => simp [behR, sumR, behL, nil_addL]
  | succ k ih => rw [← behR_snoc, sumR_snoc, ih, behL]
theorem behR_take (same fewer : List Int) (s K k : Nat) (h : k ≤ K) : (behR same fewer s K).take (k + 1) = behR same fewer s k := by
  unfold behR
  rw [List.take_succ_cons, ← List.map_take, List.take_range, show min k K = k by omega]
theorem behR_get (same fewer : List Int) (s K k : Nat) (h : k < (behR same fewer s K).length) : (behR same fewer s K)[k] = if k = 0 then upL s same else upL (k - 1) fewer := by
  cases k with
  | zero => rfl
  | succ k => simp [behR]
theorem behR_wrap (same fewer : List Int) (s K : Nat) (hK : K ≤ 7) (h1 : ∀ e, 0 ≤ same.getD e 0 ∧ same.getD e 0 ≤ 262144) (h2 : ∀ e, 0 ≤ fewer.getD e 0 ∧ fewer.getD e 0 ≤ 262144) (k : Nat) (h : k < (behR same fewer s K).length) (e : Nat) :
    IntKind.i64.wrap ((sumR ((behR same fewer s K).take k)).getD e 0 + (behR same fewer s K)[k].getD e 0) = (sumR ((behR same fewer s K).take k)).getD e 0 + (behR same fewer s K)[k].getD e 0 := by
  have hb := fun t => behL_bd same fewer s t 262144 (fun k => (h1 k).2) (fun k => (h2 k).2) (by omega) e
  have pos : ∀ t, 0 ≤ (behL same fewer s t).getD e 0 := by
    intro t
    induction t with
    | zero =>
      rw [behL, upL_get]
      split
      · exact Int.le_refl _
      · exact (h1 _).1
    | succ t ih =>
      have : 0 ≤ (upL t fewer).getD e 0 := by
        rw [upL_get]
        split
        · exact Int.le_refl _
        · exact (h2 _).1
      rw [behL, addL_get]
      omega
  rw [behR_len] at h
  have e1 : (sumR ((behR same fewer s K).take k)).getD e 0 + (behR same fewer s K)[k].getD e 0 = (behL same fewer s k).getD e 0 := by
    rw [behR_get]
    cases k with
    | zero => simp [sumR, behL]
    | succ k => rw [if_neg (by omega), behR_take same fewer s K k (by omega), behR_sum, Nat.add_sub_cancel, behL, addL_get]
  rw [e1]
  have a := hb k
  have b := pos k
  have c : ((k : Int) + 1) * 262144 ≤ 8 * 262144 := Int.mul_le_mul_of_nonneg_right (by omega) (by decide)
  exact IntWalk.i64_in _ (by omega)
def behP (same fewer : List Int) (m : Int) : List Int := if m < 0 then [] else behL same fewer m.toNat (m.toNat + 1)

end Go.Proofs.Ytdimbnkgomfojaa
end

section
namespace Go.Proofs.Ytdimbnkgomfojaa
open Go.RowKit Go.WideShapes

/-- A list of lists by its rows. -/
def lstR (L : Nat) (g : Nat → List Int) : List (List Int) := (List.range L).map g
theorem lstR_len (L : Nat) (g : Nat → List Int) : (lstR L g).length = L := by simp [lstR]
theorem lstR_get (L : Nat) (g : Nat → List Int) (k : Nat) (h : k < (lstR L g).length) : (lstR L g)[k] = g k := by simp [lstR]
theorem lstR_congr (L : Nat) (g g' : Nat → List Int) (h : ∀ k, k < L → g k = g' k) : lstR L g = lstR L g' := by
  unfold lstR
  exact List.map_congr_left (fun k hk => h k (List.mem_range.1 hk))
theorem lstR_nil (L : Nat) : List.replicate L ([] : List Int) = lstR L (fun _ => []) := by
  refine List.ext_getElem ?_ fun k h1 h2 => ?_
  · simp [lstR]
  · simp [lstR]
theorem lstR_set (L : Nat) (g g' : Nat → List Int) (i : Nat) (x : List Int) (hx : g' i = x) (ho : ∀ k, k < L → k ≠ i → g' k = g k) : (lstR L g).set i x = lstR L g' := by
  refine List.ext_getElem ?_ fun k h1 h2 => ?_
  · simp [lstR]
  · have hk : k < L := by simpa [lstR] using h2
    rw [List.getElem_set]
    by_cases e : i = k
    · subst e
      simp [lstR, hx]
    · rw [if_neg e]
      simp [lstR, ho k hk (fun h => e h.symm)]

/-- Behind the row i and the numbers of rooks that are greater than k. -/
def midQ (xs : List Int) (i k j : Nat) : List Int := if k < j then wts xs (i + 1) j else wts xs i j
theorem rowW_behP (m : Int) (W : Nat → List Int) (k : Nat) : rowW m W k = behP (W k) (preW W k) (m - k) := by
  unfold rowW behP
  by_cases h : m < k
  · rw [if_pos h, if_pos (by omega)]
  · rw [if_neg h, if_neg (by omega)]
theorem midQ_start (xs : List Int) (i j : Nat) : midQ xs i (i + 1) j = wts xs i j := by
  unfold midQ
  split
  · rw [wts_zero xs (i + 1) j (.inl (by omega)), wts_zero xs i j (.inl (by omega))]
  · rfl
theorem midQ_at (xs : List Int) (i k j : Nat) (h : j ≤ k) : midQ xs i k j = wts xs i j := if_neg (by omega)
theorem midQ_next (xs : List Int) (i k j : Nat) (h : j ≠ k + 1) : midQ xs i k j = midQ xs i (k + 1) j := by
  unfold midQ
  by_cases h1 : k < j
  · rw [if_pos h1, if_pos (by omega)]
  · rw [if_neg h1, if_neg (by omega)]
theorem midQ_done (xs : List Int) (i k : Nat) : midQ xs i k (k + 1) = wts xs (i + 1) (k + 1) := if_pos (by omega)
theorem midQ_end (xs : List Int) (i j : Nat) (h : j ≠ 0) : midQ xs i 0 j = wts xs (i + 1) j := if_pos (by omega)
/-- No weights are there where a row is too short for them. -/
theorem wts_short (xs : List Int) (hs : ∀ i j, i ≤ j → j < xs.length → xs.getD i 0 ≤ xs.getD j 0) (i k : Nat) (hi : i < xs.length) (h : xs.getD i 0 - k < 0) (h0 : 0 ≤ xs.getD i 0) : wts xs i k = [] := by
  refine wts_zero xs i k ?_
  by_cases e : i = 0
  · exact .inl (by omega)
  · have := hs (i - 1) i (by omega) hi
    exact .inr ⟨by omega, by omega⟩

end Go.Proofs.Ytdimbnkgomfojaa
end
