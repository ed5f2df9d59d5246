/- The lengths of a board, and whether it is ordered: both texts. No condition but the sizes. -/
import Derived.Test.YtdimbnkgomfojaaFj
import Derived.Test.YtdimbnkgomfojaaFt
namespace Go.Proofs.Ytdimbnkgomfojaa
open Go.RowKit Go.WideShapes

/-- What LengthsOf answers. -/
def lofR (r c : Int) (xs : List Int) : LR := if sqF r c xs && (allBeg xs && lenB (xs.map pop)) then ⟨xs.map pop, true⟩ else ⟨[], false⟩
theorem lofR_len (r c : Int) (xs : List Int) : (lofR r c xs).ys.length ≤ 1048576 := by
  unfold lofR
  split
  · rename_i h
    rw [Bool.and_eq_true, Bool.and_eq_true] at h
    have := len_facts h.2.2
    show (xs.map pop).length ≤ _
    omega
  · simp
/-- What IsOrdered answers. -/
def isoR (r c : Int) (xs : List Int) : R2 := if goodB r c xs then ⟨(lofR r c xs).ok, true⟩ else ⟨false, false⟩
theorem lofR_no (r c : Int) (xs : List Int) (h : (sqF r c xs && (allBeg xs && lenB (xs.map pop))) = false) : lofR r c xs = ⟨[], false⟩ := by unfold lofR; rw [h]; rfl
theorem lofR_yes (r c : Int) (xs : List Int) (h : (sqF r c xs && (allBeg xs && lenB (xs.map pop))) = true) : lofR r c xs = ⟨xs.map pop, true⟩ := by unfold lofR; rw [h]; rfl
theorem popL_map (xs : List Int) (n : Nat) (M : Nat → Int) (hn : xs.length = n) (hM : ∀ k, k < n → M k = xs.getD k 0) : popL n M = xs.map pop := by
  subst hn
  refine List.ext_getElem (by simp [popL, lstI]) (fun i h1 h2 => ?_)
  simp only [popL, lstI, List.getElem_map, List.getElem_range]
  rw [hM i (by simpa [popL, lstI] using h1)]
  simp [List.getD, show i < xs.length by simpa using h2]
theorem ordG_all (xs : List Int) (n : Nat) (m : Int) (M : Nat → Int) (hn : xs.length = n) (hM : ∀ k, k < n → M k = xs.getD k 0) : ordG n m M = (((n : Int) == m) && (allBeg xs && lenB (xs.map pop))) := by
  unfold ordG
  rw [Int.toNat_natCast, popL_map xs n M hn hM]
  congr 2
  unfold allBeg
  rw [hn]
  rw [Bool.eq_iff_iff]
  simp only [List.all_eq_true, List.mem_range]
  exact ⟨fun h k hk => by rw [← hM k hk]; exact h k hk, fun h k hk => by rw [hM k hk]; exact h k hk⟩





end Go.Proofs.Ytdimbnkgomfojaa
