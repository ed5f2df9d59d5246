/- Turned placements: both texts. No condition but the sizes. -/
import Derived.Test.YtdimbnkgomfojabPu
import Derived.Test.YtdimbnkgomfojabQt
import Derived.Deep.RegionHeld3
namespace Go.Proofs.Ytdimbnkgomfojab
open Go.RowKit Go.WideShapes

def turnB (r c : Int) (xs P : List Int) : LR := if okPl r c xs P then ⟨lstI c.toNat (trF (fun j => P.getD j 0) r.toNat), true⟩ else ⟨[], false⟩
theorem turnB_len (r c : Int) (xs P : List Int) : (turnB r c xs P).ys.length ≤ 1048576 := by
  unfold turnB
  split
  · rename_i h
    unfold okPl at h
    rw [Bool.and_eq_true] at h
    have := good_facts h.1
    show (lstI _ _).length ≤ _
    rw [lstI_len]
    omega
  · simp

theorem placeP_facts {n m : Nat} {xs P : List Int} (h : placeP n m xs P = true) : P.length = n ∧ ∀ k, k < n → P.getD k 0 = -1 ∨ (0 ≤ P.getD k 0 ∧ P.getD k 0 < m) := by
  unfold placeP at h
  rw [Bool.and_eq_true, decide_eq_true_eq] at h
  refine ⟨h.1, fun k hk => ?_⟩
  by_cases e : P.getD k 0 = -1
  · exact .inl e
  · have := good_col (goodUp_at xs m P n k h.2 hk) e
    exact .inr ⟨this.1, this.2.1⟩


end Go.Proofs.Ytdimbnkgomfojab
