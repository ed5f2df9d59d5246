/- Factors, products, full placements, lengths that are alike: both texts. No condition but the sizes. -/
import Derived.Test.YtdimbnkgomfojaaFtp
import Derived.Test.YtdimbnkgomfojaaFe
import Derived.Test.YtdimbnkgomfojaaFu
import Derived.Test.YtdimbnkgomfojaaFn
namespace Go.Proofs.Ytdimbnkgomfojaa
open Go.RowKit Go.WideShapes

/-- What FactorsOf answers. -/
def facR (xs : List Int) : LR := if lenB xs then ⟨facs xs, true⟩ else ⟨[], false⟩
theorem facR_len (xs : List Int) : (facR xs).ys.length ≤ 1048576 := by
  unfold facR
  split
  · rename_i h
    have := len_facts h
    show (facs xs).length ≤ _
    rw [facs_len]
    omega
  · simp




/-- What ProductAt answers. -/
def prodR (xs : List Int) (x : Int) : R1 := if lenB xs && inB (-20) x 20 then ⟨prodX (facs xs) x xs.length, true⟩ else ⟨0, false⟩
theorem prod_in {ys : List Int} {x : Int} (hx : -20 ≤ x ∧ x ≤ 20) (hf : ∀ k, -6 ≤ ys.getD k 0 ∧ ys.getD k 0 ≤ 6) (k : Nat) (hk : k ≤ 6) : -308915776 ≤ prodX ys x k ∧ prodX ys x k ≤ 308915776 := by
  have a := prodX_abs ys x hx hf k
  have b := pow26 k hk
  omega



/-- What FullPlacements answers. -/
def fullR (xs : List Int) : R1 := if lenB xs then ⟨fullX xs xs.length, true⟩ else ⟨0, false⟩
theorem fullX_bd (xs : List Int) (h : ∀ k, xs.getD k 0 ≤ 6) (k : Nat) : 0 ≤ fullX xs k ∧ fullX xs k ≤ 6 ^ k := by
  induction k with
  | zero => simp [fullX]
  | succ k ih =>
    rw [fullX, Int.pow_succ]
    have hm := h k
    have c := mul6 _ (max 0 (xs.getD k 0 - (k : Int))) _ ih ⟨by omega, by omega⟩
    omega
theorem pow6i (i : Nat) (h : i ≤ 6) : (6 : Int) ^ i ≤ 46656 := by
  match i, h with
  | 0, _ | 1, _ | 2, _ | 3, _ | 4, _ | 5, _ | 6, _ => decide


end Go.Proofs.Ytdimbnkgomfojaa
