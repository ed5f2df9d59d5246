/- Partitions and cycles: what makes them, plain. No condition. -/
import Derived.Test.YtddmommamcgelabM2
import Derived.Test.YtddmommamcgelabO
import Derived.Test.YtddmommamcgelabFa
namespace Go.Proofs.Ytddmommamcgelab
open Go.RowKit Go.WideShapes

/-- The row at i. -/
def rowZ (zz : List (List Int)) (i : Nat) : List Int := zz.getD i []
theorem rowZ_eq (zz : List (List Int)) (i : Nat) (h : i < zz.length) : rowZ zz i = zz[i] := by simp [rowZ, List.getD, h]
/-- Cycles of as many numbers as there are in them; d: a partition. -/
structure GF (d : Bool) (zz : List (List Int)) : Prop where
  ne : ∀ i, i < zz.length → 1 ≤ (rowZ zz i).length
  tot : total zz ≤ 6
  pos : 1 ≤ zz.length
  nd : zz.flatten.Nodup
  wi : ∀ x ∈ zz.flatten, 0 ≤ x ∧ x < (total zz : Int)
  hd : ∀ i, i < zz.length → ∀ k, k < (rowZ zz i).length → (rowZ zz i).getD 0 0 ≤ (rowZ zz i).getD k 0
  so : d = true → ∀ i, i < zz.length → ∀ k, k < (rowZ zz i).length - 1 → (rowZ zz i).getD k 0 ≤ (rowZ zz i).getD (k + 1) 0
  fi : ∀ i, i < zz.length - 1 → (rowZ zz i).getD 0 0 ≤ (rowZ zz (i + 1)).getD 0 0
instance decGF (d : Bool) (zz : List (List Int)) : Decidable (GF d zz) :=
  decidable_of_iff ((∀ i, i < zz.length → 1 ≤ (rowZ zz i).length) ∧ total zz ≤ 6 ∧ 1 ≤ zz.length ∧ zz.flatten.Nodup ∧ (∀ x ∈ zz.flatten, 0 ≤ x ∧ x < (total zz : Int)) ∧
    (∀ i, i < zz.length → ∀ k, k < (rowZ zz i).length → (rowZ zz i).getD 0 0 ≤ (rowZ zz i).getD k 0) ∧ (d = true → ∀ i, i < zz.length → ∀ k, k < (rowZ zz i).length - 1 → (rowZ zz i).getD k 0 ≤ (rowZ zz i).getD (k + 1) 0) ∧
    (∀ i, i < zz.length - 1 → (rowZ zz i).getD 0 0 ≤ (rowZ zz (i + 1)).getD 0 0))
    ⟨fun ⟨a, b, c, e, f, g, h, i⟩ => ⟨a, b, c, e, f, g, h, i⟩, fun ⟨a, b, c, e, f, g, h, i⟩ => ⟨a, b, c, e, f, g, h, i⟩⟩
def gB (d : Bool) (zz : List (List Int)) : Bool := decide (GF d zz)
theorem gB_iff {d : Bool} {zz : List (List Int)} : gB d zz = true ↔ GF d zz := decide_eq_true_iff
theorem gB_no {d : Bool} {zz : List (List Int)} (h : ¬ GF d zz) : gB d zz = false := decide_eq_false h
/-- The numbers ahead of the k-th one of row i. -/
def preZ (zz : List (List Int)) (i : Nat) : List Int := (zz.take i).flatten
def seenZ (zz : List (List Int)) (i k : Nat) : List Int := preZ zz i ++ (rowZ zz i).take k
theorem preZ_succ (zz : List (List Int)) (i : Nat) (h : i < zz.length) : preZ zz (i + 1) = preZ zz i ++ rowZ zz i := by
  unfold preZ
  rw [List.take_succ_eq_append_getElem h, List.flatten_append, rowZ_eq zz i h]
  simp
theorem preZ_full (zz : List (List Int)) : preZ zz zz.length = zz.flatten := by unfold preZ; rw [List.take_length]
theorem seenZ_zero (zz : List (List Int)) (i : Nat) : seenZ zz i 0 = preZ zz i := by simp [seenZ]
theorem seenZ_row (zz : List (List Int)) (i : Nat) (h : i < zz.length) : seenZ zz i (rowZ zz i).length = preZ zz (i + 1) := by
  unfold seenZ
  rw [List.take_length, preZ_succ zz i h]
theorem seenZ_next (zz : List (List Int)) (i k : Nat) (hk : k < (rowZ zz i).length) : seenZ zz i k ++ [(rowZ zz i).getD k 0] = seenZ zz i (k + 1) := by
  unfold seenZ
  rw [List.append_assoc]
  congr 1
  rw [List.take_succ_eq_append_getElem hk]
  simp [List.getD, hk]
theorem preZ_pre (zz : List (List Int)) (i : Nat) : preZ zz i <+: zz.flatten := by
  refine ⟨(zz.drop i).flatten, ?_⟩
  unfold preZ
  rw [← List.flatten_append, List.take_append_drop]
theorem seenZ_pre (zz : List (List Int)) (i k : Nat) (h : i < zz.length) : seenZ zz i k <+: zz.flatten := by
  refine List.IsPrefix.trans ?_ (preZ_pre zz (i + 1))
  rw [preZ_succ zz i h]
  exact ⟨(rowZ zz i).drop k, by unfold seenZ; rw [List.append_assoc, List.take_append_drop]⟩
theorem flat_total (zz : List (List Int)) : zz.flatten.length = total zz := by unfold total; rw [List.length_flatten]
theorem rowZ_mem (zz : List (List Int)) (i k : Nat) (h : i < zz.length) (hk : k < (rowZ zz i).length) : (rowZ zz i).getD k 0 ∈ zz.flatten := by
  have h1 := seenZ_next zz i k hk
  have h2 := seenZ_pre zz i (k + 1) h
  exact h2.subset (by rw [← h1]; simp)
/-- Where one number is seen before, or is out of range, they are none. -/
theorem GF.bad_elem {d : Bool} {zz : List (List Int)} (i k : Nat) (h : i < zz.length) (hk : k < (rowZ zz i).length) (hb : (rowZ zz i).getD k 0 ∈ seenZ zz i k ∨ ¬ (0 ≤ (rowZ zz i).getD k 0 ∧ (rowZ zz i).getD k 0 ≤ (total zz : Int) - 1)) : ¬ GF d zz := by
  intro g
  rcases hb with hb | hb
  · have h1 := (seenZ_pre zz i (k + 1) h).sublist.nodup g.nd
    rw [← seenZ_next zz i k hk, List.nodup_append] at h1
    exact h1.2.2 _ hb _ (by simp) rfl
  · have := g.wi _ (rowZ_mem zz i k h hk)
    omega
theorem sizes_pos {zz : List (List Int)} (ne : ∀ i, i < zz.length → 1 ≤ (rowZ zz i).length) : zz.length ≤ total zz := by
  induction zz with
  | nil => simp [total]
  | cons r zz ih =>
    rw [total_cons, List.length_cons]
    have h1 := ne 0 (by simp)
    have h2 := ih (fun i hi => by
      have := ne (i + 1) (by simp; omega)
      simpa [rowZ] using this)
    have h3 : rowZ (r :: zz) 0 = r := rfl
    rw [h3] at h1
    omega
theorem total_row (zz : List (List Int)) (i : Nat) (h : i < zz.length) : (rowZ zz i).length ≤ total zz := by
  rw [rowZ_eq zz i h]
  exact total_le zz _ (List.getElem_mem h)
/-- The sum of the sizes of the first rows. -/
def sizeZ (zz : List (List Int)) (i : Nat) : Nat := (preZ zz i).length
theorem sizeZ_next (zz : List (List Int)) (i : Nat) (h : i < zz.length) : sizeZ zz (i + 1) = sizeZ zz i + (rowZ zz i).length := by
  unfold sizeZ
  rw [preZ_succ zz i h, List.length_append]
theorem sizeZ_full (zz : List (List Int)) : sizeZ zz zz.length = total zz := by unfold sizeZ; rw [preZ_full, flat_total]
theorem sizeZ_le (zz : List (List Int)) (i : Nat) : sizeZ zz i ≤ total zz := by
  rw [← flat_total]
  exact (preZ_pre zz i).length_le
end Go.Proofs.Ytddmommamcgelab
