/- Lists cut at a number of things, and placements told by six numbers: the plain part of roAll and RankPlacement. No condition. -/
import Derived.Test.YtcacechmgdfckaaWh
namespace Go.Proofs.Ytcacechmgdfckaa
open Go.RowKit

theorem take_app {α : Type} (L A : List α) (n : Nat) (h : (L.take n).length < n) : L.take n ++ A.take (n - (L.take n).length) = (L ++ A).take n := by
  have hl : L.length < n := by rw [List.length_take] at h; omega
  have e : L.take n = L := List.take_of_length_le (by omega)
  rw [e, List.take_append, e]
theorem take_full {α : Type} (L A : List α) (n : Nat) (h : n ≤ (L.take n).length) : (L ++ A).take n = L.take n := by
  have hl : n ≤ L.length := by rw [List.length_take] at h; omega
  exact List.take_append_of_le_length hl

/-- What roAll answers: the placements that go on a list, cut at a number. -/
def allL (m : Nat) (B : Nat → Nat → Bool) (d f t k : Nat) (P : List Int) (most : Nat) : List (List Int) := ((pl m B d f t k).map (fun Q => P ++ Q)).take most
/-- .. before the c-th column. -/
def allC (m : Nat) (B : Nat → Nat → Bool) (d f t k : Nat) (P : List Int) (most c : Nat) : List (List Int) := ((plc m B d f t k c).map (fun Q => P ++ Q)).take most
theorem allL_none (m : Nat) (B : Nat → Nat → Bool) (d f t k : Nat) (P : List Int) (most : Nat) (h : d < k) : allL m B d f t k P most = [] := by
  unfold allL
  rw [pl_none m B d f t k h]
  simp
theorem allL_leaf (m : Nat) (B : Nat → Nat → Bool) (f t : Nat) (P : List Int) (most : Nat) (h : 0 < most) : allL m B 0 f t 0 P most = [P] := by
  unfold allL
  rw [pl, if_pos rfl]
  obtain ⟨n, rfl⟩ : ∃ n, most = n + 1 := ⟨most - 1, by omega⟩
  simp
theorem allC_first (m : Nat) (B : Nat → Nat → Bool) (d f t k : Nat) (P : List Int) (most : Nat) : allC m B d f t k P most 0 = allL m B d (f + 1) t k (P ++ [-1]) most := by
  unfold allC allL
  rw [plc_zero, map_snoc]
theorem allC_next (m : Nat) (B : Nat → Nat → Bool) (d f t k : Nat) (P : List Int) (most c : Nat) (hk : 0 < k) (hB : B f c = true) (ht : t.testBit c = false) (h : (allC m B d f t k P most c).length < most) :
    allC m B d f t k P most (c + 1) = allC m B d f t k P most c ++ allL m B d (f + 1) (t ||| 2 ^ c) (k - 1) (P ++ [(c : Int)]) (most - (allC m B d f t k P most c).length) := by
  unfold allC at h ⊢
  unfold allL
  rw [plc_succ, blk_yes m B d f t k c hk hB ht, List.map_append, map_snoc, take_app _ _ _ h]
theorem allC_skip (m : Nat) (B : Nat → Nat → Bool) (d f t k : Nat) (P : List Int) (most c : Nat) (h : k = 0 ∨ B f c = false ∨ t.testBit c = true) : allC m B d f t k P most (c + 1) = allC m B d f t k P most c := by
  unfold allC
  rw [plc_succ, blk_no m B d f t k c h, List.append_nil]
/-- Full before the last column: no more comes. -/
theorem allC_full (m : Nat) (B : Nat → Nat → Bool) (d f t k : Nat) (P : List Int) (most c e : Nat) (hc : c ≤ e) (h : most ≤ (allC m B d f t k P most c).length) : allC m B d f t k P most e = allC m B d f t k P most c := by
  obtain ⟨tl, ht⟩ := plc_split m B d f t k c e hc
  unfold allC at h ⊢
  rw [ht, List.map_append]
  exact take_full _ _ _ h
theorem allC_last (m : Nat) (B : Nat → Nat → Bool) (d f t k : Nat) (P : List Int) (most : Nat) : allC m B d f t k P most m = allL m B (d + 1) f t k P most := by
  unfold allC allL
  rw [plc_full]
theorem allL_all (m : Nat) (B : Nat → Nat → Bool) (d k most : Nat) (h : wR m B d 0 0 k ≤ most) : allL m B d 0 0 k [] most = pl m B d 0 0 k := by
  unfold allL
  simp only [List.nil_append, List.map_id']
  exact List.take_of_length_le (by rw [pl_len]; exact h)

/-- Six numbers tell a list of so many rows. -/
theorem eq6_same (P Q : List Int) (n : Nat) (hn : n ≤ 6) (hp : P.length = n) (hq : Q.length = n) : eq6 (plF Q n) (plF P n) = (Q == P) := by
  rw [Bool.eq_iff_iff, beq_iff_eq]
  constructor
  · intro h
    refine List.ext_getElem (by omega) (fun i h1 h2 => ?_)
    have := List.all_eq_true.1 h i (List.mem_range.2 (by omega))
    rw [beq_iff_eq] at this
    unfold plF at this
    rw [if_pos (by omega), if_pos (by omega)] at this
    simpa [List.getD_eq_getElem?_getD, h1, h2] using this
  · rintro rfl
    exact List.all_eq_true.2 (fun i _ => by rw [beq_iff_eq])
theorem findIdx_same (L : List (List Int)) (P : List Int) (n : Nat) (hn : n ≤ 6) (hp : P.length = n) (hL : ∀ Q ∈ L, Q.length = n) : L.findIdx (fun Q => eq6 (plF Q n) (plF P n)) = L.findIdx (fun Q => Q == P) := by
  induction L with
  | nil => rfl
  | cons Q L ih =>
    rw [List.findIdx_cons, List.findIdx_cons, eq6_same P Q n hn hp (hL Q (by simp)), ih (fun R hR => hL R (by simp [hR]))]

end Go.Proofs.Ytcacechmgdfckaa
