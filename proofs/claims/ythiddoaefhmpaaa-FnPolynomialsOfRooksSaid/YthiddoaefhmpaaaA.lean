/- The law's helpers on slices of ints: sizes, copies, marks. No condition but the sizes. -/
import Derived.Test.YthiddoaefhmpaaaBase
namespace Go.Proofs.Ythiddoaefhmpaaa
open Go.RowKit

def szN (left : Int) (len : Nat) : Int := if left - len < 0 then -1 else left - len

theorem own_store {w : World} {lo g n cap : Nat} {xs : List Int} (h : Own w lo (.slice (some ⟨g, 0, none⟩) n cap) xs) (hn : xs.length = n) (j : Nat) (x : Int) :
    Own (w.setCell ⟨g, j, none⟩ (.int .i64 x)) lo (.slice (some ⟨g, 0, none⟩) n cap) (xs.set j x) := by
  subst hn
  have := (World.ownsRow.stored h j (.int .i64 x)).1
  unfold Own
  rw [List.map_set, List.length_set]
  exact this

/-- The numbers that a copying loop holds behind k rounds. -/
def part (zs : List Int) (n k : Nat) : List Int := zs.take k ++ List.replicate (n - k) 0
theorem part_len (zs : List Int) (n k : Nat) (hk : k ≤ n) (hz : n ≤ zs.length) : (part zs n k).length = n := by simp [part]; omega
theorem part_zero (zs : List Int) (n : Nat) : part zs n 0 = List.replicate n 0 := by simp [part]
theorem part_full (zs : List Int) (n : Nat) : part zs n n = zs.take n := by simp [part]
theorem part_step (zs : List Int) (n k : Nat) (hk : k < n) (hz : n ≤ zs.length) : (part zs n k).set k (zs.getD k 0) = part zs n (k + 1) := by
  unfold part
  have e : n - k = (n - (k + 1)) + 1 := by omega
  have l : (zs.take k).length = k := by simp; omega
  rw [List.set_append, if_neg (by omega), l, Nat.sub_self, e, List.replicate_succ, List.set_cons_zero, List.take_succ_eq_append_getElem (by omega : k < zs.length), List.append_assoc]
  simp [List.getD, show k < zs.length by omega]

theorem own_fresh {w : World} {lo n : Nat} {v : Value} (h : w.ownsRow lo 3 1 v n (madeCells #[Value.int .i64 0] n).toList) : Own w lo v (List.replicate n 0) := by
  unfold Own
  have e : (madeCells #[Value.int .i64 0] n).toList = (List.replicate n (0 : Int)).map (Value.int .i64) := by
    rw [toList_madeCells_one, List.map_replicate]
  rw [e] at h
  simpa using h

/-- What a slice of ints that came in reads as. -/
def Reads (w : World) (a : Option Addr) (len : Nat) (zs : List Int) : Prop :=
  len = zs.length ∧ (len = 0 ∨ ∃ b off, a = some ⟨b, off, none⟩ ∧ b < w.heap.size ∧ ∀ j, j < len → w.cell? ⟨b, off + j, none⟩ = some (.int .i64 (zs.getD j 0)))

theorem Reads.kept {w w' : World} {a : Option Addr} {len : Nat} {zs : List Int} (h : Reads w a len zs) (hb : Below w.heap.size w w') : Reads w' a len zs := by
  obtain ⟨h1, h2⟩ := h
  refine ⟨h1, ?_⟩
  rcases h2 with h2 | ⟨b, off, ha, hlt, hc⟩
  · exact .inl h2
  · exact .inr ⟨b, off, ha, Nat.lt_of_lt_of_le hlt hb.size, fun j hj => (hb.cell (p := ⟨b, off + j, none⟩) hlt).trans (hc j hj)⟩

/-- Equal lists, told by a loop. -/
theorem eq_upto_succ (xs ys : List Int) (k : Nat) (hx : k < xs.length) (hy : k < ys.length) (h : xs.take k = ys.take k) (he : xs.getD k 0 = ys.getD k 0) : xs.take (k + 1) = ys.take (k + 1) := by
  rw [List.take_succ_eq_append_getElem hx, List.take_succ_eq_append_getElem hy, h]
  simp [List.getD, hx, hy] at he
  rw [he]

theorem Own.reads {w : World} {lo : Nat} {v : Value} {xs : List Int} (h : Own w lo v xs) : ∃ a cap, v = .slice a xs.length cap ∧ Reads w a xs.length xs := by
  rcases h.cases with ⟨rfl, rfl⟩ | ⟨g, cap, rfl, h1, h2, h3, h4⟩
  · exact ⟨none, 0, rfl, rfl, .inl rfl⟩
  · exact ⟨_, cap, rfl, rfl, .inr ⟨g, 0, rfl, h2, fun j hj => by rw [Nat.zero_add]; exact h.cell j hj⟩⟩

theorem reads_row {w : World} {a : Option Addr} {len : Nat} {zs : List Int} (h : Reads w a len zs) (h0 : 0 < len) :
    ∃ b off, a = some ⟨b, off, none⟩ ∧ b < w.heap.size ∧ ∀ j, j < len → w.cell? ⟨b, off + j, none⟩ = some (.int .i64 (zs.getD j 0)) := by
  rcases h.2 with h | h
  · omega
  · exact h

/-- The world moved on by draws alone. -/
def Drawn (w w' : World) : Prop := ∃ n, w' = w.drewN n
theorem drawn2 (w : World) (n m : Nat) : Drawn w ((w.drewN n).drewN m) := ⟨n + m, by rw [World.drewN_drewN]⟩
theorem Drawn.below {w w' : World} (h : Drawn w w') : Below w.heap.size w w' := by
  obtain ⟨n, rfl⟩ := h
  exact below_drewN (Below.refl _ _) n
theorem Drawn.refl (w : World) : Drawn w w := ⟨0, rfl⟩

/-- The numbers that a mark writes: k, k + 1, .. -/
def run (k : Int) (n : Nat) : List Int := (List.range n).map (fun (i : Nat) => k + (i : Int))
theorem run_len (k : Int) (n : Nat) : (run k n).length = n := by simp [run]
theorem run_get (k : Int) (n j : Nat) (h : j < n) : (run k n).getD j 0 = k + j := by simp [run, List.getD, h]
/-- Behind k rounds of marking. -/
def marked (xs : List Int) (m : Int) (k : Nat) : List Int := run m k ++ xs.drop k
theorem marked_zero (xs : List Int) (m : Int) : marked xs m 0 = xs := by simp [marked, run]
theorem marked_full (xs : List Int) (m : Int) : marked xs m xs.length = run m xs.length := by simp [marked]
theorem marked_len (xs : List Int) (m : Int) (k : Nat) (h : k ≤ xs.length) : (marked xs m k).length = xs.length := by simp [marked, run_len]; omega
theorem run_succ (m : Int) (k : Nat) : run m (k + 1) = run m k ++ [m + k] := by simp [run, List.range_succ]
theorem marked_step (xs : List Int) (m : Int) (k : Nat) (h : k < xs.length) : (marked xs m k).set k (m + k) = marked xs m (k + 1) := by
  unfold marked
  rw [List.set_append, if_neg (by rw [run_len]; omega), run_len, Nat.sub_self, List.drop_eq_getElem_cons h, List.set_cons_zero, run_succ, List.append_assoc]
  rfl

/-- A world in which, of the blocks that were there, g alone may have turned. -/
def Only (g : Nat) (w w' : World) : Prop := w.grownBy w' (some g)
theorem grownBy_trans {w w1 w2 : World} {row : Option Nat} (h : w.grownBy w1 row) (k : w1.grownBy w2 row) : w.grownBy w2 row :=
  ⟨k.os.trans h.os, k.tape.trans h.tape, k.output.trans h.output, Nat.le_trans h.size k.size, fun i hi hr => (k.block i (Nat.lt_of_lt_of_le hi h.size) hr).trans (h.block i hi hr)⟩

end Go.Proofs.Ythiddoaefhmpaaa
