import Derived.Test.YtaipcmplpjkebaaRows
import Derived.WalkKit
import Derived.WalkSpells
import Derived.WalkLawsBesides
import Derived.BigQuiet
import Derived.Deep.QuietTactic
import Derived.Deep.LoopGhost
import Derived.Deep.Cut
import Derived.Deep.CutRange
import Derived.Deep.Light
import Derived.Lib.Hide
import Derived.OneCell
import Derived.Deep.OwnRows

section
namespace Go.Proofs.Ytaipcmplpjkebaa
open Go.RowKit

theorem Try.infoI : (Try.prog.info? 3).map (fun i => (i.zero, i.size, i.bytes)) = some (some (.int .i64 0), 1, 8) := by kernel_rfl

/-- v is a slice of the call's own (nil, or at the head of a row from block lo on) that holds the numbers xs. -/
def Own (w : World) (lo : Nat) (v : Value) (xs : List Int) : Prop := w.ownsRow lo 3 1 v xs.length (xs.map (Value.int .i64))

theorem Own.nil (w : World) (lo : Nat) : Own w lo (.slice none 0 0) [] := World.ownsRow_nil _ _ _ _

theorem Own.kept {w w' : World} {lo : Nat} {v : Value} {xs : List Int} (h : Own w lo v xs) (hb : Below w.heap.size w w') : Own w' lo v xs := by
  refine World.ownsRow.kept h (row := none) ⟨hb.os, hb.tape, hb.output, hb.size, fun k hk _ => hb.block k hk⟩ ?_
  cases v.ownBlock <;> simp

theorem Own.lower {w : World} {lo lo' : Nat} {v : Value} {xs : List Int} (h : Own w lo v xs) (hl : lo' ≤ lo) : Own w lo' v xs := by
  refine ⟨h.1, ?_⟩
  rcases h.2 with h | ⟨g, cap, cur, e, hb, r⟩
  · exact .inl h
  · exact .inr ⟨g, cap, cur, e, by omega, r⟩

theorem Own.set {w : World} {lo : Nat} {v : Value} {xs : List Int} (h : Own w lo v xs) {a : Addr} (ha : a.block < lo) (u : Value) : Own (w.setCell a u) lo v xs :=
  ownsRow_setCell_below h ha u

theorem Own.off {w : World} {lo : Nat} {v : Value} {xs : List Int} (h : Own w lo v xs) {a : Addr} (ha : v.ownBlock ≠ some a.block) (u : Value) : Own (w.setCell a u) lo v xs := by
  refine ⟨h.1, ?_⟩
  rcases h.2 with h2 | ⟨g, cap, cur, hv, hg, hh, r⟩
  · exact .inl h2
  · refine .inr ⟨g, cap, cur, hv, hg, ?_, r⟩
    rw [Below.heap_setCell _ _ _ _ (fun e => ha (by rw [hv, ← e]; rfl))]
    exact hh

/-- The two forms in which a walk meets it. -/
theorem Own.cases {w : World} {lo : Nat} {v : Value} {xs : List Int} (h : Own w lo v xs) :
    (v = .slice none 0 0 ∧ xs = []) ∨ ∃ g cap, v = .slice (some ⟨g, 0, none⟩) xs.length cap ∧ lo ≤ g ∧ g < w.heap.size ∧ xs.length ≤ cap ∧ cap ≤ maxLen := by
  rcases h.2 with ⟨h1, h2⟩ | ⟨g, cap, cur, e, hb, hh, hn, hc, r⟩
  · exact .inl ⟨h1, by simpa using h2⟩
  · exact .inr ⟨g, cap, e, hb, (Array.getElem?_eq_some_iff.1 hh).1, hn, hc⟩

theorem Own.cell {w : World} {lo g cap : Nat} {xs : List Int} (h : Own w lo (.slice (some ⟨g, 0, none⟩) xs.length cap) xs) (j : Nat) (hj : j < xs.length) :
    w.cell? ⟨g, j, none⟩ = some (.int .i64 (xs.getD j 0)) := by
  rw [World.ownsRow.cellAt h j (by omega)]
  simp [List.getD, hj]

theorem Own.free {w : World} {lo g cap : Nat} {xs : List Int} (h : Own w lo (.slice (some ⟨g, 0, none⟩) xs.length cap) xs) (j : Nat) : w.frozen? ⟨g, j, none⟩ = false :=
  World.ownsRow.frozenAt h j

theorem bcell {W w1 : World} (hb : Below W.heap.size W w1) : (∀ b o, b < W.heap.size → w1.cell? ⟨b, o, none⟩ = W.cell? ⟨b, o, none⟩) ∧ (∀ b o, b < W.heap.size → w1.frozen? ⟨b, o, none⟩ = W.frozen? ⟨b, o, none⟩) :=
  ⟨fun b o h => hb.cell (p := ⟨b, o, none⟩) h, fun b o h => hb.frozen (p := ⟨b, o, none⟩) h⟩

theorem ret_bool {a b : Bool} (h : a = b) : Ending.returned (.bool a) = .returned (.bool b) := by rw [h]
theorem ret_int {k : IntKind} {a b : Int} (h : a = b) : Ending.returned (.int k a) = .returned (.int k b) := by rw [h]

end Go.Proofs.Ytaipcmplpjkebaa
end

section
namespace Go.Proofs.Ytaipcmplpjkebaa
open Go.RowKit

def szN (left : Int) (len : Nat) : Int := if left - len < 0 then -1 else left - len

theorem own_store {w : World} {lo g n cap : Nat} {xs : List Int} (h : Own w lo (.slice (some ⟨g, 0, none⟩) n cap) xs) (hn : xs.length = n) (j : Nat) (x : Int) :
    Own (w.setCell ⟨g, j, none⟩ (.int .i64 x)) lo (.slice (some ⟨g, 0, none⟩) n cap) (xs.set j x) := by
  subst hn
  have := (World.ownsRow.stored h j (.int .i64 x)).1
  unfold Own
  rw [List.map_set, List.length_set]
  exact this

/-- The numbers that a copying loop holds behind k rounds. -/
def part (zs : List Int) (n k : Nat) : List Int := zs.take k ++ List.replicate (n - k) 0
theorem part_len (zs : List Int) (n k : Nat) (hk : k ≤ n) (hz : n ≤ zs.length) : (part zs n k).length = n := by simp [part]; omega
theorem part_zero (zs : List Int) (n : Nat) : part zs n 0 = List.replicate n 0 := by simp [part]
theorem part_full (zs : List Int) (n : Nat) : part zs n n = zs.take n := by simp [part]
theorem part_step (zs : List Int) (n k : Nat) (hk : k < n) (hz : n ≤ zs.length) : (part zs n k).set k (zs.getD k 0) = part zs n (k + 1) := by
  unfold part
  have e : n - k = (n - (k + 1)) + 1 := by omega
  have l : (zs.take k).length = k := by simp; omega
  rw [List.set_append, if_neg (by omega), l, Nat.sub_self, e, List.replicate_succ, List.set_cons_zero, List.take_succ_eq_append_getElem (by omega : k < zs.length), List.append_assoc]
  simp [List.getD, show k < zs.length by omega]

theorem own_fresh {w : World} {lo n : Nat} {v : Value} (h : w.ownsRow lo 3 1 v n (madeCells #[Value.int .i64 0] n).toList) : Own w lo v (List.replicate n 0) := by
  unfold Own
  have e : (madeCells #[Value.int .i64 0] n).toList = (List.replicate n (0 : Int)).map (Value.int .i64) := by
    rw [toList_madeCells_one, List.map_replicate]
  rw [e] at h
  simpa using h

/-- What a slice of ints that came in reads as. -/
def Reads (w : World) (a : Option Addr) (len : Nat) (zs : List Int) : Prop :=
  len = zs.length ∧ (len = 0 ∨ ∃ b off, a = some ⟨b, off, none⟩ ∧ b < w.heap.size ∧ ∀ j, j < len → w.cell? ⟨b, off + j, none⟩ = some (.int .i64 (zs.getD j 0)))

theorem Reads.kept {w w' : World} {a : Option Addr} {len : Nat} {zs : List Int} (h : Reads w a len zs) (hb : Below w.heap.size w w') : Reads w' a len zs := by
  obtain ⟨h1, h2⟩ := h
  refine ⟨h1, ?_⟩
  rcases h2 with h2 | ⟨b, off, ha, hlt, hc⟩
  · exact .inl h2
  · exact .inr ⟨b, off, ha, Nat.lt_of_lt_of_le hlt hb.size, fun j hj => (hb.cell (p := ⟨b, off + j, none⟩) hlt).trans (hc j hj)⟩

/-- Equal lists, told by a loop. -/
theorem eq_upto_succ (xs ys : List Int) (k : Nat) (hx : k < xs.length) (hy : k < ys.length) (h : xs.take k = ys.take k) (he : xs.getD k 0 = ys.getD k 0) : xs.take (k + 1) = ys.take (k + 1) := by
  rw [List.take_succ_eq_append_getElem hx, List.take_succ_eq_append_getElem hy, h]
  simp [List.getD, hx, hy] at he
  rw [he]

theorem Own.reads {w : World} {lo : Nat} {v : Value} {xs : List Int} (h : Own w lo v xs) : ∃ a cap, v = .slice a xs.length cap ∧ Reads w a xs.length xs := by
  rcases h.cases with ⟨rfl, rfl⟩ | ⟨g, cap, rfl, h1, h2, h3, h4⟩
  · exact ⟨none, 0, rfl, rfl, .inl rfl⟩
  · exact ⟨_, cap, rfl, rfl, .inr ⟨g, 0, rfl, h2, fun j hj => by rw [Nat.zero_add]; exact h.cell j hj⟩⟩

theorem reads_row {w : World} {a : Option Addr} {len : Nat} {zs : List Int} (h : Reads w a len zs) (h0 : 0 < len) :
    ∃ b off, a = some ⟨b, off, none⟩ ∧ b < w.heap.size ∧ ∀ j, j < len → w.cell? ⟨b, off + j, none⟩ = some (.int .i64 (zs.getD j 0)) := by
  rcases h.2 with h | h
  · omega
  · exact h

/-- The world moved on by draws alone. -/
def Drawn (w w' : World) : Prop := ∃ n, w' = w.drewN n
theorem drawn2 (w : World) (n m : Nat) : Drawn w ((w.drewN n).drewN m) := ⟨n + m, by rw [World.drewN_drewN]⟩
theorem Drawn.below {w w' : World} (h : Drawn w w') : Below w.heap.size w w' := by
  obtain ⟨n, rfl⟩ := h
  exact below_drewN (Below.refl _ _) n
theorem Drawn.refl (w : World) : Drawn w w := ⟨0, rfl⟩

/-- The numbers that a mark writes: k, k + 1, .. -/
def run (k : Int) (n : Nat) : List Int := (List.range n).map (fun (i : Nat) => k + (i : Int))
theorem run_len (k : Int) (n : Nat) : (run k n).length = n := by simp [run]
theorem run_get (k : Int) (n j : Nat) (h : j < n) : (run k n).getD j 0 = k + j := by simp [run, List.getD, h]
/-- Behind k rounds of marking. -/
def marked (xs : List Int) (m : Int) (k : Nat) : List Int := run m k ++ xs.drop k
theorem marked_zero (xs : List Int) (m : Int) : marked xs m 0 = xs := by simp [marked, run]
theorem marked_full (xs : List Int) (m : Int) : marked xs m xs.length = run m xs.length := by simp [marked]
theorem marked_len (xs : List Int) (m : Int) (k : Nat) (h : k ≤ xs.length) : (marked xs m k).length = xs.length := by simp [marked, run_len]; omega
theorem run_succ (m : Int) (k : Nat) : run m (k + 1) = run m k ++ [m + k] := by simp [run, List.range_succ]
theorem marked_step (xs : List Int) (m : Int) (k : Nat) (h : k < xs.length) : (marked xs m k).set k (m + k) = marked xs m (k + 1) := by
  unfold marked
  rw [List.set_append, if_neg (by rw [run_len]; omega), run_len, Nat.sub_self, List.drop_eq_getElem_cons h, List.set_cons_zero, run_succ, List.append_assoc]
  rfl

/-- A world in which, of the blocks that were there, g alone may have turned. -/
def Only (g : Nat) (w w' : World) : Prop := w.grownBy w' (some g)
theorem grownBy_trans {w w1 w2 : World} {row : Option Nat} (h : w.grownBy w1 row) (k : w1.grownBy w2 row) : w.grownBy w2 row :=
  ⟨k.os.trans h.os, k.tape.trans h.tape, k.output.trans h.output, Nat.le_trans h.size k.size, fun i hi hr => (k.block i (Nat.lt_of_lt_of_le hi h.size) hr).trans (h.block i hi hr)⟩

end Go.Proofs.Ytaipcmplpjkebaa
end

section
namespace Go.Proofs.Ytaipcmplpjkebaa
open Go.RowKit
/-- v is a board value of the call's own: its numbers and its cells. -/
def OwnB (w : World) (lo : Nat) (v : Value) (r c : Int) (xs : List Int) : Prop := ∃ s, v = .agg #[.int .i64 r, .int .i64 c, s] ∧ Own w lo s xs

end Go.Proofs.Ytaipcmplpjkebaa
end
