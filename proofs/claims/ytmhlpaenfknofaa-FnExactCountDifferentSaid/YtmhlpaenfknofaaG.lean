/- The program's grids: a board as a plain value. No condition but the sizes. -/
import Derived.Test.YtmhlpaenfknofaaT
import Derived.Deep.RegionLaw
import Derived.Laws.CopyOwn
import Derived.WideShapes
namespace Go.Proofs.Ytmhlpaenfknofaa
open Go.RowKit Go.WideShapes

theorem bit_at (x : Int) (j : Nat) (h : 0 ≤ x ∧ x < 64) (hj : j < 6) : (bits .and .i64 (x / 2 ^ j) 1 == 1) = x.toNat.testBit j := by
  obtain ⟨n, rfl⟩ := Int.eq_ofNat_of_zero_le h.1
  have hn : n < 64 := by omega
  have key : ∀ n : Fin 64, ∀ j : Fin 6, (bits .and .i64 (((n : Nat) : Int) / 2 ^ (j : Nat)) 1 == 1) = (n : Nat).testBit j := by decide +kernel
  exact key ⟨n, hn⟩ ⟨j, hj⟩

theorem grid_cells (r c : Int) (xs : List Int) (h : xs.length ≤ 6) :
    splice [.int .i64 r, .int .i64 c, .int .i64 0, .int .i64 0, .int .i64 0, .int .i64 0, .int .i64 0, .int .i64 0] 2 (xs.map (Value.int .i64)) =
      [.int .i64 r, .int .i64 c, .int .i64 (xs.getD 0 0), .int .i64 (xs.getD 1 0), .int .i64 (xs.getD 2 0), .int .i64 (xs.getD 3 0), .int .i64 (xs.getD 4 0), .int .i64 (xs.getD 5 0)] := by
  match xs, h with
  | [], _ => rfl
  | [_], _ => rfl
  | [_, _], _ => rfl
  | [_, _, _], _ => rfl
  | [_, _, _, _], _ => rfl
  | [_, _, _, _, _], _ => rfl
  | [_, _, _, _, _, _], _ => rfl
  | _ :: _ :: _ :: _ :: _ :: _ :: _ :: _, h => simp at h

theorem bcell' {B : Nat} {W w1 : World} (hb : Below B W w1) : (∀ b o, b < B → w1.cell? ⟨b, o, none⟩ = W.cell? ⟨b, o, none⟩) ∧ (∀ b o, b < B → w1.frozen? ⟨b, o, none⟩ = W.frozen? ⟨b, o, none⟩) :=
  ⟨fun b o h => hb.cell (p := ⟨b, o, none⟩) h, fun b o h => hb.frozen (p := ⟨b, o, none⟩) h⟩

/-- A grid's block. -/
def gl (n m : Int) (f : Nat → Int) : List Value := [.int .i64 n, .int .i64 m, .int .i64 (f 0), .int .i64 (f 1), .int .i64 (f 2), .int .i64 (f 3), .int .i64 (f 4), .int .i64 (f 5)]
theorem gl_get (n m : Int) (f : Nat → Int) (i : Nat) (h : i < 6) : (gl n m f)[2 + i]? = some (.int .i64 (f i)) := by
  have : i = 0 ∨ i = 1 ∨ i = 2 ∨ i = 3 ∨ i = 4 ∨ i = 5 := by omega
  rcases this with rfl | rfl | rfl | rfl | rfl | rfl <;> rfl
theorem gl_set (n m : Int) (f g : Nat → Int) (i : Nat) (h : i < 6) (x : Int) (hx : g i = x) (hg : ∀ k, k ≠ i → g k = f k) : (gl n m f).set (2 + i) (.int .i64 x) = gl n m g := by
  have : i = 0 ∨ i = 1 ∨ i = 2 ∨ i = 3 ∨ i = 4 ∨ i = 5 := by omega
  subst hx
  rcases this with rfl | rfl | rfl | rfl | rfl | rfl <;> simp [gl, hg]

end Go.Proofs.Ytmhlpaenfknofaa
