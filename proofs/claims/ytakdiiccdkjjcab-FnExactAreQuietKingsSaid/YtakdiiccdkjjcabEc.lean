/- A board turned for a colour, in the program. No condition but the sizes. -/
import Derived.Test.YtakdiiccdkjjcabEa
import Derived.Test.YtakdiiccdkjjcabT3
import Derived.Deep.RegionWith
import Derived.Deep.RegionHeld3
import Derived.IntWalk
namespace Go.Proofs.Ytakdiiccdkjjcab
open Go.RowKit Go.WideShapes

/-- A turned board as a value, and its block. -/
abbrev tv (r c : Int) (m : Nat → Int) (k : Int) : Value := .agg #[.int .i64 r, .int .i64 c, .int .i64 (m 0), .int .i64 (m 1), .int .i64 (m 2), .int .i64 (m 3), .int .i64 (m 4), .int .i64 (m 5), .int .i64 k]
def tl9 (r c : Int) (m : Nat → Int) (k : Int) : List Value := [.int .i64 r, .int .i64 c, .int .i64 (m 0), .int .i64 (m 1), .int .i64 (m 2), .int .i64 (m 3), .int .i64 (m 4), .int .i64 (m 5), .int .i64 k]
theorem Has.nine {w : World} {b : Nat} {v0 v1 v2 v3 v4 v5 v6 v7 v8 : Value} {t : TypeId} (h : Has w b [v0, v1, v2, v3, v4, v5, v6, v7, v8] t) :
    w.cell? ⟨b, 0, none⟩ = some v0 ∧ w.cell? ⟨b, 1, none⟩ = some v1 ∧ w.cell? ⟨b, 2, none⟩ = some v2 ∧ w.cell? ⟨b, 3, none⟩ = some v3 ∧ w.cell? ⟨b, 4, none⟩ = some v4 ∧ w.cell? ⟨b, 5, none⟩ = some v5 ∧ w.cell? ⟨b, 6, none⟩ = some v6 ∧ w.cell? ⟨b, 7, none⟩ = some v7 ∧ w.cell? ⟨b, 8, none⟩ = some v8 ∧ ∀ o, w.frozen? ⟨b, o, none⟩ = false :=
  ⟨h.cell 0, h.cell 1, h.cell 2, h.cell 3, h.cell 4, h.cell 5, h.cell 6, h.cell 7, h.cell 8, h.free⟩

set_option maxRecDepth 100000 in
theorem pl_bd (m k i j : Nat) (hm : m ≤ 6) (hk : k < 2) (hi : i < 6) (hj : j < 6) : (-20 ≤ plR m k i j ∧ plR m k i j ≤ 20) ∧ (-20 ≤ plC m k i j ∧ plC m k i j ≤ 20) := by
  have key : ∀ m : Fin 7, ∀ k : Fin 2, ∀ i j : Fin 6, (-20 ≤ plR m k i j ∧ plR m k i j ≤ 20) ∧ (-20 ≤ plC m k i j ∧ plC m k i j ≤ 20) := by decide +kernel
  exact key ⟨m, by omega⟩ ⟨k, hk⟩ ⟨i, hi⟩ ⟨j, hj⟩
theorem Has.farS {w : World} {b : Nat} {cs : List Value} {t : TypeId} (h : Has w b cs t) (g o : Nat) (v : Value) (hg : b ≠ g) : Has (w.setCell ⟨g, o, none⟩ v) b cs t :=
  (Below.heap_setCell w ⟨g, o, none⟩ v b hg).trans h
theorem Chg.ofS {foot : Nat → Prop} (w : World) (b o : Nat) (v : Value) (hf : foot b) : Chg foot w (w.setCell ⟨b, o, none⟩ v) :=
  ⟨rfl, rfl, rfl, by simp [World.setCell], fun k _ hk => Below.heap_setCell w ⟨b, o, none⟩ v k (fun e => hk (by rw [show k = b from e]; exact hf))⟩
theorem Has.put8 {w : World} {b : Nat} {v0 v1 v2 v3 v4 v5 v6 v7 : Value} {t : TypeId} (h : Has w b [v0, v1, v2, v3, v4, v5, v6, v7] t) (n m : Int) (F : Nat → Int) : Has ((((((((w.setCell ⟨b, 0, none⟩ (.int .i64 n)).setCell ⟨b, 1, none⟩ (.int .i64 m)).setCell ⟨b, 2, none⟩ (.int .i64 (F 0))).setCell ⟨b, 3, none⟩ (.int .i64 (F 1))).setCell ⟨b, 4, none⟩ (.int .i64 (F 2))).setCell ⟨b, 5, none⟩ (.int .i64 (F 3))).setCell ⟨b, 6, none⟩ (.int .i64 (F 4))).setCell ⟨b, 7, none⟩ (.int .i64 (F 5))) b (gl n m F) t :=
  (((((((h.set 0 _).set 1 _).set 2 _).set 3 _).set 4 _).set 5 _).set 6 _).set 7 _
theorem Has.far8 {w : World} {b k : Nat} {cs : List Value} {t : TypeId} (h : Has w k cs t) (n m : Int) (F : Nat → Int) (hk : k ≠ b) : Has ((((((((w.setCell ⟨b, 0, none⟩ (.int .i64 n)).setCell ⟨b, 1, none⟩ (.int .i64 m)).setCell ⟨b, 2, none⟩ (.int .i64 (F 0))).setCell ⟨b, 3, none⟩ (.int .i64 (F 1))).setCell ⟨b, 4, none⟩ (.int .i64 (F 2))).setCell ⟨b, 5, none⟩ (.int .i64 (F 3))).setCell ⟨b, 6, none⟩ (.int .i64 (F 4))).setCell ⟨b, 7, none⟩ (.int .i64 (F 5))) k cs t :=
  (((((((h.farS b 0 _ hk).farS b 1 _ hk).farS b 2 _ hk).farS b 3 _ hk).farS b 4 _ hk).farS b 5 _ hk).farS b 6 _ hk).farS b 7 _ hk
theorem Chg.put8 {foot : Nat → Prop} (w : World) (b : Nat) (n m : Int) (F : Nat → Int) (hf : foot b) : Chg foot w ((((((((w.setCell ⟨b, 0, none⟩ (.int .i64 n)).setCell ⟨b, 1, none⟩ (.int .i64 m)).setCell ⟨b, 2, none⟩ (.int .i64 (F 0))).setCell ⟨b, 3, none⟩ (.int .i64 (F 1))).setCell ⟨b, 4, none⟩ (.int .i64 (F 2))).setCell ⟨b, 5, none⟩ (.int .i64 (F 3))).setCell ⟨b, 6, none⟩ (.int .i64 (F 4))).setCell ⟨b, 7, none⟩ (.int .i64 (F 5))) :=
  (((((((Chg.ofS w b 0 _ hf).trans (Chg.ofS _ b 1 _ hf)).trans (Chg.ofS _ b 2 _ hf)).trans (Chg.ofS _ b 3 _ hf)).trans (Chg.ofS _ b 4 _ hf)).trans (Chg.ofS _ b 5 _ hf)).trans (Chg.ofS _ b 6 _ hf)).trans (Chg.ofS _ b 7 _ hf)

theorem Has.put9 {w : World} {b : Nat} {v0 v1 v2 v3 v4 v5 v6 v7 v8 : Value} {t : TypeId} (h : Has w b [v0, v1, v2, v3, v4, v5, v6, v7, v8] t) (n m : Int) (F : Nat → Int) (k : Int) : Has (((((((((w.setCell ⟨b, 0, none⟩ (.int .i64 n)).setCell ⟨b, 1, none⟩ (.int .i64 m)).setCell ⟨b, 2, none⟩ (.int .i64 (F 0))).setCell ⟨b, 3, none⟩ (.int .i64 (F 1))).setCell ⟨b, 4, none⟩ (.int .i64 (F 2))).setCell ⟨b, 5, none⟩ (.int .i64 (F 3))).setCell ⟨b, 6, none⟩ (.int .i64 (F 4))).setCell ⟨b, 7, none⟩ (.int .i64 (F 5))).setCell ⟨b, 8, none⟩ (.int .i64 k)) b (tl9 n m F k) t :=
  (((((((((h.set 0 _).set 1 _).set 2 _).set 3 _).set 4 _).set 5 _).set 6 _).set 7 _).set 8 _)
theorem Has.far9 {w : World} {b q : Nat} {cs : List Value} {t : TypeId} (h : Has w q cs t) (n m : Int) (F : Nat → Int) (k : Int) (hk : q ≠ b) : Has (((((((((w.setCell ⟨b, 0, none⟩ (.int .i64 n)).setCell ⟨b, 1, none⟩ (.int .i64 m)).setCell ⟨b, 2, none⟩ (.int .i64 (F 0))).setCell ⟨b, 3, none⟩ (.int .i64 (F 1))).setCell ⟨b, 4, none⟩ (.int .i64 (F 2))).setCell ⟨b, 5, none⟩ (.int .i64 (F 3))).setCell ⟨b, 6, none⟩ (.int .i64 (F 4))).setCell ⟨b, 7, none⟩ (.int .i64 (F 5))).setCell ⟨b, 8, none⟩ (.int .i64 k)) q cs t :=
  (((((((((h.farS b 0 _ hk).farS b 1 _ hk).farS b 2 _ hk).farS b 3 _ hk).farS b 4 _ hk).farS b 5 _ hk).farS b 6 _ hk).farS b 7 _ hk).farS b 8 _ hk)
theorem nine_held {W : World} {b : Nat} {n m : Int} {M : Nat → Int} {k : Int} {t : TypeId} (h : Has W b (tl9 n m M k) t) :
    W.cell? ⟨b, 0, none⟩ = some (.int .i64 n) ∧ W.cell? ⟨b, 1, none⟩ = some (.int .i64 m) ∧ W.cell? ⟨b, 2, none⟩ = some (.int .i64 (M 0)) ∧ W.cell? ⟨b, 3, none⟩ = some (.int .i64 (M 1)) ∧ W.cell? ⟨b, 4, none⟩ = some (.int .i64 (M 2)) ∧ W.cell? ⟨b, 5, none⟩ = some (.int .i64 (M 3)) ∧ W.cell? ⟨b, 6, none⟩ = some (.int .i64 (M 4)) ∧ W.cell? ⟨b, 7, none⟩ = some (.int .i64 (M 5)) ∧ W.cell? ⟨b, 8, none⟩ = some (.int .i64 k) :=
  ⟨h.cell 0, h.cell 1, h.cell 2, h.cell 3, h.cell 4, h.cell 5, h.cell 6, h.cell 7, h.cell 8⟩
theorem ret_int9 {x y : Int} (h : x = y) : Ending.returned (.int .i64 x) = Ending.returned (.int .i64 y) := by rw [h]

theorem ret_two {a b x y : Int} (h : a = x) (k : b = y) : Ending.returned (.tuple #[.int .i64 a, .int .i64 b]) = Ending.returned (.tuple #[.int .i64 x, .int .i64 y]) := by rw [h, k]


end Go.Proofs.Ytakdiiccdkjjcab
