/- The state of a law over one board: what was handed in still reads as it did. No condition. -/
import Derived.Test.YtmhlpaenfknofaaC
namespace Go.Proofs.Ytmhlpaenfknofaa
open Go.RowKit

theorem below_new {w : World} (o : Obj) : Below w.heap.size w (w.alloc o) := (Below.refl _ _).alloc (Nat.le_refl _) o

theorem below_on {w0 w w' : World} (h : Below w0.heap.size w0 w) (h' : Below w.heap.size w w') : Below w0.heap.size w0 w' := h.trans (h'.mono h.size)

/-- A block of three cells. -/
structure Box (w : World) (b : Nat) (x y z : Value) : Prop where
  lt : b < w.heap.size
  c0 : w.cell? ⟨b, 0, none⟩ = some x
  c1 : w.cell? ⟨b, 1, none⟩ = some y
  c2 : w.cell? ⟨b, 2, none⟩ = some z
  fr : ∀ o, w.frozen? ⟨b, o, none⟩ = false

theorem Box.kept {w w' : World} {b : Nat} {x y z : Value} (h : Box w b x y z) (hb : Below w.heap.size w w') : Box w' b x y z :=
  ⟨Nat.lt_of_lt_of_le h.lt hb.size, (hb.cell (p := ⟨b, 0, none⟩) h.lt).trans h.c0, (hb.cell (p := ⟨b, 1, none⟩) h.lt).trans h.c1, (hb.cell (p := ⟨b, 2, none⟩) h.lt).trans h.c2, fun o => (hb.frozen (p := ⟨b, o, none⟩) h.lt).trans (h.fr o)⟩

theorem Box.new (w : World) (x y z : Value) (t : TypeId) : Box (w.alloc (.cells #[x, y, z] t)) w.heap.size x y z :=
  ⟨by simp, by rw [World.cell?_alloc_at _ _ _ _ rfl]; rfl, by rw [World.cell?_alloc_at _ _ _ _ rfl]; rfl, by rw [World.cell?_alloc_at _ _ _ _ rfl]; rfl, fun o => World.frozen?_alloc_at _ _ _ _ rfl⟩

/-- w: where the law began; the board that was handed in lies in block n. -/
structure St (w0 : World) (n : Nat) (r c : Int) (a : Option Addr) (cap : Nat) (zs : List Int) (w : World) : Prop where
  below : Below w0.heap.size w0 w
  reads : Reads w a zs.length zs
  box : Box w n (.int .i64 r) (.int .i64 c) (.slice a zs.length cap)

theorem St.kept {w0 : World} {n : Nat} {r c : Int} {a : Option Addr} {cap : Nat} {zs : List Int} {w w' : World} (h : St w0 n r c a cap zs w) (hb : Below w.heap.size w w') : St w0 n r c a cap zs w' :=
  ⟨below_on h.below hb, h.reads.kept hb, h.box.kept hb⟩

end Go.Proofs.Ytmhlpaenfknofaa
