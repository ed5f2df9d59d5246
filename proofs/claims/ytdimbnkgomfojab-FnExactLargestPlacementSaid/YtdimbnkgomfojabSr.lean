/- Stores of whole rows and of single cells. No condition. -/
import Derived.Test.YtdimbnkgomfojabPc
namespace Go.Proofs.Ytdimbnkgomfojab
open Go.RowKit Go.WideShapes

theorem Has.setRow6 {w : World} {b : Nat} {G : Nat → Int} {t : TypeId} (h : Has w b (pl6 G) t) (F : Nat → Int) : Has (w.setRow b #[.int .i64 (F 0), .int .i64 (F 1), .int .i64 (F 2), .int .i64 (F 3), .int .i64 (F 4), .int .i64 (F 5)]) b (pl6 F) t :=
  setRow_heap w b _ _ t (0, 0) h
theorem Has.setRowOff {w : World} {b : Nat} {cs : List Value} {t : TypeId} (h : Has w b cs t) (g : Nat) (ds : Array Value) (hg : b ≠ g) : Has (w.setRow g ds) b cs t :=
  (setRow_other w g b ds hg).trans h
theorem Chg.setRow {foot : Nat → Prop} (w : World) (b : Nat) (ds : Array Value) (hf : foot b) : Chg foot w (w.setRow b ds) :=
  ⟨rfl, rfl, rfl, by simp, fun k _ hk => setRow_other w b k ds (fun e => hk (by rw [e]; exact hf))⟩
theorem Has.setOff {w : World} {b : Nat} {cs : List Value} {t : TypeId} (h : Has w b cs t) (g o : Nat) (v : Value) (hg : b ≠ g) : Has (w.setCell ⟨g, o, none⟩ v) b cs t :=
  (Below.heap_setCell w ⟨g, o, none⟩ v b hg).trans h
theorem Chg.of_set {foot : Nat → Prop} (w : World) (b o : Nat) (v : Value) (hf : foot b) : Chg foot w (w.setCell ⟨b, o, none⟩ v) :=
  ⟨rfl, rfl, rfl, by simp [World.setCell], fun k _ hk => Below.heap_setCell w ⟨b, o, none⟩ v k (fun e => hk (by rw [show k = b from e]; exact hf))⟩
theorem Has.one {w : World} {b : Nat} {v0 : Value} {t : TypeId} (h : Has w b [v0] t) : w.cell? ⟨b, 0, none⟩ = some v0 ∧ ∀ o, w.frozen? ⟨b, o, none⟩ = false := ⟨h.cell 0, h.free⟩

end Go.Proofs.Ytdimbnkgomfojab
