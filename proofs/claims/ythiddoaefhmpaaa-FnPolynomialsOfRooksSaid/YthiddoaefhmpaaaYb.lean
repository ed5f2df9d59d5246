/- Helpers of the laws that draw: lists compared, added up; numbers drawn. No condition but the sizes. -/
import Derived.Test.YthiddoaefhmpaaaYa
import Derived.Test.YthiddoaefhmpaaaB
import Derived.Test.YthiddoaefhmpaaaOpen
import Derived.Test.YthiddoaefhmpaaaHs
import Derived.Laws.OwnMore
namespace Go.Proofs.Ythiddoaefhmpaaa
open Go.RowKit Go.WideShapes Go.ChangeShapes Go.ChangeAt Go.Joins



/-- A sum, as it is reckoned. -/
def ksm (zs : List Int) : Nat → Int
  | 0 => 0
  | k + 1 => wrap64 (ksm zs k + zs.getD k 0)


/-- What a call answers that draws a number. -/
def AnsD (w : World) (e : Ending) (w' : World) : Prop := ∃ x : Int, e = .returned (.int .i64 x) ∧ Below w.heap.size w w'
def AnsDD (w : World) (e : Ending) (w' : World) : Prop := ∃ x y : Int, e = .returned (.tuple #[.int .i64 x, .int .i64 y]) ∧ Below w.heap.size w w'
theorem ReadsY.fresh {w : World} {a : Option Addr} {n : Nat} (h : ReadsY w a n) : ∀ b off, 0 < n → a = some ⟨b, off, none⟩ → b < w.heap.size := by
  intro b off h0 e
  rcases h with h | ⟨b', off', e', hlt, _⟩
  · omega
  · rw [e] at e'
    injection e' with e'
    injection e' with e'
    omega
theorem below_of_chg {w0 w w' : World} {bc : Nat} (h : Below w0.heap.size w0 w) (hc : Chg (fun k => k = bc) w w') (hb : w0.heap.size ≤ bc) : Below w0.heap.size w0 w' :=
  ⟨hc.os.trans h.os, hc.tape.trans h.tape, hc.output.trans h.output, Nat.le_trans h.size hc.size, fun k hk => (hc.block k (Nat.lt_of_lt_of_le hk h.size) (by omega)).trans (h.block k hk)⟩







theorem readsY_of {H : Type} {enc : TypeId × Value → H} {W : World} {a0 : Option Addr} {len cap fuel : Nat} {x : DataW H × List MemPlace}
    (hc1 : Try.prog.cellsOf 5 = 1) (hf : DataW.trod enc Try.prog W 0 (fun _ => true) true fuel 22 [.slice a0 len cap] = some x) : len ≤ 9223372036854775807 ∧ ReadsY W a0 len := by
  rcases open_ints Try.underlying22 Try.underlying5 hc1 hf with ⟨hcs, hx⟩ | ⟨a, len', cap', zs, hcs, _, hl, hm, hz, hx, hcell, hwz⟩
  · simp at hcs
    obtain ⟨rfl, rfl, rfl⟩ := hcs
    exact ⟨by omega, .inl rfl⟩
  · simp at hcs
    obtain ⟨rfl, rfl, rfl⟩ := hcs
    simp only [if_true] at hz
    unfold maxLen at hm
    refine ⟨by omega, ?_⟩
    by_cases h0 : len = 0
    · exact .inl h0
    · obtain ⟨b, off, spot⟩ := a
      have hspot : spot = none := by simpa [Addr.add] using World.cell?_spot (hcell 0 (by omega))
      subst hspot
      refine .inr ⟨b, off, rfl, World.block_lt_of_cell? _ _ (by have := hcell 0 (by omega); simpa [Addr.add] using this), fun j hj => ?_⟩
      have hcj := hcell j (by omega)
      rw [add_plain] at hcj
      have hb := range_u8 hwz j
      exact ⟨_, hcj, by rw [List.getD_eq_getElem?_getD]; exact hb.1, by rw [List.getD_eq_getElem?_getD]; omega⟩
end Go.Proofs.Ythiddoaefhmpaaa
