/- LengthsFrom: its sizes, and ints that came in are numbers of 64 bits. No condition. -/
import Derived.Test.YthkghbnmdebhpabGm
import Derived.Test.YthkghbnmdebhpabM2
namespace Go.Proofs.Ythkghbnmdebhpab
open Go.ChangeShapes Go.WideShapes Go.ChangeAt Go.RowKit Go.Joins

theorem lfrR_len (fs : List Int) : (lfrR fs).ys.length ≤ 1048576 := by
  unfold lfrR
  split
  · rename_i h
    rw [Bool.and_eq_true] at h
    have h16 := inB_iff.1 h.1
    show ((clsL fs.length fs).getD 0 []).length ≤ _
    cases hc : clsL fs.length fs with
    | nil => simp
    | cons Q l =>
      have := clsL_each fs.length fs Q (by rw [hc]; simp)
      simp [List.getD]
      omega
  · simp

set_option maxRecDepth 100000 in
/-- A slice of ints that came in, and that they are numbers of 64 bits. -/
theorem reads_wf {H : Type} {enc : TypeId × Value → H} {W : World} {a0 : Option Addr} {len cap fuel : Nat} {x : DataW H × List MemPlace}
    (hf : DataW.trod enc Try.prog W 0 (fun _ => true) true fuel 22 [.slice a0 len cap] = some x) : len ≤ 9223372036854775807 ∧ ∃ zs, Reads W a0 len zs ∧ ∀ k, (Lit.int .i64 (zs.getD k 0)).wf = true := by
  have hzero : (Lit.int .i64 0).wf = true := wf_small 0 (by omega)
  rcases open_ints Try.underlying22 Try.underlying3 Try.cellsI hf with ⟨hcs, hx⟩ | ⟨a, len', cap', zs, hcs, _, hl, hm, hz, hx, hcell, hwz⟩
  · simp at hcs
    obtain ⟨rfl, rfl, rfl⟩ := hcs
    exact ⟨by omega, [], ⟨rfl, .inl rfl⟩, fun k => by simpa using hzero⟩
  · simp at hcs
    obtain ⟨rfl, rfl, rfl⟩ := hcs
    simp only [if_true] at hz
    unfold maxLen at hm
    refine ⟨by omega, zs.take len, ⟨by simp; omega, ?_⟩, fun k => ?_⟩
    · by_cases h0 : len = 0
      · exact .inl h0
      · obtain ⟨b, off, spot⟩ := a
        have hspot : spot = none := by simpa [Addr.add] using World.cell?_spot (hcell 0 (by omega))
        subst hspot
        refine .inr ⟨b, off, rfl, World.block_lt_of_cell? _ _ (by have := hcell 0 (by omega); simpa [Addr.add] using this), fun j hj => ?_⟩
        have := hcell j (by omega)
        rw [add_plain] at this
        rw [this]
        simp [List.getD, hj]
    · by_cases hk : k < (zs.take len).length
      · have hm2 : (zs.take len).getD k 0 ∈ zs := by
          have : (zs.take len)[k] ∈ zs := List.mem_of_mem_take (List.getElem_mem hk)
          rw [List.getD_eq_getElem?_getD, List.getElem?_eq_getElem hk]
          exact this
        exact hwz _ hm2
      · rw [List.getD_eq_getElem?_getD, List.getElem?_eq_none (by omega)]
        exact hzero

end Go.Proofs.Ythkghbnmdebhpab
