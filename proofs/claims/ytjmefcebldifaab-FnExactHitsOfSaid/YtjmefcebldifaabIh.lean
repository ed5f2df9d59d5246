/- Hits of orders and hit numbers, in the specification. No condition but the sizes. -/
import Derived.Test.YtjmefcebldifaabHz
import Derived.Test.YtjmefcebldifaabRp
import Derived.Deep.RegionHeld3
namespace Go.Proofs.Ytjmefcebldifaab
open Go.RowKit Go.WideShapes

set_option maxRecDepth 100000 in
set_option maxHeartbeats 1600000 in
theorem hiGood_any (r c : Int) (xs : List Int) (w : World) (hx : xs.length ≤ 1048576) (a : Option Addr) (cap : Nat) (hr : Reads w a xs.length xs) :
    Calls Try.prog 46 #[.agg #[.int .i64 r, .int .i64 c, .slice a xs.length cap]] w fun e w' => e = .returned (.bool (sqB r c xs)) ∧ Below w.heap.size w w' := by
  have L0 := (Law.start w).box (.int .i64 r) (.int .i64 c) (.slice a xs.length cap) 28
  have hr0 := L0.reads hr
  cases hg : goodB r c xs
  · rw [show sqB r c xs = false by simp [sqB, hg]]
    go_enter Try.func46, Try.ntmps46
    go_wp2_with fail
    refine (at_boolB (boGood_any r c a cap xs _ hx hr0) hg).mono ?_
    rintro e w1 ⟨rfl, hb⟩
    have HB := Lib.hid (L0.kept hb).below
    clear L0 hb hg hr0
    go_wp2_with fail
    go_ret
    exact ⟨rfl, HB.out⟩
  · rw [show sqB r c xs = (r == c) by simp [sqB, hg]]
    go_enter Try.func46, Try.ntmps46
    go_wp2_with fail
    refine (at_boolB (boGood_any r c a cap xs _ hx hr0) hg).mono ?_
    rintro e w1 ⟨rfl, hb⟩
    have HB := Lib.hid (L0.kept hb).below
    have ⟨_, k0, k1, k2, _⟩ := (L0.kept hb).ownBox
    clear L0 hb hg hr0
    go_wp2_with fail
    go_ret
    exact ⟨rfl, HB.out⟩

set_option maxRecDepth 100000 in
set_option maxHeartbeats 3200000 in
theorem hiHits_any (n : Nat) (r c : Int) (xs Q : List Int) (w : World) (hx : xs.length ≤ 1048576) (hlen : xs.length = n) (hn : n ≤ 6) (hgc : ∀ k, 0 ≤ xs.getD k 0 ∧ xs.getD k 0 < 64) (hQ : ∀ j, j < n → 0 ≤ Q.getD j 0 ∧ Q.getD j 0 < 6)
    (lo : Nat) (s : Value) (hO : Own w lo s xs) (qa : Option Addr) (qp : Nat) (hr : Reads w qa n Q) :
    Calls Try.prog 48 #[.agg #[.int .i64 r, .int .i64 c, s], .slice qa n qp] w fun e w' => e = .returned (.int .i64 (hitN (bt xs) Q n : Nat)) ∧ Below w.heap.size w w' := by
  have L0 := (Law.start w).box (.int .i64 r) (.int .i64 c) s 28
  have HB := Lib.hid (fun (j l : Nat) (W : World) (hj : j < n) (hl : l < 6) (h : Own W lo s xs) => boHas_any r c xs j l W (by omega) hx hl (hgc j) lo s h)
  have HO := Lib.hid hO
  obtain ⟨a, cap, rfl, _⟩ := hO.reads
  have HR := Lib.hid hr
  have HQ := Lib.hid hQ
  have HL := Lib.hid L0
  have hn6 : (n : Int) ≤ 6 := by omega
  clear L0 hO hr hQ hgc hlen
  go_enter Try.func48, Try.ntmps48
  go_wp2_with fail
  go_loopw [5, 10] (fun t i wr => ∃ j : Nat, j ≤ n ∧ i = .int .i64 j ∧ t = .int .i64 (hitN (bt xs) Q j : Nat) ∧ Law w [tBox w.heap.size (.int .i64 r) (.int .i64 c) (.slice a xs.length cap)] wr) (fun _ i _ => n - (intOf i).toNat)
  case atStart => exact ⟨0, Nat.zero_le _, rfl, rfl, HL.out⟩
  case round =>
    clear HL
    obtain ⟨j, hj, rfl, rfl, L⟩ := hrel
    by_cases hlt : j < n
    · have ⟨_, k0, k1, k2, _⟩ := L.ownBox
      obtain ⟨b1, o1, rfl, hb1, hc1⟩ := reads_row (L.reads HR.out) (by omega)
      have hcj := hc1 j hlt
      obtain ⟨q1, q2⟩ := HQ.out j hlt
      have HN := Lib.hid (show hitN (bt xs) Q (j + 1) = hitN (bt xs) Q j + if bt xs j (Q.getD j 0).toNat = true then 1 else 0 from rfl)
      obtain ⟨l, hl⟩ := Int.eq_ofNat_of_zero_le q1
      rw [hl, Int.toNat_natCast] at HN
      rw [hl] at hcj
      have hbc := HB.out j l wr hlt (by omega) (HO.out.kept L.below)
      have hle := hitN_le (bt xs) Q j
      rw [show ((xs.getD j 0).toNat.testBit l) = bt xs j l from rfl] at hbc
      generalize hitN (bt xs) Q j = t at *
      have HL := Lib.hid L
      clear L hc1 hb1 q1 q2 hl
      cases hB : bt xs j l
      · rw [hB] at hbc HN
        have HBC := Lib.hid hbc
        clear hbc hB
        go_wp2_with fail
        refine HBC.out.mono ?_
        rintro e w2 ⟨rfl, hb⟩
        have HL2 := Lib.hid (HL.out.kept hb)
        clear HL hb k0 k1 k2
        go_wp2_with fail
        go_roundw
        case rel => exact ⟨j + 1, by omega, by go_num, by rw [HN.out]; simp, HL2.out⟩
        case measure => simp [intOf]; omega
      · rw [hB] at hbc HN
        have HBC := Lib.hid hbc
        have htl : (t : Int) ≤ 6 := by omega
        have ht0 : (0 : Int) ≤ t := by omega
        clear hbc hB
        go_wp2_with fail
        refine HBC.out.mono ?_
        rintro e w2 ⟨rfl, hb⟩
        have HL2 := Lib.hid (HL.out.kept hb)
        clear HL hb k0 k1 k2
        go_wp2_with fail
        go_roundw
        case rel => exact ⟨j + 1, by omega, by go_num, by rw [HN.out]; simp, HL2.out⟩
        case measure => simp [intOf]; omega
    · obtain rfl : j = n := by omega
      have HB2 := Lib.hid L.below
      clear L
      go_wp2_with fail
      go_ret
      exact ⟨rfl, HB2.out⟩

theorem prm_in (n d : Nat) : ∀ P, (∀ y ∈ P, 0 ≤ y ∧ y < (n : Int)) → ∀ Q ∈ prm n d P, ∀ y ∈ Q, 0 ≤ y ∧ y < (n : Int) := by
  induction d with
  | zero => intro P hP Q h; rw [prm, List.mem_singleton] at h; rw [h]; exact hP
  | succ d ih =>
    intro P hP Q h
    rw [prm, List.mem_flatMap] at h
    obtain ⟨x, hx, h⟩ := h
    have hx := List.mem_range.1 hx
    split at h
    · cases h
    · refine ih _ (fun y hy => ?_) Q h
      rw [List.mem_append, List.mem_singleton] at hy
      rcases hy with hy | hy
      · exact hP y hy
      · rw [hy]; omega
theorem prm_cell (n : Nat) (Q : List Int) (h : Q ∈ prm n n []) : Q.length = n ∧ ∀ j, j < n → 0 ≤ Q.getD j 0 ∧ Q.getD j 0 < n := by
  have hl := prm_rows n n [] Q h
  simp at hl
  refine ⟨hl, fun j hj => ?_⟩
  have := prm_in n n [] (by simp) Q h (Q[j]'(by omega)) (List.getElem_mem _)
  simpa [List.getD, show j < Q.length by omega] using this

end Go.Proofs.Ytjmefcebldifaab
