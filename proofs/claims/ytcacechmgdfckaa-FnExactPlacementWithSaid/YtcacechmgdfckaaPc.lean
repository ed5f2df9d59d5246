/- Placements as plain values, in the program. No condition but the sizes. -/
import Derived.Test.YtcacechmgdfckaaPb
import Derived.Laws.Rows
import Derived.Test.YtcacechmgdfckaaT2
namespace Go.Proofs.Ytcacechmgdfckaa
open Go.RowKit Go.WideShapes

theorem Has.row6 {w : World} {b : Nat} {f : Nat → Int} {t : TypeId} (h : Has w b (pl6 f) t) : w.heap[b]? = some (.cells #[.int .i64 (f 0), .int .i64 (f 1), .int .i64 (f 2), .int .i64 (f 3), .int .i64 (f 4), .int .i64 (f 5)] t (0, 0)) := h

set_option maxRecDepth 100000 in
set_option maxHeartbeats 1600000 in
theorem noPlaces_any (w : World) : Calls Try.prog 48 #[] w fun e w' => e = .returned (pv6 (fun _ => -1)) ∧ Below w.heap.size w w' := by
  have L0 := ((Law.start w).has (pl6 (fun _ => 0)) 54).has (pl6 (fun j => if j < 0 then -1 else 0)) 54
  simp only [World.size_alloc] at L0
  have HL := Lib.hid L0
  clear L0
  go_enter Try.func48, Try.ntmps48
  go_wp2_with fail
  go_loopw [3] (fun i wr => ∃ k : Nat, k ≤ 6 ∧ i = .int .i64 k ∧ Law w [tHas (w.heap.size + 1) (pl6 (fun j => if j < k then -1 else 0)) 54, tHas w.heap.size (pl6 (fun _ => 0)) 54] wr) (fun i _ => 6 - (intOf i).toNat)
  case atStart => exact ⟨0, by omega, rfl, HL.out⟩
  case round =>
    clear HL
    obtain ⟨k, hk, rfl, L⟩ := hrel
    by_cases hlt : k < 6
    · have hce := L.ownHas.cell k
      rw [pl6_get _ k hlt] at hce
      have hfe := L.ownHas.free k
      have hS := Law.setHas (ts := []) L k (.int .i64 (-1))
      rw [pl6_set _ (fun j => if j < k + 1 then -1 else 0) k hlt (-1) (by simp) (fun j _ hj => by
        by_cases h : j < k
        · rw [if_pos h, if_pos (by omega)]
        · rw [if_neg h, if_neg (by omega)])] at hS
      have HS := Lib.hid hS
      have hk0 : (0 : Int) ≤ k := by omega
      have hk1 : (k : Int) < 6 := by omega
      clear hS L
      go_wp2_with fail
      go_roundw
      case rel => exact ⟨k + 1, by omega, by go_num, HS.out⟩
      case measure => simp [intOf]; omega
    · obtain rfl : k = 6 := by omega
      rw [show pl6 (fun j => if j < 6 then (-1 : Int) else 0) = pl6 (fun _ => -1) from rfl] at L
      obtain ⟨e0, e1, e2, e3, e4, e5, _⟩ := L.ownHas.six
      obtain ⟨f0, f1, f2, f3, f4, f5, ff⟩ := L.tl.ownHas.six
      have HB := Lib.hid L.below
      have hrow := L.ownHas.row6
      clear L
      go_wp2_with (refine wpList_load_row rfl 54 _ rfl _ rfl _ _ _ _ hrow Try.underlying54 rfl (by kernel_rfl) ?_)
      refine bodyPost_ret (v := pv6 (fun _ => -1)) (by simp [results, Try.results48, go_sem, f0, f1, f2, f3, f4, f5]) rfl ⟨rfl, ?_⟩
      have h2 := HB.out
      repeat (refine Below.setCell ?_ (by simp <;> omega) _)
      exact h2

end Go.Proofs.Ytcacechmgdfckaa
