/- Turned placements as plain values, in the program. No condition but the sizes. -/
import Derived.Test.YtddmommamcgelabPt
namespace Go.Proofs.Ytddmommamcgelab
open Go.RowKit Go.WideShapes

theorem ixP (F : Nat → Int) (k : Nat) (hk : k < 6) (W : World) : (Instr.index 81 (pv6 F) (.int .i64 k)).run Try.prog W = .ok (.int .i64 (F k)) W := by
  have hc : (pl6 F)[k]? = some (.int .i64 (F k)) := pl6_get F k hk
  unfold pl6 at hc
  simp [Instr.index, run_underlying Try.underlying81, asIntOf, go_sem, hk]
  exact (List.getElem?_eq_some_iff.1 hc).2

set_option maxRecDepth 100000 in
set_option maxHeartbeats 3200000 in
theorem turned_any (F : Nat → Int) (w : World) (hF : ∀ k, k < 6 → F k = -1 ∨ (0 ≤ F k ∧ F k < 6)) :
    Calls Try.prog 73 #[pv6 F] w fun e w' => e = .returned (pv6 (trF F 6)) ∧ Below w.heap.size w w' := by
  have L0 := ((Law.start w).has (pl6 F) 81).has (pl6 (fun _ => 0)) 81
  simp only [World.size_alloc] at L0
  have HL := Lib.hid L0
  have HPF2 := Lib.hid hF
  clear L0 hF
  go_enter Try.func73, Try.ntmps73
  go_wp2_with fail
  refine (noPlaces_any _).mono ?_
  rintro e w1 ⟨rfl, hb⟩
  have L1 := (HL.out.kept hb).has (pl6 (fun _ => -1)) 81
  rw [show w1.alloc (.cells (pl6 (fun _ => -1)).toArray 81) = w1.alloc (.cells #[.int .i64 (-1), .int .i64 (-1), .int .i64 (-1), .int .i64 (-1), .int .i64 (-1), .int .i64 (-1)] 81) from rfl] at L1
  have HL2 := Lib.hid L1
  clear L1 HL hb
  go_upto_region 2 with fail
  generalize w1.alloc (.cells #[.int .i64 (-1), .int .i64 (-1), .int .i64 (-1), .int .i64 (-1), .int .i64 (-1), .int .i64 (-1)] 81) = w5 at *
  obtain ⟨bt', hbt⟩ : ∃ bt', bt' = w1.heap.size := ⟨_, rfl⟩
  rw [← hbt] at HL2 ⊢
  clear hbt
  rw [show pl6 (fun _ => (-1 : Int)) = pl6 (trF F 0) from rfl] at HL2
  have hrow := HL2.out.tl.tl.ownHas.row6
  go_wp2_with (refine wpList_load_row rfl 81 _ rfl _ rfl _ _ _ _ hrow Try.underlying81 rfl (by kernel_rfl) ?_)
  clear hrow
  go_loopw [8] (fun i wr => ∃ k : Nat, k ≤ 6 ∧ i = .int .i64 k ∧ Law w [tHas bt' (pl6 (trF F k)) 81, tHas (w.heap.size + 1) (pl6 (fun _ => 0)) 81, tHas w.heap.size (pl6 F) 81] wr) (fun i _ => 6 - (intOf i).toNat)
  case atStart => exact ⟨0, by omega, rfl, HL2.out⟩
  case round =>
    clear HL2
    obtain ⟨k, hk, rfl, L⟩ := hrel
    by_cases hlt : k < 6
    · have ix := ixP F k hlt
      have hjf := HPF2.out k hlt
      have hsk := trF_skip F k
      have hst := trF_set F k
      generalize F k = x at hjf hsk hst ix
      have hk0 : (0 : Int) ≤ k := by omega
      have hk1 : (k : Int) < 6 := by omega
      by_cases hx1 : x = -1
      · have HL := Lib.hid (show Law w [tHas bt' (pl6 (trF F (k + 1))) 81, tHas (w.heap.size + 1) (pl6 (fun _ => 0)) 81, tHas w.heap.size (pl6 F) 81] wr by
          rw [pl6_congr (trF F (k + 1)) (trF F k) (fun c _ => hsk hx1 c)]
          exact L)
        have hx2 : (x != -1) = false := by simp [hx1]
        clear L hx1 hsk hst hjf
        go_wp2_with fail
        go_roundw
        case rel => exact ⟨k + 1, by omega, by go_num, HL.out⟩
        case measure => simp [intOf]; omega
      · obtain ⟨d, rfl⟩ := Int.eq_ofNat_of_zero_le (show 0 ≤ x by omega)
        have hx2 : ((d : Int) != -1) = true := by simp <;> omega
        obtain ⟨hs1, hs2⟩ := hst d rfl
        have hd6 : d < 6 := by omega
        have hce := L.ownHas.cell d
        rw [pl6_get _ d hd6] at hce
        have hfe := L.ownHas.free d
        have hS := Law.setHas (ts := []) L d (.int .i64 (k : Int))
        rw [pl6_set _ (trF F (k + 1)) d hd6 _ hs1 (fun c _ hc => hs2 c hc)] at hS
        have HS := Lib.hid hS
        have hd0 : (0 : Int) ≤ d := by omega
        have hd1 : (d : Int) < 6 := by omega
        clear L hS hsk hst hs1 hs2 hx1 hjf
        go_wp2_with fail
        go_roundw
        case rel => exact ⟨k + 1, by omega, by go_num, HS.out⟩
        case measure => simp [intOf]; omega
    · obtain rfl : k = 6 := by omega
      have hrow := L.ownHas.row6
      obtain ⟨f0, f1, f2, f3, f4, f5, ff⟩ := L.tl.ownHas.six
      have HB := Lib.hid L.below
      clear L
      go_wp2_with (refine wpList_load_row rfl 81 _ rfl _ rfl _ _ _ _ hrow Try.underlying81 rfl (by kernel_rfl) ?_)
      refine bodyPost_ret (v := pv6 (trF F 6)) (by simp [results, Try.results73, go_sem, f0, f1, f2, f3, f4, f5]) rfl ⟨rfl, ?_⟩
      have h2 := HB.out
      repeat (refine Below.setCell ?_ (by simp <;> omega) _)
      exact h2
end Go.Proofs.Ytddmommamcgelab
