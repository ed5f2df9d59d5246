/- The grid of lengths, in the program. No condition but the sizes. -/
import Derived.Test.YtdimbnkgomfojaaFc
import Derived.Test.YtdimbnkgomfojaaZ
import Derived.Test.YtdimbnkgomfojaaFn
import Derived.Laws.Rows
namespace Go.Proofs.Ytdimbnkgomfojaa
open Go.RowKit Go.WideShapes

theorem firstCols_any (x : Int) (w : World) (hx : 0 ≤ x ∧ x ≤ 6) : Calls Try.prog 116 #[.int .i64 x] w fun e w' => e = .returned (.int .i64 (pw x - 1)) ∧ w' = w := by
  obtain ⟨hp1, hp2, hp3, hp4⟩ := pw_bd hx
  have h0 : 0 ≤ x := hx.1
  have h1 : x < 64 := by omega
  clear hx
  go_enter Try.func116, Try.ntmps116
  go_wp2_with fail
  go_ret
  exact ⟨rfl, rfl⟩

/-- The masks of rows behind k rounds. -/
def mskG (M : Nat → Int) (k q : Nat) : Int := if q < k then pw (M q) - 1 else 0

set_option maxRecDepth 100000 in
set_option maxHeartbeats 3200000 in
theorem serGrid_any (n : Nat) (M : Nat → Int) (w : World) (hn : n ≤ 6) (hM : ∀ k, 0 ≤ M k ∧ M k ≤ 6) :
    Calls Try.prog 123 #[sv n M] w fun e w' => e = .returned (gv n n (mskG M n)) ∧ Below w.heap.size w w' := by
  have L0 := (((Law.start w).has (sl n M) 88).has (gl 0 0 (fun _ => 0)) 59).has (gl n n (mskG M 0)) 59
  simp only [World.size_alloc] at L0
  have HL := Lib.hid L0
  have HY := Lib.hid hM
  clear L0 hM
  go_enter Try.func123, Try.ntmps123
  go_upto_region 2 with fail
  rw [show ((w.alloc (.cells (sl n M).toArray 88)).alloc (.cells (gl 0 0 (fun _ => 0)).toArray 59)).alloc (.cells (gl n n (mskG M 0)).toArray 59) = ((w.alloc (.cells #[.int .i64 n, .int .i64 (M 0), .int .i64 (M 1), .int .i64 (M 2), .int .i64 (M 3), .int .i64 (M 4), .int .i64 (M 5)] 88)).alloc (.cells #[.int .i64 0, .int .i64 0, .int .i64 0, .int .i64 0, .int .i64 0, .int .i64 0, .int .i64 0, .int .i64 0] 59)).alloc (.cells #[.int .i64 n, .int .i64 n, .int .i64 0, .int .i64 0, .int .i64 0, .int .i64 0, .int .i64 0, .int .i64 0] 59) from rfl] at HL
  generalize ((w.alloc _).alloc _).alloc _ = w6 at *
  have ⟨e0, _⟩ := HL.out.tl.tl.ownHas.seven
  go_wp2_with fail
  clear e0
  go_loopw [12] (fun i wr => ∃ k : Nat, k ≤ n ∧ i = .int .i64 k ∧ Law w [tHas (w.heap.size + 1 + 1) (gl n n (mskG M k)) 59, tHas (w.heap.size + 1) (gl 0 0 (fun _ => 0)) 59, tHas w.heap.size (sl n M) 88] wr) (fun i _ => n - (intOf i).toNat)
  case atStart => exact ⟨0, Nat.zero_le _, rfl, HL.out⟩
  case round =>
    clear HL
    obtain ⟨k, hk, rfl, L⟩ := hrel
    obtain ⟨wo, rfl⟩ : ∃ wo : World, wo = wr := ⟨_, rfl⟩
    by_cases hlt : k < n
    · have hcx := L.tl.tl.ownHas.cell (1 + k)
      rw [sl_get _ _ k (by omega)] at hcx
      have hcz := L.ownHas.cell (2 + k)
      rw [gl_get _ _ _ k (by omega)] at hcz
      have hfz := L.ownHas.free (2 + k)
      have hy := HY.out k
      have HF := Lib.hid (fun W => firstCols_any (M k) W hy)
      have hS := (Law.setHas (ts := []) L (2 + k) (.int .i64 (pw (M k) - 1)))
      rw [gl_set _ _ (mskG M k) (mskG M (k + 1)) k (by omega) _ (by unfold mskG; rw [if_pos (by omega)]) (fun q hq => by
        unfold mskG
        by_cases h : q < k
        · rw [if_pos h, if_pos (by omega)]
        · rw [if_neg h, if_neg (by omega)])] at hS
      have HS := Lib.hid hS
      generalize mskG M k k = u at *
      generalize M k = x at *
      clear L hS hy
      go_wp2_with fail
      refine (HF.out _).mono ?_
      rintro e w' ⟨rfl, hww⟩
      subst hww
      go_wp2_with fail
      go_roundw
      case rel => exact ⟨k + 1, by omega, by go_num, HS.out⟩
      case measure => simp [intOf]; omega
    · obtain rfl : k = n := by omega
      obtain ⟨c0, c1, c2, c3, c4, c5, c6, c7, _⟩ := L.ownHas.eight
      obtain ⟨f0, f1, f2, f3, f4, f5, f6, f7, ff⟩ := L.tl.ownHas.eight
      have hrow : wo.heap[w.heap.size + 1 + 1]? = some (.cells #[.int .i64 k, .int .i64 k, .int .i64 (mskG M k 0), .int .i64 (mskG M k 1), .int .i64 (mskG M k 2), .int .i64 (mskG M k 3), .int .i64 (mskG M k 4), .int .i64 (mskG M k 5)] 59 (0, 0)) := L.ownHas.row
      have HB := Lib.hid L.below
      clear L hlt
      go_wp2_with (refine wpList_load_row rfl 59 _ rfl _ rfl _ _ _ _ hrow Try.underlying59 rfl (by kernel_rfl) ?_)
      refine bodyPost_ret (v := gv k k (mskG M k)) (by simp [results, Try.results123, go_sem, f0, f1, f2, f3, f4, f5, f6, f7]) rfl ⟨rfl, ?_⟩
      have h2 := HB.out
      repeat (refine Below.setCell ?_ (by simp <;> omega) _)
      exact h2
end Go.Proofs.Ytdimbnkgomfojaa
