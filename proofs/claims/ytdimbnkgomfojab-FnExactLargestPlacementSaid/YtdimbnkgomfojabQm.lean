/- The most rooks of a grid, in the program. No condition but the sizes. -/
import Derived.Test.YtdimbnkgomfojabRo
import Derived.Test.YtdimbnkgomfojabQk
namespace Go.Proofs.Ytdimbnkgomfojab
open Go.RowKit Go.WideShapes

theorem shK_eq (xs : List Int) (L N : Nat) (hL : L ≤ N) (h0 : ∀ j, L ≤ j → j < N → xs.getD j 0 = 0) (h1 : 0 < L → xs.getD (L - 1) 0 ≠ 0) : shK xs N = L := by
  induction N with
  | zero => rw [shK]; omega
  | succ N ih =>
    rw [shK]
    by_cases e : L = N + 1
    · subst e
      have h2 := h1 (by omega)
      rw [Nat.add_sub_cancel] at h2
      rw [if_neg h2]
    · rw [if_pos (h0 N (by omega) (by omega)), ih (by omega) (fun j a b => h0 j a (by omega))]
set_option maxRecDepth 100000 in
set_option maxHeartbeats 1600000 in
theorem mostRooks_any (n m : Nat) (M : Nat → Int) (w : World) (hn : n ≤ 6) (hm : m ≤ 6) (hgc : ∀ k, k < 6 → 0 ≤ M k ∧ M k < 64) :
    Calls Try.prog 66 #[gv n m M] w fun e w' => e = .returned (.int .i64 ((shK (numL n m (bM M)) (min n m + 1) : Int) - 1)) ∧ Below w.heap.size w w' := by
  have L0 := (Law.start w).has (gl n m M) 68
  have hn := fun W => rookNumbers_any n m M W hn hm hgc
  have hd : lstL (min n m + 1) (wR m (bM M) n 0 0) = numL n m (bM M) := rfl
  rw [hd] at hn
  have HN := Lib.hid hn
  have HK := Lib.hid (numL_len n m (bM M))
  have HL := Lib.hid L0
  have hq6 : min n m ≤ 6 := by omega
  have hsk := shK_le (numL n m (bM M)) (min n m + 1)
  clear hgc hn hd L0
  generalize numL n m (bM M) = ys at *
  generalize min n m = q at *
  go_enter Try.func66, Try.ntmps66
  go_wp2_with fail
  refine (HN.out _).mono ?_
  rintro e w2 ⟨g, p, rfl, hO, hb⟩
  · have hqp := hO.capLe
    have HB := Lib.hid (HL.out.kept hb).below
    clear HL hb
    go_wp2_with fail
    refine (withoutLast_any g (q + 1) p ys _ (by omega) hqp HK.out _ hO).mono ?_
    rintro e w' ⟨rfl, rfl⟩
    clear hO
    go_wp2_with fail
    go_ret
    exact ⟨rfl, HB.out⟩
end Go.Proofs.Ytdimbnkgomfojab
