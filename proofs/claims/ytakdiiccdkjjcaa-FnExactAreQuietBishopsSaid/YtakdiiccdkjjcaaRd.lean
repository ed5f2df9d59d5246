/- Rook numbers, in the program. No condition but the sizes. -/
import Derived.Test.YtakdiiccdkjjcaaHd
import Derived.Test.YtakdiiccdkjjcaaI
import Derived.Test.YtakdiiccdkjjcaaRw
import Derived.Deep.RegionHeld3
import Derived.Deep.RegionWith
namespace Go.Proofs.Ytakdiiccdkjjcaa
open Go.RowKit Go.WideShapes

theorem bit_off (s c : Nat) (hs : s < 64) (hc : c < 6) : (bits .and .i64 ((s : Int) / 2 ^ c) 1 == 0) = !s.testBit c := by
  have key : ∀ t : Fin 64, ∀ c : Fin 6, (bits .and .i64 (((t : Nat) : Int) / 2 ^ (c : Nat)) 1 == 0) = !(t : Nat).testBit c := by decide +kernel
  exact key ⟨s, hs⟩ ⟨c, hc⟩
/-- A grid's cells, as a test. -/
abbrev bM (M : Nat → Int) (a b : Nat) : Bool := (M a).toNat.testBit b
/-- The rows of a grid. -/
def rowL (n : Nat) (M : Nat → Int) : List Int := (List.range n).map M
theorem rowL_len (n : Nat) (M : Nat → Int) : (rowL n M).length = n := by simp [rowL]
theorem rowL_get (n : Nat) (M : Nat → Int) (k : Nat) (h : k < n) : (rowL n M).getD k 0 = M k := by simp [rowL, List.getD, h]
theorem wR_rows (m : Nat) (B B' : Nat → Nat → Bool) (d : Nat) : ∀ f t k, (∀ r c, f ≤ r → r < f + d → B r c = B' r c) → wR m B d f t k = wR m B' d f t k := by
  induction d with
  | zero => intro f t k _; rfl
  | succ d ih =>
    intro f t k h
    have ih' := fun t k => ih (f + 1) t k (fun r c h1 h2 => h r c (by omega) (by omega))
    rw [wR, wR, ih' t k]
    congr 2
    refine List.map_congr_left (fun c _ => ?_)
    unfold term
    rw [h f c (Nat.le_refl _) (by omega), ih']
theorem wR_rowL (m n : Nat) (M : Nat → Int) (k : Nat) : wR m (bt (rowL n M)) n 0 0 k = wR m (bM M) n 0 0 k :=
  wR_rows m _ _ n 0 0 k (fun r c _ h => by
    show ((rowL n M).getD r 0).toNat.testBit c = _
    rw [rowL_get n M r (by omega)])

set_option maxRecDepth 100000 in
set_option maxHeartbeats 3200000 in
theorem rookNumbers_any (n m : Nat) (M : Nat → Int) (w : World) (hn : n ≤ 6) (hm : m ≤ 6) (hgc : ∀ k, k < 6 → 0 ≤ M k ∧ M k < 64) :
    Calls Try.prog 109 #[gv n m M] w fun e w' => ∃ g p, e = .returned (.slice (some ⟨g, 0, none⟩) (min n m + 1) p) ∧ Own w' w.heap.size (.slice (some ⟨g, 0, none⟩) (min n m + 1) p) (lstL (min n m + 1) (wR m (bM M) n 0 0)) ∧ Below w.heap.size w w' := by
  have L0 := ((Law.start w).has (gl n m M) 66).drew
  have ⟨e0, e1, e2, e3, e4, e5, e6, e7, ef⟩ := L0.ownHas.eight
  have hn0 : (0 : Int) ≤ n := by omega
  have hn6 : (n : Int) ≤ 6 := by omega
  have hrd : Reads (w.alloc (.cells (gl n m M).toArray 66)).drew (some ⟨w.heap.size, 2, none⟩) n (rowL n M) := by
    refine ⟨(rowL_len n M).symm, .inr ⟨_, 2, rfl, L0.ownHas.lt, fun j hj => ?_⟩⟩
    rw [rowL_get n M j hj]
    have := L0.ownHas.cell (2 + j)
    rw [gl_get n m M j (by omega)] at this
    exact this
  have HC := Lib.hid (fun p W (h : Reads W (some ⟨w.heap.size, 2, none⟩) n (rowL n M)) => numbersOfRows_any n m (rowL n M) (some ⟨w.heap.size, 2, none⟩) p W (rowL_len n M) (by omega) (by omega) (fun k hk => by rw [rowL_get n M k hk]; have := hgc k (by omega); omega) h)
  have HW := Lib.hid (wR_rowL m n M)
  have HRD := Lib.hid hrd
  have HL := Lib.hid L0
  clear L0 hrd hgc
  rw [show w.alloc (.cells (gl n m M).toArray 66) = w.alloc (.cells #[.int .i64 n, .int .i64 m, .int .i64 (M 0), .int .i64 (M 1), .int .i64 (M 2), .int .i64 (M 3), .int .i64 (M 4), .int .i64 (M 5)] 66) from rfl] at HL HRD e0 e1 ef
  go_enter Try.func109, Try.ntmps109
  go_upto_region 1 with fail
  generalize w.alloc (.cells #[.int .i64 n, .int .i64 m, .int .i64 (M 0), .int .i64 (M 1), .int .i64 (M 2), .int .i64 (M 3), .int .i64 (M 4), .int .i64 (M 5)] 66) = w5 at *
  clear e2 e3 e4 e5 e6 e7
  go_region_with ((go_at_call 120; ((with_reducible refine (HC.out _ _ HRD.out).mono ?_); rintro e wA ⟨gA, pA, rfl, OA, hbA⟩; have HLA := Lib.hid (HL.out.own hbA OA); clear OA hbA)))
  all_goals
    go_wp2_with fail
    go_ret
    have hO := HLA.out.ownLo
    rw [lstL_congr (min n m + 1) _ _ (fun k _ => HW.out k)] at hO
    exact ⟨_, _, rfl, hO, HLA.out.below⟩
end Go.Proofs.Ytakdiiccdkjjcaa
