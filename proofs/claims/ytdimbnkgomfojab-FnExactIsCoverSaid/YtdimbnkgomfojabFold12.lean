import Derived.Test.YtdimbnkgomfojabFold11
import Derived.Test.YtdimbnkgomfojabFold6
import Derived.Test.YtdimbnkgomfojabFold8
import Derived.Deep.RegionHeld3
import Derived.Deep.RegionWith
import Derived.Test.YtdimbnkgomfojabFold5

section
namespace Go.Proofs.Ytdimbnkgomfojab
open Go.RowKit Go.WideShapes

theorem bit_off (s c : Nat) (hs : s < 64) (hc : c < 6) : (bits .and .i64 ((s : Int) / 2 ^ c) 1 == 0) = !s.testBit c := by
  have key : ∀ t : Fin 64, ∀ c : Fin 6, (bits .and .i64 (((t : Nat) : Int) / 2 ^ (c : Nat)) 1 == 0) = !(t : Nat).testBit c := by decide +kernel
  exact key ⟨s, hs⟩ ⟨c, hc⟩
/-- A grid's cells, as a test. -/
abbrev bM (M : Nat → Int) (a b : Nat) : Bool := (M a).toNat.testBit b
/-- The rows of a grid. -/
def rowL (n : Nat) (M : Nat → Int) : List Int := (List.range n).map M
theorem rowL_len (n : Nat) (M : Nat → Int) : (rowL n M).length = n := by simp [rowL]
theorem rowL_get (n : Nat) (M : Nat → Int) (k : Nat) (h : k < n) : (rowL n M).getD k 0 = M k := by simp [rowL, List.getD, h]
theorem wR_rows (m : Nat) (B B' : Nat → Nat → Bool) (d : Nat) : ∀ f t k, (∀ r c, f ≤ r → r < f + d → B r c = B' r c) → wR m B d f t k = wR m B' d f t k := by
  induction d with
  | zero => intro f t k _; rfl
  | succ d ih =>
    intro f t k h
    have ih' := fun t k => ih (f + 1) t k (fun r c h1 h2 => h r c (by omega) (by omega))
    rw [wR, wR, ih' t k]
    congr 2
    refine List.map_congr_left (fun c _ => ?_)
    unfold term
    rw [h f c (Nat.le_refl _) (by omega), ih']
theorem wR_rowL (m n : Nat) (M : Nat → Int) (k : Nat) : wR m (bt (rowL n M)) n 0 0 k = wR m (bM M) n 0 0 k :=
  wR_rows m _ _ n 0 0 k (fun r c _ h => by
    show ((rowL n M).getD r 0).toNat.testBit c = _
    rw [rowL_get n M r (by omega)])

set_option maxRecDepth 100000 in
set_option maxHeartbeats 3200000 in
theorem rookNumbers_any (n m : Nat) (M : Nat → Int) (w : World) (hn : n ≤ 6) (hm : m ≤ 6) (hgc : ∀ k, k < 6 → 0 ≤ M k ∧ M k < 64) :
    Calls Try.prog 107 #[gv n m M] w fun e w' => ∃ g p, e = .returned (.slice (some ⟨g, 0, none⟩) (min n m + 1) p) ∧ Own w' w.heap.size (.slice (some ⟨g, 0, none⟩) (min n m + 1) p) (lstL (min n m + 1) (wR m (bM M) n 0 0)) ∧ Below w.heap.size w w' := by
  have L0 := ((Law.start w).has (gl n m M) 68).drew
  have ⟨e0, e1, e2, e3, e4, e5, e6, e7, ef⟩ := L0.ownHas.eight
  have hn0 : (0 : Int) ≤ n := by omega
  have hn6 : (n : Int) ≤ 6 := by omega
  have hrd : Reads (w.alloc (.cells (gl n m M).toArray 68)).drew (some ⟨w.heap.size, 2, none⟩) n (rowL n M) := by
    refine ⟨(rowL_len n M).symm, .inr ⟨_, 2, rfl, L0.ownHas.lt, fun j hj => ?_⟩⟩
    rw [rowL_get n M j hj]
    have := L0.ownHas.cell (2 + j)
    rw [gl_get n m M j (by omega)] at this
    exact this
  have HC := Lib.hid (fun p W (h : Reads W (some ⟨w.heap.size, 2, none⟩) n (rowL n M)) => numbersOfRows_any n m (rowL n M) (some ⟨w.heap.size, 2, none⟩) p W (rowL_len n M) (by omega) (by omega) (fun k hk => by rw [rowL_get n M k hk]; have := hgc k (by omega); omega) h)
  have HW := Lib.hid (wR_rowL m n M)
  have HRD := Lib.hid hrd
  have HL := Lib.hid L0
  clear L0 hrd hgc
  rw [show w.alloc (.cells (gl n m M).toArray 68) = w.alloc (.cells #[.int .i64 n, .int .i64 m, .int .i64 (M 0), .int .i64 (M 1), .int .i64 (M 2), .int .i64 (M 3), .int .i64 (M 4), .int .i64 (M 5)] 68) from rfl] at HL HRD e0 e1 ef
  go_enter Try.func107, Try.ntmps107
  go_upto_region 1 with fail
  generalize w.alloc (.cells #[.int .i64 n, .int .i64 m, .int .i64 (M 0), .int .i64 (M 1), .int .i64 (M 2), .int .i64 (M 3), .int .i64 (M 4), .int .i64 (M 5)] 68) = w5 at *
  clear e2 e3 e4 e5 e6 e7
  go_region_with ((go_at_call 128; ((with_reducible refine (HC.out _ _ HRD.out).mono ?_); rintro e wA ⟨gA, pA, rfl, OA, hbA⟩; have HLA := Lib.hid (HL.out.own hbA OA); clear OA hbA)))
  all_goals
    go_wp2_with fail
    go_ret
    have hO := HLA.out.ownLo
    rw [lstL_congr (min n m + 1) _ _ (fun k _ => HW.out k)] at hO
    exact ⟨_, _, rfl, hO, HLA.out.below⟩
end Go.Proofs.Ytdimbnkgomfojab
end

section
namespace Go.Proofs.Ytdimbnkgomfojab
open Go.RowKit Go.WideShapes

theorem has_upto (xs : List Int) (c : Int) (k : Nat) (hk : k < xs.length) : hasI (xs.take (k + 1)) c = (hasI (xs.take k) c || xs.getD k 0 == c) := by
  rw [take_snoc xs k hk, hasI_snoc]
theorem has_yes (xs : List Int) (c : Int) (k : Nat) (hk : k < xs.length) (h : xs.getD k 0 = c) : hasI xs c = true := by
  have e : xs.getD k 0 = xs[k] := by simp [List.getD, hk]
  rw [e] at h
  rw [hasI_iff]
  rw [← h]
  exact List.getElem_mem hk
set_option maxHeartbeats 800000 in
theorem l1Has_any (a : Option Addr) (k cap : Nat) (xs : List Int) (c : Int) (w : World) (hx : xs.length ≤ 1048576) (hk : xs.length = k) (hr : Reads w a k xs) :
    Calls Try.prog 70 #[.slice a k cap, .int .i64 c] w fun e w' => e = .returned (.bool (hasI xs c)) ∧ w = w' := by
  subst hk
  go_enter Try.func70, Try.ntmps70
  go_wp2_with fail
  go_loop [9] (fun i => ∃ k : Nat, k ≤ xs.length ∧ i = .int .i64 k ∧ Hid (hasI (xs.take k) c = false)) (fun i => xs.length - (intOf i).toNat)
  case atStart => exact ⟨0, Nat.zero_le _, rfl, Lib.hid (hasI_nil c)⟩
  case round =>
    obtain ⟨k, hk, rfl, HW⟩ := hrel
    by_cases hlt : k < xs.length
    · obtain ⟨b, off, rfl, hb, hc⟩ := reads_row hr (by omega)
      have hck := hc k hlt
      have hn := has_upto xs c k hlt
      rw [HW.out, Bool.false_or] at hn
      have hy := has_yes xs c k hlt
      clear hc
      generalize xs.getD k 0 = x at *
      by_cases he : x = c
      · subst he
        have HY := Lib.hid (hy rfl)
        clear hn hy
        go_wp2_with fail
        go_ret
        exact ⟨ret_bool HY.out.symm, rfl⟩
      · have he' : (x == c) = false := by rw [beq_eq_false_iff_ne]; exact he
        rw [he'] at hn
        have HN := Lib.hid hn
        clear hn hy he
        go_wp2_with fail
        go_round
        case rel => exact ⟨k + 1, by omega, by go_num, HN⟩
        case measure => simp [intOf]; omega
    · obtain rfl : k = xs.length := by omega
      go_wp2_with fail
      go_ret
      have h := HW.out
      rw [List.take_length] at h
      exact ⟨ret_bool h.symm, rfl⟩

end Go.Proofs.Ytdimbnkgomfojab
end
