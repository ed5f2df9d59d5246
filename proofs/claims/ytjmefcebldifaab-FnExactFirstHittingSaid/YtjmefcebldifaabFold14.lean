import Derived.Test.YtjmefcebldifaabFold13
import Derived.Test.YtjmefcebldifaabFold8
import Derived.Test.YtjmefcebldifaabFold7
import Derived.Deep.RegionHeld3
import Derived.Deep.RegionWith
import Derived.Test.YtjmefcebldifaabFold9
import Derived.Laws.Rows
import Derived.Test.YtjmefcebldifaabFold4

section
namespace Go.Proofs.Ytjmefcebldifaab
open Go.RowKit Go.WideShapes

theorem bit_off (s c : Nat) (hs : s < 64) (hc : c < 6) : (bits .and .i64 ((s : Int) / 2 ^ c) 1 == 0) = !s.testBit c := by
  have key : ∀ t : Fin 64, ∀ c : Fin 6, (bits .and .i64 (((t : Nat) : Int) / 2 ^ (c : Nat)) 1 == 0) = !(t : Nat).testBit c := by decide +kernel
  exact key ⟨s, hs⟩ ⟨c, hc⟩
/-- A grid's cells, as a test. -/
abbrev bM (M : Nat → Int) (a b : Nat) : Bool := (M a).toNat.testBit b
/-- The rows of a grid. -/
def rowL (n : Nat) (M : Nat → Int) : List Int := (List.range n).map M
theorem rowL_len (n : Nat) (M : Nat → Int) : (rowL n M).length = n := by simp [rowL]
theorem rowL_get (n : Nat) (M : Nat → Int) (k : Nat) (h : k < n) : (rowL n M).getD k 0 = M k := by simp [rowL, List.getD, h]
theorem wR_rows (m : Nat) (B B' : Nat → Nat → Bool) (d : Nat) : ∀ f t k, (∀ r c, f ≤ r → r < f + d → B r c = B' r c) → wR m B d f t k = wR m B' d f t k := by
  induction d with
  | zero => intro f t k _; rfl
  | succ d ih =>
    intro f t k h
    have ih' := fun t k => ih (f + 1) t k (fun r c h1 h2 => h r c (by omega) (by omega))
    rw [wR, wR, ih' t k]
    congr 2
    refine List.map_congr_left (fun c _ => ?_)
    unfold term
    rw [h f c (Nat.le_refl _) (by omega), ih']
theorem wR_rowL (m n : Nat) (M : Nat → Int) (k : Nat) : wR m (bt (rowL n M)) n 0 0 k = wR m (bM M) n 0 0 k :=
  wR_rows m _ _ n 0 0 k (fun r c _ h => by
    show ((rowL n M).getD r 0).toNat.testBit c = _
    rw [rowL_get n M r (by omega)])

end Go.Proofs.Ytjmefcebldifaab
end

section
namespace Go.Proofs.Ytjmefcebldifaab
open Go.RowKit Go.WideShapes

theorem has_upto (xs : List Int) (c : Int) (k : Nat) (hk : k < xs.length) : hasI (xs.take (k + 1)) c = (hasI (xs.take k) c || xs.getD k 0 == c) := by
  rw [take_snoc xs k hk, hasI_snoc]
theorem has_yes (xs : List Int) (c : Int) (k : Nat) (hk : k < xs.length) (h : xs.getD k 0 = c) : hasI xs c = true := by
  have e : xs.getD k 0 = xs[k] := by simp [List.getD, hk]
  rw [e] at h
  rw [hasI_iff]
  rw [← h]
  exact List.getElem_mem hk
set_option maxHeartbeats 800000 in
theorem l1Has_any (a : Option Addr) (k cap : Nat) (xs : List Int) (c : Int) (w : World) (hx : xs.length ≤ 1048576) (hk : xs.length = k) (hr : Reads w a k xs) :
    Calls Try.prog 72 #[.slice a k cap, .int .i64 c] w fun e w' => e = .returned (.bool (hasI xs c)) ∧ w = w' := by
  subst hk
  go_enter Try.func72, Try.ntmps72
  go_wp2_with fail
  go_loop [9] (fun i => ∃ k : Nat, k ≤ xs.length ∧ i = .int .i64 k ∧ Hid (hasI (xs.take k) c = false)) (fun i => xs.length - (intOf i).toNat)
  case atStart => exact ⟨0, Nat.zero_le _, rfl, Lib.hid (hasI_nil c)⟩
  case round =>
    obtain ⟨k, hk, rfl, HW⟩ := hrel
    by_cases hlt : k < xs.length
    · obtain ⟨b, off, rfl, hb, hc⟩ := reads_row hr (by omega)
      have hck := hc k hlt
      have hn := has_upto xs c k hlt
      rw [HW.out, Bool.false_or] at hn
      have hy := has_yes xs c k hlt
      clear hc
      generalize xs.getD k 0 = x at *
      by_cases he : x = c
      · subst he
        have HY := Lib.hid (hy rfl)
        clear hn hy
        go_wp2_with fail
        go_ret
        exact ⟨ret_bool HY.out.symm, rfl⟩
      · have he' : (x == c) = false := by rw [beq_eq_false_iff_ne]; exact he
        rw [he'] at hn
        have HN := Lib.hid hn
        clear hn hy he
        go_wp2_with fail
        go_round
        case rel => exact ⟨k + 1, by omega, by go_num, HN⟩
        case measure => simp [intOf]; omega
    · obtain rfl : k = xs.length := by omega
      go_wp2_with fail
      go_ret
      have h := HW.out
      rw [List.take_length] at h
      exact ⟨ret_bool h.symm, rfl⟩

end Go.Proofs.Ytjmefcebldifaab
end

section
namespace Go.Proofs.Ytjmefcebldifaab
open Go.RowKit Go.WideShapes

theorem Has.row6 {w : World} {b : Nat} {f : Nat → Int} {t : TypeId} (h : Has w b (pl6 f) t) : w.heap[b]? = some (.cells #[.int .i64 (f 0), .int .i64 (f 1), .int .i64 (f 2), .int .i64 (f 3), .int .i64 (f 4), .int .i64 (f 5)] t (0, 0)) := h

set_option maxRecDepth 100000 in
set_option maxHeartbeats 1600000 in
theorem noPlaces_any (w : World) : Calls Try.prog 87 #[] w fun e w' => e = .returned (pv6 (fun _ => -1)) ∧ Below w.heap.size w w' := by
  have L0 := ((Law.start w).has (pl6 (fun _ => 0)) 59).has (pl6 (fun j => if j < 0 then -1 else 0)) 59
  simp only [World.size_alloc] at L0
  have HL := Lib.hid L0
  clear L0
  go_enter Try.func87, Try.ntmps87
  go_wp2_with fail
  go_loopw [3] (fun i wr => ∃ k : Nat, k ≤ 6 ∧ i = .int .i64 k ∧ Law w [tHas (w.heap.size + 1) (pl6 (fun j => if j < k then -1 else 0)) 59, tHas w.heap.size (pl6 (fun _ => 0)) 59] wr) (fun i _ => 6 - (intOf i).toNat)
  case atStart => exact ⟨0, by omega, rfl, HL.out⟩
  case round =>
    clear HL
    obtain ⟨k, hk, rfl, L⟩ := hrel
    by_cases hlt : k < 6
    · have hce := L.ownHas.cell k
      rw [pl6_get _ k hlt] at hce
      have hfe := L.ownHas.free k
      have hS := Law.setHas (ts := []) L k (.int .i64 (-1))
      rw [pl6_set _ (fun j => if j < k + 1 then -1 else 0) k hlt (-1) (by simp) (fun j _ hj => by
        by_cases h : j < k
        · rw [if_pos h, if_pos (by omega)]
        · rw [if_neg h, if_neg (by omega)])] at hS
      have HS := Lib.hid hS
      have hk0 : (0 : Int) ≤ k := by omega
      have hk1 : (k : Int) < 6 := by omega
      clear hS L
      go_wp2_with fail
      go_roundw
      case rel => exact ⟨k + 1, by omega, by go_num, HS.out⟩
      case measure => simp [intOf]; omega
    · obtain rfl : k = 6 := by omega
      rw [show pl6 (fun j => if j < 6 then (-1 : Int) else 0) = pl6 (fun _ => -1) from rfl] at L
      obtain ⟨e0, e1, e2, e3, e4, e5, _⟩ := L.ownHas.six
      obtain ⟨f0, f1, f2, f3, f4, f5, ff⟩ := L.tl.ownHas.six
      have HB := Lib.hid L.below
      have hrow := L.ownHas.row6
      clear L
      go_wp2_with (refine wpList_load_row rfl 59 _ rfl _ rfl _ _ _ _ hrow Try.underlying59 rfl (by kernel_rfl) ?_)
      refine bodyPost_ret (v := pv6 (fun _ => -1)) (by simp [results, Try.results87, go_sem, f0, f1, f2, f3, f4, f5]) rfl ⟨rfl, ?_⟩
      have h2 := HB.out
      repeat (refine Below.setCell ?_ (by simp <;> omega) _)
      exact h2

end Go.Proofs.Ytjmefcebldifaab
end
