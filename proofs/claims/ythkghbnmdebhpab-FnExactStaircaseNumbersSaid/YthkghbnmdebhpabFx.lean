/- Rook numbers by rows in order, in both texts. No condition but the sizes. -/
import Derived.Test.YthkghbnmdebhpabFs
import Derived.Test.YthkghbnmdebhpabFn
import Derived.Deep.RegionWith
import Derived.Deep.RegionHeld3
namespace Go.Proofs.Ythkghbnmdebhpab
open Go.RowKit Go.WideShapes

theorem most_any (x y : Int) (w : World) : Calls Try.prog 80 #[.int .i64 x, .int .i64 y] w fun e w' => e = .returned (.int .i64 (max x y)) ∧ w' = w := by
  by_cases h : y < x
  · have HM := Lib.hid (show max x y = x by omega)
    rw [HM.out]
    go_enter Try.func80, Try.ntmps80
    go_wp2_with fail
    go_ret
    exact ⟨rfl, rfl⟩
  · have HM := Lib.hid (show max x y = y by omega)
    rw [HM.out]
    go_enter Try.func80, Try.ntmps80
    go_wp2_with fail
    go_ret
    exact ⟨rfl, rfl⟩

theorem num_start (xs : List Int) (n : Nat) : (lstI (n + 1) (fun _ => 0)).set 0 1 = lstI (n + 1) (numS xs 0) :=
  lstI_set (n + 1) _ (numS xs 0) 0 1 (by simp [numS]) (fun k _ hk => by simp [numS, hk])

set_option maxRecDepth 100000 in
set_option maxHeartbeats 3200000 in
theorem feNumbers_any (a : Option Addr) (p : Nat) (xs : List Int) (w : World) (h6 : xs.length ≤ 6) (hbd : ∀ k, 0 ≤ xs.getD k 0 ∧ xs.getD k 0 ≤ 6) (hr : Reads w a xs.length xs) :
    Calls Try.prog 48 #[.slice a xs.length p] w fun e w' => ∃ s, e = .returned s ∧ Own w' w.heap.size s (numLen xs) ∧ Below w.heap.size w w' := by
  obtain ⟨n, hn⟩ : ∃ n, n = xs.length := ⟨_, rfl⟩
  rw [show numLen xs = lstI (n + 1) (numS xs n) by rw [hn]; rfl]
  have hno := fun i (hi : i ≤ 6) j => numS_in xs (fun k => (hbd k).2) i j hi
  rw [← hn] at h6 hr ⊢
  have HNO := Lib.hid hno
  have HBD := Lib.hid hbd
  clear hn hno hbd
  have hmk : ∀ w, (Instr.makeSlice 22 (.int .i64 ((n : Int) + 1)) (.int .i64 ((n : Int) + 1))).run Try.prog w = .ok (.slice (some ⟨w.heap.size, 0, none⟩) (n + 1) (n + 1)) (w.alloc (.cells (madeCells #[.int .i64 0] (n + 1)) 3)) := by
    intro w
    have := run_make_row' (P := Try.prog) 22 3 (.int .i64 0) 8 Try.underlying22 Try.infoI rfl .i64 .i64 (n + 1) (by omega) (by omega) w
    rw [show ((n : Int) + 1) = ((n + 1 : Nat) : Int) by push_cast; rfl]
    exact this
  have L0 := (Law.start w).own (below_new _) (own_made w (n + 1) _ w.heap.size rfl (Nat.le_refl _) (by omega))
  rw [lstI_zero] at L0
  have hS0 := Law.store (ts := []) L0 (lstI_len _ _) 0 1
  rw [num_start xs n] at hS0
  have o0 := L0.ownInts
  have d1 := Own.cell (by rw [lstI_len]; exact o0) 0 (by rw [lstI_len]; omega)
  have d2 := Own.free (by rw [lstI_len]; exact o0) 0
  rw [lstI_get _ _ 0 (by omega)] at d1
  have HL := Lib.hid hS0
  clear hS0 o0 L0
  go_enter Try.func48, Try.ntmps48
  go_upto_region 2 with fail
  generalize w.alloc (.cells (madeCells #[.int .i64 0] (n + 1)) 3) = w5 at *
  clear hmk
  have hn0 : 0 < n + 1 := by omega
  go_wp2_with fail
  generalize w5.setCell _ _ = w6 at *
  clear d1 d2 hn0
  go_loopw [15] (fun i wr => ∃ k : Nat, k ≤ n ∧ i = .int .i64 k ∧ Law w [tOwn (.slice (some ⟨w.heap.size, 0, none⟩) (n + 1) (n + 1)) (lstI (n + 1) (numS xs k))] wr) (fun i _ => n - (intOf i).toNat)
  case atStart => exact ⟨0, Nat.zero_le _, rfl, HL.out⟩
  case round =>
    clear HL
    obtain ⟨i, hi, rfl, L⟩ := hrel
    obtain ⟨wo, rfl⟩ : ∃ wo : World, wo = wr := ⟨_, rfl⟩
    by_cases hlt : i < n
    · obtain ⟨b, off, rfl, hbl, hc⟩ := reads_row (L.reads hr) (by omega)
      have hci := hc i hlt
      have hm := HBD.out i
      have HNX := Lib.hid (numS_succ xs i)
      obtain ⟨f, hf⟩ : ∃ f, f = numS xs i := ⟨_, rfl⟩
      have HFB := Lib.hid (show ∀ j, 0 ≤ f j ∧ f j ≤ 117649 from fun j => by rw [hf]; exact HNO.out i (by omega) j)
      rw [← hf] at L HNX
      generalize xs.getD i 0 = m at *
      rw [lstI_congr (n + 1) f (midS m f n) (fun k hk => (midS_at m f n k (by omega)).symm)] at L
      have HL := Lib.hid L
      clear L hc hbl hf
      go_wp2_with fail
      go_loopw [6] (fun i wr => ∃ k : Nat, k ≤ n ∧ i = .int .i64 k ∧ Law w [tOwn (.slice (some ⟨w.heap.size, 0, none⟩) (n + 1) (n + 1)) (lstI (n + 1) (midS m f k))] wr) (fun i _ => (intOf i).toNat)
      case atStart => exact ⟨n, Nat.le_refl _, rfl, HL.out⟩
      case round =>
        clear HL hci
        obtain ⟨k, hk, rfl, L⟩ := hrel
        by_cases hk0 : k = 0
        · subst hk0
          simp only [show ((0 : Nat) : Int) = 0 from rfl]
          rw [lstI_congr (n + 1) (midS m f 0) (numS xs (i + 1)) (fun j _ => by rw [midS_end, HNX.out])] at L
          have HL := Lib.hid L
          clear L
          go_wp2_with fail
          go_roundw
          case rel => exact ⟨i + 1, by omega, by go_num, HL.out⟩
          case measure => simp [intOf]; omega
        · obtain ⟨q, hq⟩ : ∃ q, k = q + 1 := ⟨k - 1, by omega⟩
          have o := L.ownInts
          have c1 := Own.cell (by rw [lstI_len]; exact o) k (by rw [lstI_len]; omega)
          have c2 := Own.cell (by rw [lstI_len]; exact o) q (by rw [lstI_len]; omega)
          have c3 := Own.free (by rw [lstI_len]; exact o) k
          rw [lstI_get _ _ k (by omega), midS_at _ _ _ _ (Nat.le_refl _)] at c1
          rw [lstI_get _ _ q (by omega), midS_at _ _ _ _ (by omega)] at c2
          have y1 := HFB.out k
          have y2 := HFB.out q
          obtain ⟨v, hv⟩ : ∃ v, v = max 0 (m - q) := ⟨_, rfl⟩
          have hv6 : 0 ≤ v ∧ v ≤ 6 := by omega
          have hpr := mul6 (f q) v 117649 y2 hv6
          have hw1 : IntKind.i64.wrap (f q * v) = f q * v := IntWalk.i64_in _ (by omega)
          have hw2 : wrap64 (f q * v) = f q * v := IntWalk.wrap64_in _ (by omega)
          have hw3 : IntKind.i64.wrap (f k + f q * v) = f k + f q * v := IntWalk.i64_in _ (by omega)
          have hw3' : wrap64 (f k + f q * v) = f k + f q * v := IntWalk.wrap64_in _ (by omega)
          have hw4 : IntKind.i64.wrap (m - (k : Int)) = m - (k : Int) := IntWalk.i64_in _ (by omega)
          have hw5 : IntKind.i64.wrap (m - (k : Int) + 1) = m - (k : Int) + 1 := IntWalk.i64_in _ (by omega)
          have HM := Lib.hid (show ∀ w, Calls Try.prog 80 #[.int .i64 0, .int .i64 (m - (k : Int) + 1)] w fun e w' => e = .returned (.int .i64 v) ∧ w' = w from fun w => by
            rw [show m - (k : Int) + 1 = m - q by omega, hv]; exact most_any _ _ w)
          have hk1 : (0 : Int) < (k : Int) := by omega
          have hk2 : (0 : Int) ≤ (k : Int) := by omega
          have hk5 : IntKind.i64.wrap ((k : Int) - 1) = (k : Int) - 1 := IntWalk.i64_in _ (by omega)
          have hkc : (0 : Int) ≤ (k : Int) - 1 := by omega
          have hkd : ((k : Int) - 1).toNat = q := by omega
          have hke : (k : Int) - 1 < (n : Int) + 1 := by omega
          have hk6 : (k : Int) < (n : Int) + 1 := by omega
          have hk7 : (q : Int) < (n : Int) + 1 := by omega
          have hk9 : (0 : Int) ≤ (q : Int) := by omega
          have hka : k < n + 1 := by omega
          have hkb : q < n + 1 := by omega
          have hne : q ≠ k := by omega
          have hS := Law.store (ts := []) L (lstI_len _ _) k (f k + f q * v)
          rw [lstI_set (n + 1) _ (midS m f q) k _ (by rw [hq, midS_step, hv]) (fun j _ hj => by rw [hq] at hj ⊢; exact midS_ne m f q j hj)] at hS
          have HS := Lib.hid hS.drew
          have HQ := Lib.hid hq
          generalize f k = y at *
          generalize f q = z at *
          clear L hS o hv hv6 hpr y1 y2 hq hk0
          go_wp2_with fail
          go_region_with (first | (go_at_call 80; ((with_reducible refine (HM.out _).mono ?_); rintro e w3 ⟨rfl, hww⟩; subst hww)))
          all_goals
            go_wp2_with fail
            go_roundw
            case rel => exact ⟨q, by omega, by rw [show (k : Int) - 1 = q by have := HQ.out; omega], HS.out⟩
            case measure => have := HQ.out; simp [intOf]; omega
    · obtain rfl : i = n := by omega
      have HL := Lib.hid L
      clear L
      go_wp2_with fail
      go_ret
      exact ⟨_, rfl, HL.out.ownLo, HL.out.below⟩

end Go.Proofs.Ythkghbnmdebhpab
