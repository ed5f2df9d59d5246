/- Lists put one behind the other by the library. No condition but the sizes. -/
import Derived.Test.YtakdiiccdkjjcabP
import Derived.Test.YtakdiiccdkjjcabG2
import Derived.Lib.AppendZeros
namespace Go.Proofs.Ytakdiiccdkjjcab
open Go.RowKit Go.WideShapes

set_option maxRecDepth 100000 in
set_option maxHeartbeats 1600000 in
theorem grow_any (n : Nat) (w : World) (h0 : 0 < n) (hn : n ≤ 1048576) :
    Calls Try.prog 146 #[.slice none 0 0, .int .i64 n] w fun e w' => ∃ g cap, e = .returned (.slice (some ⟨g, 0, none⟩) 0 cap) ∧ Own w' w.heap.size (.slice (some ⟨g, 0, none⟩) 0 cap) [] ∧ Below w.heap.size w w' := by
  obtain ⟨i0, hi, hz0, hz1, hz2⟩ := info_parts Try.infoI
  have happ := fun (W : World) => Lib.run_append_nil_zeros (P := Try.prog) W 22 3 22 3 i0 (.int .i64 0) .i64 .i64 Try.underlying22 Try.underlying3 hi hz0 n h0 (by omega) (by omega) (by rw [hz2]; omega)
  have hG := fun (W : World) => grownCap_ge W n 0 3
  have hM := fun (W : World) => grownCap_le_maxLen W n 0 3 (by unfold maxLen; omega)
  have hZ : ∀ (W : World), (Builtin.zeroCells (Value.int .i64 0).cells n ++ Builtin.zeroCells (Value.int .i64 0).cells (grownCap W n 0 3 - n)).size = grownCap W n 0 3 := fun W => by
    have := hG W
    simp [size_zeroCells, Value.cells]
    omega
  have hfin : Own (w.drew.alloc (.cells (Builtin.zeroCells (Value.int .i64 0).cells n ++ Builtin.zeroCells (Value.int .i64 0).cells (grownCap w n 0 3 - n)) 3)) w.heap.size (.slice (some ⟨w.heap.size, 0, none⟩) 0 (grownCap w n 0 3)) [] ∧
      Below w.heap.size w (w.drew.alloc (.cells (Builtin.zeroCells (Value.int .i64 0).cells n ++ Builtin.zeroCells (Value.int .i64 0).cells (grownCap w n 0 3 - n)) 3)) := by
    refine ⟨⟨by simp, .inr ⟨w.heap.size, grownCap w n 0 3, _, rfl, Nat.le_refl _, heap_alloc_new _ _, Nat.zero_le _, hM w, ?_, by simp⟩⟩, ((Below.refl _ _).drew).trans (below_new (w := w.drew) _)⟩
    rw [hZ w, Nat.mul_one]
  have HF := Lib.hid hfin
  have hcap := hG w
  generalize hzz : (Builtin.zeroCells (Value.int .i64 0).cells n ++ Builtin.zeroCells (Value.int .i64 0).cells (grownCap w n 0 3 - n)) = Z at HF
  have happ0 := happ w
  rw [hzz] at happ0
  generalize grownCap w n 0 3 = C at *
  have hn0 : ¬ ((n : Int) < 0) := by omega
  have hn1 : (n : Int) > 0 := by omega
  have hC : (n : Int) ≤ C := by omega
  clear hfin hzz happ hG hM hZ
  go_enter Try.func146, Try.ntmps146
  go_wp2_with (at_builtin; refine Lib.wpList_append_run _ rfl _ _ 22 3 rfl _ _ rfl rfl _ _ happ0 ?_)
  go_wp2_with fail
  go_ret
  exact ⟨_, _, rfl, HF.out.1, HF.out.2⟩

theorem Src.kept' {w w' : World} {v : Value} {ys : List Int} (h : Src w v ys) (hb : Below w.heap.size w w') : Src w' v ys := h.kept hb
/-- The first k lists, one behind the other. -/
def catY (Y : Nat → List Int) : Nat → List Int
  | 0 => []
  | k + 1 => catY Y k ++ Y k
theorem catY_len (Y : Nat → List Int) (L : Nat) (k n : Nat) (hk : k ≤ n) (h : (catY Y n).length ≤ L) : (catY Y k).length ≤ L := by
  induction n with
  | zero => rw [show k = 0 by omega]; exact h
  | succ n ih =>
    by_cases e : k = n + 1
    · rw [e]; exact h
    · refine ih (by omega) ?_
      rw [catY, List.length_append] at h
      omega
theorem src_len {w : World} {v : Value} {ys : List Int} (h : Src w v ys) : ∃ a c, v = .slice a ys.length c := by
  rcases h with ⟨rfl, rfl⟩ | ⟨ad, cap, rfl, _⟩
  · exact ⟨none, 0, rfl⟩
  · exact ⟨_, _, rfl⟩

set_option maxRecDepth 100000 in
set_option maxHeartbeats 3200000 in
theorem concat_any (g0 n c : Nat) (S : Nat → Value) (Y : Nat → List Int) (w : World) (hn : n ≤ 1048576) (hg0 : g0 < w.heap.size) (h0 : 0 < (catY Y n).length) (hl : (catY Y n).length ≤ 1048576)
    (hc : ∀ k, k < n → w.cell? ⟨g0, k, none⟩ = some (S k)) (hs : ∀ k, k < n → Src w (S k) (Y k)) :
    Calls Try.prog 138 #[.slice (some ⟨g0, 0, none⟩) n c] w fun e w' => ∃ v, e = .returned v ∧ Own w' w.heap.size v (catY Y n) ∧ Below w.heap.size w w' := by
  have HC := Lib.hid hc
  have HS := Lib.hid hs
  have HL := Lib.hid (fun k (hk : k ≤ n) => catY_len Y _ k n hk hl)
  have HG := Lib.hid (fun W => grow_any (catY Y n).length W h0 hl)
  obtain ⟨T, hT⟩ : ∃ T, T = (catY Y n).length := ⟨_, rfl⟩
  rw [← hT] at HG
  have HT := Lib.hid hT
  clear hc hs h0 hl hT
  go_enter Try.func138, Try.ntmps138
  go_wp2_with fail
  go_loopw [3, 11] (fun z i wr => ∃ k : Nat, k ≤ n ∧ i = .int .i64 k ∧ z = .int .i64 ((catY Y k).length : Int) ∧ w = wr) (fun _ i _ => n - (intOf i).toNat)
  case atStart => exact ⟨0, Nat.zero_le _, rfl, rfl, rfl⟩
  case round =>
    obtain ⟨k, hk, rfl, rfl, hww⟩ := hrel
    subst hww
    by_cases hlt : k < n
    · have hck := HC.out k hlt
      obtain ⟨a, c1, hv⟩ := src_len (HS.out k hlt)
      rw [hv] at hck
      have hz := HL.out (k + 1) hlt
      have hsum : ((catY Y k).length : Int) + ((Y k).length : Int) = ((catY Y (k + 1)).length : Int) := by rw [catY, List.length_append]; omega
      have hw : wrap64 (((catY Y k).length : Int) + ((Y k).length : Int)) = ((catY Y (k + 1)).length : Int) := by rw [hsum]; exact IntWalk.wrap64_in _ (by omega)
      have hpos : ¬ (((catY Y (k + 1)).length : Int) < 0) := by omega
      have HW := Lib.hid hw
      obtain ⟨z3, hz3⟩ : ∃ z3, z3 = (catY Y (k + 1)).length := ⟨_, rfl⟩
      rw [← hz3] at hw hz hpos HW hsum
      have HZ3 := Lib.hid hz3
      generalize (catY Y k).length = z1 at *
      generalize (Y k).length = z2 at *
      clear hsum hv hz hz3
      go_wp2_with fail
      go_roundw
      case rel => exact ⟨k + 1, by omega, by go_num, by rw [HW.out, HZ3.out], by first | rfl | trivial⟩
      case measure => simp [intOf]; omega
    · obtain rfl : k = n := by omega
      rw [← HT.out]
      go_wp2_with fail
      refine (HG.out _).mono ?_
      rintro e w1 ⟨g, cap, rfl, hO, hb⟩
      have HO1 := Lib.hid (And.intro hO hb)
      clear hO hb
      go_wp2_with fail
      go_loopw [6, 27] (fun v i ws => ∃ j : Nat, j ≤ k ∧ i = .int .i64 j ∧ Hid (Own ws w.heap.size v (catY Y j) ∧ Below w.heap.size w ws)) (fun _ i _ => k - (intOf i).toNat)
      case atStart => exact ⟨0, Nat.zero_le _, rfl, HO1⟩
      case round =>
        clear HO1
        obtain ⟨j, hj, rfl, HO⟩ := hrel
        by_cases hlt2 : j < k
        · have hck := (HO.out.2.cell (p := ⟨g0, j, none⟩) hg0).trans (HC.out j hlt2)
          obtain ⟨a, c1, hv⟩ := src_len (HS.out j hlt2)
          have hsrc := (HS.out j hlt2).kept HO.out.2
          rw [hv] at hck hsrc
          have HSR := Lib.hid hsrc
          have HZ := Lib.hid (HL.out (j + 1) hlt2)
          rw [show (catY Y (j + 1)) = catY Y j ++ Y j from rfl] at HZ
          clear hsrc hv
          go_wp2_with (at_builtin; refine wp_append rfl _ _ rfl w.heap.size _ (catY Y j) (Y j) _ rfl rfl HO.out.1 HSR.out ?h1 ?h2 ?_)
          case h1 => have := HZ.out; rw [List.length_append] at this; exact this
          case h2 => exact HO.out.2.size
          intro v' w' hO hg
          have HO2 : Hid (Own w' w.heap.size v' (catY Y (j + 1)) ∧ Below w.heap.size w w') := Lib.hid ⟨hO, HO.out.2.grown hg HO.out.2.size (fun k hk => (own_lt HO.out.1 k hk).1)⟩
          clear hO hg HO HSR HZ
          go_wp2_with fail
          go_roundw
          case rel => exact ⟨j + 1, by omega, by go_num, HO2⟩
          case measure => simp [intOf]; omega
        · obtain rfl : j = k := by omega
          go_wp2_with fail
          go_ret
          exact ⟨_, rfl, HO.out.1, HO.out.2⟩

end Go.Proofs.Ytakdiiccdkjjcab
