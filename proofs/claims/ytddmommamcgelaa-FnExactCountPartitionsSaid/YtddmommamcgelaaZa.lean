/- The triangles of numbers of Stirling and Lah, in the specification. No condition but n at most 10. -/
import Derived.Test.YtddmommamcgelaaZd
import Derived.Test.YtddmommamcgelaaRa
namespace Go.Proofs.Ytddmommamcgelaa
open Go.RowKit Go.WideShapes

theorem wrap_n9 (q : Nat) (h : q ≤ 1000000000) : wrap64 (q : Int) = q := IntWalk.wrap64_in _ (by omega)
/-- What a number is multiplied by on its way to the next row. -/
def facT (kind m k : Nat) : Nat := if kind = 1 then m else if kind = 2 then m + k else k
def triF (kind : Nat) : Nat → Nat → Nat
  | 0, k => if k = 0 then 1 else 0
  | m + 1, k => (if k = 0 then 0 else triF kind m (k - 1)) + facT kind m k * triF kind m k
/-- What the number before brings. -/
def triP (kind m k : Nat) : Nat := if k = 0 then 0 else triF kind m (k - 1)
theorem triF_next (kind m k : Nat) : triF kind (m + 1) k = triP kind m k + facT kind m k * triF kind m k := rfl
theorem triP_next (kind m k : Nat) : triP kind m (k + 1) = triF kind m k := rfl
theorem tri_bd (kind n k : Nat) (hd : kind ≤ 2) (hn : n ≤ 10) (hk : k ≤ 11) : triF kind n k ≤ 40000000 := by
  have key : ∀ d : Fin 3, ∀ n : Fin 11, ∀ k : Fin 12, triF d n k ≤ 40000000 := by decide +kernel
  exact key ⟨kind, by omega⟩ ⟨n, by omega⟩ ⟨k, by omega⟩
theorem tri_out (kind n : Nat) (hd : kind ≤ 2) (hn : n ≤ 10) : triF kind n (n + 1) = 0 := by
  have key : ∀ d : Fin 3, ∀ n : Fin 11, triF d n (n + 1) = 0 := by decide +kernel
  exact key ⟨kind, by omega⟩ ⟨n, by omega⟩
/-- The next row: the first k told, the next one so far. -/
def triN (kind M k i : Nat) : Nat := if i < k then triF kind (M + 1) i else if i = k then triP kind M k else 0
/-- .. and the one behind, too. -/
def triN2 (kind M k i : Nat) : Nat := if i < k then triF kind (M + 1) i else if i = k then triP kind M k else if i = k + 1 then triF kind M k else 0
theorem triN_zero (kind M L : Nat) : List.replicate L (0 : Int) = lstL L (triN kind M 0) := by
  rw [lstL_zero]
  exact lstL_congr L _ _ (fun k _ => by unfold triN triP; simp)
theorem triN_full (kind M : Nat) (hd : kind ≤ 2) (h : M ≤ 9) : lstL (M + 2) (triN kind M (M + 1)) = lstL (M + 2) (triF kind (M + 1)) := lstL_congr _ _ _ (fun k hk => by
  unfold triN
  by_cases e : k < M + 1
  · rw [if_pos e]
  · have : k = M + 1 := by omega
    subst this
    rw [if_neg e, if_pos rfl, triF_next, tri_out kind M hd (by omega), Nat.mul_zero]
    rfl)
theorem triN_set1 (kind M L k : Nat) : (lstL L (triN kind M k)).set (k + 1) ((triF kind M k : Nat) : Int) = lstL L (triN2 kind M k) :=
  lstL_set L _ _ (k + 1) _ (by unfold triN2; rw [if_neg (by omega), if_neg (by omega), if_pos rfl]) (fun i _ hi => by
    unfold triN triN2
    by_cases h : i < k
    · rw [if_pos h, if_pos h]
    · rw [if_neg h, if_neg h]
      by_cases h2 : i = k
      · rw [if_pos h2, if_pos h2]
      · rw [if_neg h2, if_neg h2, if_neg hi])
theorem triN_set2 (kind M L k : Nat) : (lstL L (triN2 kind M k)).set k ((triF kind (M + 1) k : Nat) : Int) = lstL L (triN kind M (k + 1)) :=
  lstL_set L _ _ k _ (by simp [triN]) (fun i _ hi => by
    unfold triN triN2
    by_cases h : i < k
    · rw [if_pos h, if_pos (by omega)]
    · rw [if_neg h, if_neg hi]
      by_cases h2 : i = k + 1
      · rw [if_pos h2, if_neg (by omega), if_pos h2, triP_next]
      · rw [if_neg h2, if_neg (by omega), if_neg h2])

set_option maxRecDepth 100000 in
set_option maxHeartbeats 6400000 in
theorem tri0_any (N : Nat) (w : World) (hN10 : N ≤ 10) : Calls Try.prog 62 #[.int .i64 N, .int .i64 0] w fun e w' => ∃ g p, e = .returned (.slice (some ⟨g, 0, none⟩) (N + 1) p) ∧ Own w' w.heap.size (.slice (some ⟨g, 0, none⟩) (N + 1) p) (lstL (N + 1) (triF 0 N)) ∧ Below w.heap.size w w' := by
  have hNI : (N : Int) ≤ 10 := by omega
  have L0 := (Law.start w).own (below_new _) (own_of_has (lo := w.heap.size) (xs := [1]) (Has.new w [.int .i64 1] 3) (Nat.le_refl _) rfl (by show 1 ≤ maxLen; unfold maxLen; omega))
  rw [show ([1] : List Int) = lstL 1 (triF 0 0) from rfl] at L0
  rw [show w.alloc (.cells ([.int .i64 1] : List Value).toArray 3) = w.alloc (.cells #[.int .i64 1] 3) from rfl] at L0
  have HL := Lib.hid L0
  clear L0
  go_enter Try.func62, Try.ntmps62
  go_wp2_with fail
  go_loopw [5, 6] (fun o i wr => ∃ (M g p : Nat), M ≤ N ∧ i = .int .i64 ((M + 1 : Nat) : Int) ∧ o = .slice (some ⟨g, 0, none⟩) (M + 1) p ∧ Law w [tOwn (.slice (some ⟨g, 0, none⟩) (M + 1) p) (lstL (M + 1) (triF 0 M))] wr) (fun _ i _ => N + 1 - (intOf i).toNat)
  case atStart => exact ⟨0, _, _, Nat.zero_le _, rfl, rfl, HL.out⟩
  case round =>
    clear HL
    obtain ⟨M, g, p, hMN, rfl, rfl, L⟩ := hrel
    obtain ⟨wo, rfl⟩ : ∃ wo : World, wo = wr := ⟨_, rfl⟩
    by_cases hlt : M + 1 ≤ N
    · obtain ⟨mm, hmm⟩ : ∃ mm, mm = M + 1 := ⟨_, rfl⟩
      have hle : (mm : Int) ≤ N := by omega
      have hmk : ∀ w, (Instr.makeSlice 25 (.int .i64 ((mm + 1 : Nat) : Int)) (.int .i64 ((mm + 1 : Nat) : Int))).run Try.prog w = .ok (.slice (some ⟨w.heap.size, 0, none⟩) (mm + 1) (mm + 1)) (w.alloc (.cells (madeCells #[.int .i64 0] (mm + 1)) 3)) := by
        intro w
        exact run_make_row' (P := Try.prog) 25 3 (.int .i64 0) 8 Try.underlying25 Try.infoI rfl .i64 .i64 (mm + 1) (by omega) (by omega) w
      have L1 := L.own (below_new _) (own_made wo (mm + 1) _ wo.heap.size rfl (Nat.le_refl _) (by omega))
      rw [triN_zero 0 M (mm + 1)] at L1
      rw [← hmm] at L1 ⊢
      have HL1 := Lib.hid L1
      have HMM := Lib.hid hmm
      have hM10 : M ≤ 9 := by omega
      have hmI : (mm : Int) ≤ 10 := by omega
      have hc1 : ((mm + 1 : Nat) : Int) = (mm : Int) + 1 := by omega
      rw [hc1] at hmk
      clear L L1 hmm hc1
      go_wp2_with fail
      generalize wo.alloc (.cells (madeCells #[.int .i64 0] (mm + 1)) 3) = w5 at *
      obtain ⟨g2, hgg⟩ : ∃ g2, g2 = wo.heap.size := ⟨_, rfl⟩
      rw [← hgg] at HL1 ⊢
      clear hmk hgg
      go_loopw [22] (fun i wr => ∃ k : Nat, k ≤ mm ∧ i = .int .i64 k ∧ Law w [tOwn (.slice (some ⟨g2, 0, none⟩) (mm + 1) (mm + 1)) (lstL (mm + 1) (triN 0 M k)), tOwn (.slice (some ⟨g, 0, none⟩) mm p) (lstL mm (triF 0 M))] wr) (fun i _ => mm - (intOf i).toNat)
      case atStart => exact ⟨0, Nat.zero_le _, rfl, HL1.out⟩
      case round =>
        clear HL1
        obtain ⟨k, hk, rfl, L⟩ := hrel
        by_cases hkM : k < mm
        · have o2 := L.tl.ownInts
          have ix := Own.cell (by rw [lstL_len]; exact o2) k (by rw [lstL_len]; exact hkM)
          rw [lstL_get mm _ _ hkM] at ix
          have o1 := L.ownInts
          have y1 := Own.cell (by rw [lstL_len]; exact o1) (k + 1) (by rw [lstL_len]; omega)
          have y2 := Own.free (by rw [lstL_len]; exact o1) (k + 1)
          rw [lstL_get (mm + 1) _ _ (by omega), show triN 0 M k (k + 1) = 0 by unfold triN; rw [if_neg (by omega), if_neg (by omega)]] at y1
          have hS := Law.store (ts := []) L (lstL_len _ _) (k + 1) ((triF 0 M k : Nat) : Int)
          rw [triN_set1] at hS
          have o3 := Law.ownInts (s := .slice (some ⟨g2, 0, none⟩) (mm + 1) (mm + 1)) (by simpa using hS)
          have z1 := Own.cell (by rw [lstL_len]; exact o3) k (by rw [lstL_len]; omega)
          have z2 := Own.free (by rw [lstL_len]; exact o3) k
          rw [lstL_get (mm + 1) _ _ (by omega), show triN2 0 M k k = triP 0 M k by simp [triN2]] at z1
          have hS2 := Law.store (ts := []) (show Law w ([] ++ tOwn (.slice (some ⟨g2, 0, none⟩) (mm + 1) (mm + 1)) (lstL (mm + 1) (triN2 0 M k)) :: [tOwn (.slice (some ⟨g, 0, none⟩) mm p) (lstL mm (triF 0 M))]) _ from hS) (lstL_len _ _) k ((triF 0 (M + 1) k : Nat) : Int)
          rw [triN_set2] at hS2
          have hb1 := tri_bd 0 M k (by omega) (by omega) (by have := HMM.out; omega)
          have hb2 := tri_bd 0 (M + 1) k (by omega) (by omega) (by have := HMM.out; omega)
          have hen := triF_next 0 M k
          obtain ⟨f, hf⟩ : ∃ f, f = facT 0 M k := ⟨_, rfl⟩
          have hf20 : f ≤ 20 := by rw [hf]; unfold facT; have := HMM.out; simp; omega
          have hF := Lib.hid (show (f : Int) = (k : Int) by rw [hf]; unfold facT; have := HMM.out; simp <;> omega)
          rw [← hf] at hen
          have hqb : f * triF 0 M k ≤ 20 * 40000000 := Nat.mul_le_mul hf20 hb1
          have s1 : (f : Int) * (triF 0 M k : Nat) = ((f * triF 0 M k : Nat) : Int) := by push_cast; rfl
          have HS2 := Lib.hid (show Law w [tOwn (.slice (some ⟨g2, 0, none⟩) (mm + 1) (mm + 1)) (lstL (mm + 1) (triN 0 M (k + 1))), tOwn (.slice (some ⟨g, 0, none⟩) mm p) (lstL mm (triF 0 M))] _ from hS2)
          generalize triP 0 M k = pk at *
          generalize triF 0 (M + 1) k = e1 at *
          generalize triF 0 M k = x at *
          obtain ⟨qq, hqq⟩ : ∃ qq, qq = f * x := ⟨_, rfl⟩
          rw [← hqq] at s1 hen hqb
          rw [hF.out] at s1
          have he1 : (pk : Int) + (qq : Int) = (e1 : Int) := by rw [hen]; exact (Int.natCast_add pk qq).symm
          have hA0 : wrap64 ((k : Int) * x) = (k : Int) * x := by rw [s1]; exact wrap_n9 qq (Nat.le_trans hqb (by decide))
          have hA : wrap64 ((pk : Int) + (k : Int) * x) = e1 := by rw [s1, he1]; exact wrap_n9 e1 (Nat.le_trans hb2 (by decide))
          have hX : wrap64 (x : Int) = x := wrap_n9 x (Nat.le_trans hb1 (by decide))
          have HA := Lib.hid hA
          have HA0 := Lib.hid hA0
          have HX := Lib.hid hX
          have hk0 : (0 : Int) ≤ k := by omega
          have hk1 : (k : Int) < (mm : Int) + 1 := by omega
          have hk2 : (k : Int) + 1 < (mm : Int) + 1 := by omega
          have hk3 : (k : Int) < mm := by omega
          have Z1 := Lib.hid z1
          have Z2 := Lib.hid z2
          clear he1 hqq hf hf20 hF hA hA0 hX s1 hen hqb hb1 hb2 hS hS2 o1 o2 o3 z1 z2 L
          go_upto_region 10 with fail
          rw [HX.out]
          have z1 := Z1.out
          have z2 := Z2.out
          generalize wr.setCell ⟨g2, k + 1, none⟩ (.int .i64 (x : Int)) = w6 at *
          clear Z1 Z2 y1 y2 ix
          go_wp2_with fail
          go_roundw
          case rel => exact ⟨k + 1, by omega, by go_num, by first | exact HS2.out | (rw [HA.out]; exact HS2.out) | (rw [HA0.out, HA.out]; exact HS2.out)⟩
          case measure => simp [intOf]; omega
        · obtain rfl : k = mm := by omega
          have hfl : lstL (k + 1) (triN 0 M k) = lstL (k + 1) (triF 0 k) := by
            have := HMM.out
            subst this
            exact triN_full 0 M (by omega) (by omega)
          rw [hfl] at L
          have HL := Lib.hid (show Law w [tOwn (.slice (some ⟨g2, 0, none⟩) (k + 1) (k + 1)) (lstL (k + 1) (triF 0 k))] wr from L.sub (by simp))
          clear hfl
          clear L hkM
          go_wp2_with fail
          go_roundw
          case rel => exact ⟨k, _, _, by omega, by go_num, rfl, HL.out⟩
          case measure => simp [intOf]; have := HMM.out; omega
    · obtain rfl : M = N := by omega
      have hle : ¬ ((M + 1 : Nat) : Int) ≤ M := by omega
      have HL := Lib.hid L
      clear L hlt
      go_wp2_with fail
      go_ret
      exact ⟨_, _, rfl, HL.out.ownLo, HL.out.below⟩

set_option maxRecDepth 100000 in
set_option maxHeartbeats 6400000 in
theorem tri1_any (N : Nat) (w : World) (hN10 : N ≤ 10) : Calls Try.prog 62 #[.int .i64 N, .int .i64 1] w fun e w' => ∃ g p, e = .returned (.slice (some ⟨g, 0, none⟩) (N + 1) p) ∧ Own w' w.heap.size (.slice (some ⟨g, 0, none⟩) (N + 1) p) (lstL (N + 1) (triF 1 N)) ∧ Below w.heap.size w w' := by
  have hNI : (N : Int) ≤ 10 := by omega
  have L0 := (Law.start w).own (below_new _) (own_of_has (lo := w.heap.size) (xs := [1]) (Has.new w [.int .i64 1] 3) (Nat.le_refl _) rfl (by show 1 ≤ maxLen; unfold maxLen; omega))
  rw [show ([1] : List Int) = lstL 1 (triF 1 0) from rfl] at L0
  rw [show w.alloc (.cells ([.int .i64 1] : List Value).toArray 3) = w.alloc (.cells #[.int .i64 1] 3) from rfl] at L0
  have HL := Lib.hid L0
  clear L0
  go_enter Try.func62, Try.ntmps62
  go_wp2_with fail
  go_loopw [5, 6] (fun o i wr => ∃ (M g p : Nat), M ≤ N ∧ i = .int .i64 ((M + 1 : Nat) : Int) ∧ o = .slice (some ⟨g, 0, none⟩) (M + 1) p ∧ Law w [tOwn (.slice (some ⟨g, 0, none⟩) (M + 1) p) (lstL (M + 1) (triF 1 M))] wr) (fun _ i _ => N + 1 - (intOf i).toNat)
  case atStart => exact ⟨0, _, _, Nat.zero_le _, rfl, rfl, HL.out⟩
  case round =>
    clear HL
    obtain ⟨M, g, p, hMN, rfl, rfl, L⟩ := hrel
    obtain ⟨wo, rfl⟩ : ∃ wo : World, wo = wr := ⟨_, rfl⟩
    by_cases hlt : M + 1 ≤ N
    · obtain ⟨mm, hmm⟩ : ∃ mm, mm = M + 1 := ⟨_, rfl⟩
      have hle : (mm : Int) ≤ N := by omega
      have hmk : ∀ w, (Instr.makeSlice 25 (.int .i64 ((mm + 1 : Nat) : Int)) (.int .i64 ((mm + 1 : Nat) : Int))).run Try.prog w = .ok (.slice (some ⟨w.heap.size, 0, none⟩) (mm + 1) (mm + 1)) (w.alloc (.cells (madeCells #[.int .i64 0] (mm + 1)) 3)) := by
        intro w
        exact run_make_row' (P := Try.prog) 25 3 (.int .i64 0) 8 Try.underlying25 Try.infoI rfl .i64 .i64 (mm + 1) (by omega) (by omega) w
      have L1 := L.own (below_new _) (own_made wo (mm + 1) _ wo.heap.size rfl (Nat.le_refl _) (by omega))
      rw [triN_zero 1 M (mm + 1)] at L1
      rw [← hmm] at L1 ⊢
      have HL1 := Lib.hid L1
      have HMM := Lib.hid hmm
      have hM10 : M ≤ 9 := by omega
      have hmI : (mm : Int) ≤ 10 := by omega
      have hc1 : ((mm + 1 : Nat) : Int) = (mm : Int) + 1 := by omega
      rw [hc1] at hmk
      clear L L1 hmm hc1
      go_wp2_with fail
      generalize wo.alloc (.cells (madeCells #[.int .i64 0] (mm + 1)) 3) = w5 at *
      obtain ⟨g2, hgg⟩ : ∃ g2, g2 = wo.heap.size := ⟨_, rfl⟩
      rw [← hgg] at HL1 ⊢
      clear hmk hgg
      go_loopw [22] (fun i wr => ∃ k : Nat, k ≤ mm ∧ i = .int .i64 k ∧ Law w [tOwn (.slice (some ⟨g2, 0, none⟩) (mm + 1) (mm + 1)) (lstL (mm + 1) (triN 1 M k)), tOwn (.slice (some ⟨g, 0, none⟩) mm p) (lstL mm (triF 1 M))] wr) (fun i _ => mm - (intOf i).toNat)
      case atStart => exact ⟨0, Nat.zero_le _, rfl, HL1.out⟩
      case round =>
        clear HL1
        obtain ⟨k, hk, rfl, L⟩ := hrel
        by_cases hkM : k < mm
        · have o2 := L.tl.ownInts
          have ix := Own.cell (by rw [lstL_len]; exact o2) k (by rw [lstL_len]; exact hkM)
          rw [lstL_get mm _ _ hkM] at ix
          have o1 := L.ownInts
          have y1 := Own.cell (by rw [lstL_len]; exact o1) (k + 1) (by rw [lstL_len]; omega)
          have y2 := Own.free (by rw [lstL_len]; exact o1) (k + 1)
          rw [lstL_get (mm + 1) _ _ (by omega), show triN 1 M k (k + 1) = 0 by unfold triN; rw [if_neg (by omega), if_neg (by omega)]] at y1
          have hS := Law.store (ts := []) L (lstL_len _ _) (k + 1) ((triF 1 M k : Nat) : Int)
          rw [triN_set1] at hS
          have o3 := Law.ownInts (s := .slice (some ⟨g2, 0, none⟩) (mm + 1) (mm + 1)) (by simpa using hS)
          have z1 := Own.cell (by rw [lstL_len]; exact o3) k (by rw [lstL_len]; omega)
          have z2 := Own.free (by rw [lstL_len]; exact o3) k
          rw [lstL_get (mm + 1) _ _ (by omega), show triN2 1 M k k = triP 1 M k by simp [triN2]] at z1
          have hS2 := Law.store (ts := []) (show Law w ([] ++ tOwn (.slice (some ⟨g2, 0, none⟩) (mm + 1) (mm + 1)) (lstL (mm + 1) (triN2 1 M k)) :: [tOwn (.slice (some ⟨g, 0, none⟩) mm p) (lstL mm (triF 1 M))]) _ from hS) (lstL_len _ _) k ((triF 1 (M + 1) k : Nat) : Int)
          rw [triN_set2] at hS2
          have hb1 := tri_bd 1 M k (by omega) (by omega) (by have := HMM.out; omega)
          have hb2 := tri_bd 1 (M + 1) k (by omega) (by omega) (by have := HMM.out; omega)
          have hen := triF_next 1 M k
          obtain ⟨f, hf⟩ : ∃ f, f = facT 1 M k := ⟨_, rfl⟩
          have hf20 : f ≤ 20 := by rw [hf]; unfold facT; have := HMM.out; simp; omega
          have hF := Lib.hid (show (f : Int) = ((mm : Int) - 1) by rw [hf]; unfold facT; have := HMM.out; simp <;> omega)
          rw [← hf] at hen
          have hqb : f * triF 1 M k ≤ 20 * 40000000 := Nat.mul_le_mul hf20 hb1
          have s1 : (f : Int) * (triF 1 M k : Nat) = ((f * triF 1 M k : Nat) : Int) := by push_cast; rfl
          have HS2 := Lib.hid (show Law w [tOwn (.slice (some ⟨g2, 0, none⟩) (mm + 1) (mm + 1)) (lstL (mm + 1) (triN 1 M (k + 1))), tOwn (.slice (some ⟨g, 0, none⟩) mm p) (lstL mm (triF 1 M))] _ from hS2)
          generalize triP 1 M k = pk at *
          generalize triF 1 (M + 1) k = e1 at *
          generalize triF 1 M k = x at *
          obtain ⟨qq, hqq⟩ : ∃ qq, qq = f * x := ⟨_, rfl⟩
          rw [← hqq] at s1 hen hqb
          rw [hF.out] at s1
          have he1 : (pk : Int) + (qq : Int) = (e1 : Int) := by rw [hen]; exact (Int.natCast_add pk qq).symm
          have hA0 : wrap64 (((mm : Int) - 1) * x) = ((mm : Int) - 1) * x := by rw [s1]; exact wrap_n9 qq (Nat.le_trans hqb (by decide))
          have hA : wrap64 ((pk : Int) + ((mm : Int) - 1) * x) = e1 := by rw [s1, he1]; exact wrap_n9 e1 (Nat.le_trans hb2 (by decide))
          have hX : wrap64 (x : Int) = x := wrap_n9 x (Nat.le_trans hb1 (by decide))
          have HA := Lib.hid hA
          have HA0 := Lib.hid hA0
          have HX := Lib.hid hX
          have hk0 : (0 : Int) ≤ k := by omega
          have hk1 : (k : Int) < (mm : Int) + 1 := by omega
          have hk2 : (k : Int) + 1 < (mm : Int) + 1 := by omega
          have hk3 : (k : Int) < mm := by omega
          have Z1 := Lib.hid z1
          have Z2 := Lib.hid z2
          clear he1 hqq hf hf20 hF hA hA0 hX s1 hen hqb hb1 hb2 hS hS2 o1 o2 o3 z1 z2 L
          go_upto_region 10 with fail
          rw [HX.out]
          have z1 := Z1.out
          have z2 := Z2.out
          generalize wr.setCell ⟨g2, k + 1, none⟩ (.int .i64 (x : Int)) = w6 at *
          clear Z1 Z2 y1 y2 ix
          go_wp2_with fail
          go_roundw
          case rel => exact ⟨k + 1, by omega, by go_num, by first | exact HS2.out | (rw [HA.out]; exact HS2.out) | (rw [HA0.out, HA.out]; exact HS2.out)⟩
          case measure => simp [intOf]; omega
        · obtain rfl : k = mm := by omega
          have hfl : lstL (k + 1) (triN 1 M k) = lstL (k + 1) (triF 1 k) := by
            have := HMM.out
            subst this
            exact triN_full 1 M (by omega) (by omega)
          rw [hfl] at L
          have HL := Lib.hid (show Law w [tOwn (.slice (some ⟨g2, 0, none⟩) (k + 1) (k + 1)) (lstL (k + 1) (triF 1 k))] wr from L.sub (by simp))
          clear hfl
          clear L hkM
          go_wp2_with fail
          go_roundw
          case rel => exact ⟨k, _, _, by omega, by go_num, rfl, HL.out⟩
          case measure => simp [intOf]; have := HMM.out; omega
    · obtain rfl : M = N := by omega
      have hle : ¬ ((M + 1 : Nat) : Int) ≤ M := by omega
      have HL := Lib.hid L
      clear L hlt
      go_wp2_with fail
      go_ret
      exact ⟨_, _, rfl, HL.out.ownLo, HL.out.below⟩

set_option maxRecDepth 100000 in
set_option maxHeartbeats 6400000 in
theorem tri2_any (N : Nat) (w : World) (hN10 : N ≤ 10) : Calls Try.prog 62 #[.int .i64 N, .int .i64 2] w fun e w' => ∃ g p, e = .returned (.slice (some ⟨g, 0, none⟩) (N + 1) p) ∧ Own w' w.heap.size (.slice (some ⟨g, 0, none⟩) (N + 1) p) (lstL (N + 1) (triF 2 N)) ∧ Below w.heap.size w w' := by
  have hNI : (N : Int) ≤ 10 := by omega
  have L0 := (Law.start w).own (below_new _) (own_of_has (lo := w.heap.size) (xs := [1]) (Has.new w [.int .i64 1] 3) (Nat.le_refl _) rfl (by show 1 ≤ maxLen; unfold maxLen; omega))
  rw [show ([1] : List Int) = lstL 1 (triF 2 0) from rfl] at L0
  rw [show w.alloc (.cells ([.int .i64 1] : List Value).toArray 3) = w.alloc (.cells #[.int .i64 1] 3) from rfl] at L0
  have HL := Lib.hid L0
  clear L0
  go_enter Try.func62, Try.ntmps62
  go_wp2_with fail
  go_loopw [5, 6] (fun o i wr => ∃ (M g p : Nat), M ≤ N ∧ i = .int .i64 ((M + 1 : Nat) : Int) ∧ o = .slice (some ⟨g, 0, none⟩) (M + 1) p ∧ Law w [tOwn (.slice (some ⟨g, 0, none⟩) (M + 1) p) (lstL (M + 1) (triF 2 M))] wr) (fun _ i _ => N + 1 - (intOf i).toNat)
  case atStart => exact ⟨0, _, _, Nat.zero_le _, rfl, rfl, HL.out⟩
  case round =>
    clear HL
    obtain ⟨M, g, p, hMN, rfl, rfl, L⟩ := hrel
    obtain ⟨wo, rfl⟩ : ∃ wo : World, wo = wr := ⟨_, rfl⟩
    by_cases hlt : M + 1 ≤ N
    · obtain ⟨mm, hmm⟩ : ∃ mm, mm = M + 1 := ⟨_, rfl⟩
      have hle : (mm : Int) ≤ N := by omega
      have hmk : ∀ w, (Instr.makeSlice 25 (.int .i64 ((mm + 1 : Nat) : Int)) (.int .i64 ((mm + 1 : Nat) : Int))).run Try.prog w = .ok (.slice (some ⟨w.heap.size, 0, none⟩) (mm + 1) (mm + 1)) (w.alloc (.cells (madeCells #[.int .i64 0] (mm + 1)) 3)) := by
        intro w
        exact run_make_row' (P := Try.prog) 25 3 (.int .i64 0) 8 Try.underlying25 Try.infoI rfl .i64 .i64 (mm + 1) (by omega) (by omega) w
      have L1 := L.own (below_new _) (own_made wo (mm + 1) _ wo.heap.size rfl (Nat.le_refl _) (by omega))
      rw [triN_zero 2 M (mm + 1)] at L1
      rw [← hmm] at L1 ⊢
      have HL1 := Lib.hid L1
      have HMM := Lib.hid hmm
      have hM10 : M ≤ 9 := by omega
      have hmI : (mm : Int) ≤ 10 := by omega
      have hc1 : ((mm + 1 : Nat) : Int) = (mm : Int) + 1 := by omega
      rw [hc1] at hmk
      clear L L1 hmm hc1
      go_wp2_with fail
      generalize wo.alloc (.cells (madeCells #[.int .i64 0] (mm + 1)) 3) = w5 at *
      obtain ⟨g2, hgg⟩ : ∃ g2, g2 = wo.heap.size := ⟨_, rfl⟩
      rw [← hgg] at HL1 ⊢
      clear hmk hgg
      go_loopw [22] (fun i wr => ∃ k : Nat, k ≤ mm ∧ i = .int .i64 k ∧ Law w [tOwn (.slice (some ⟨g2, 0, none⟩) (mm + 1) (mm + 1)) (lstL (mm + 1) (triN 2 M k)), tOwn (.slice (some ⟨g, 0, none⟩) mm p) (lstL mm (triF 2 M))] wr) (fun i _ => mm - (intOf i).toNat)
      case atStart => exact ⟨0, Nat.zero_le _, rfl, HL1.out⟩
      case round =>
        clear HL1
        obtain ⟨k, hk, rfl, L⟩ := hrel
        by_cases hkM : k < mm
        · have o2 := L.tl.ownInts
          have ix := Own.cell (by rw [lstL_len]; exact o2) k (by rw [lstL_len]; exact hkM)
          rw [lstL_get mm _ _ hkM] at ix
          have o1 := L.ownInts
          have y1 := Own.cell (by rw [lstL_len]; exact o1) (k + 1) (by rw [lstL_len]; omega)
          have y2 := Own.free (by rw [lstL_len]; exact o1) (k + 1)
          rw [lstL_get (mm + 1) _ _ (by omega), show triN 2 M k (k + 1) = 0 by unfold triN; rw [if_neg (by omega), if_neg (by omega)]] at y1
          have hS := Law.store (ts := []) L (lstL_len _ _) (k + 1) ((triF 2 M k : Nat) : Int)
          rw [triN_set1] at hS
          have o3 := Law.ownInts (s := .slice (some ⟨g2, 0, none⟩) (mm + 1) (mm + 1)) (by simpa using hS)
          have z1 := Own.cell (by rw [lstL_len]; exact o3) k (by rw [lstL_len]; omega)
          have z2 := Own.free (by rw [lstL_len]; exact o3) k
          rw [lstL_get (mm + 1) _ _ (by omega), show triN2 2 M k k = triP 2 M k by simp [triN2]] at z1
          have hS2 := Law.store (ts := []) (show Law w ([] ++ tOwn (.slice (some ⟨g2, 0, none⟩) (mm + 1) (mm + 1)) (lstL (mm + 1) (triN2 2 M k)) :: [tOwn (.slice (some ⟨g, 0, none⟩) mm p) (lstL mm (triF 2 M))]) _ from hS) (lstL_len _ _) k ((triF 2 (M + 1) k : Nat) : Int)
          rw [triN_set2] at hS2
          have hb1 := tri_bd 2 M k (by omega) (by omega) (by have := HMM.out; omega)
          have hb2 := tri_bd 2 (M + 1) k (by omega) (by omega) (by have := HMM.out; omega)
          have hen := triF_next 2 M k
          obtain ⟨f, hf⟩ : ∃ f, f = facT 2 M k := ⟨_, rfl⟩
          have hf20 : f ≤ 20 := by rw [hf]; unfold facT; have := HMM.out; simp; omega
          have hF := Lib.hid (show (f : Int) = ((mm : Int) - 1 + k) by rw [hf]; unfold facT; have := HMM.out; simp <;> omega)
          rw [← hf] at hen
          have hqb : f * triF 2 M k ≤ 20 * 40000000 := Nat.mul_le_mul hf20 hb1
          have s1 : (f : Int) * (triF 2 M k : Nat) = ((f * triF 2 M k : Nat) : Int) := by push_cast; rfl
          have HS2 := Lib.hid (show Law w [tOwn (.slice (some ⟨g2, 0, none⟩) (mm + 1) (mm + 1)) (lstL (mm + 1) (triN 2 M (k + 1))), tOwn (.slice (some ⟨g, 0, none⟩) mm p) (lstL mm (triF 2 M))] _ from hS2)
          generalize triP 2 M k = pk at *
          generalize triF 2 (M + 1) k = e1 at *
          generalize triF 2 M k = x at *
          obtain ⟨qq, hqq⟩ : ∃ qq, qq = f * x := ⟨_, rfl⟩
          rw [← hqq] at s1 hen hqb
          rw [hF.out] at s1
          have he1 : (pk : Int) + (qq : Int) = (e1 : Int) := by rw [hen]; exact (Int.natCast_add pk qq).symm
          have hA0 : wrap64 (((mm : Int) - 1 + k) * x) = ((mm : Int) - 1 + k) * x := by rw [s1]; exact wrap_n9 qq (Nat.le_trans hqb (by decide))
          have hA : wrap64 ((pk : Int) + ((mm : Int) - 1 + k) * x) = e1 := by rw [s1, he1]; exact wrap_n9 e1 (Nat.le_trans hb2 (by decide))
          have hX : wrap64 (x : Int) = x := wrap_n9 x (Nat.le_trans hb1 (by decide))
          have HA := Lib.hid hA
          have HA0 := Lib.hid hA0
          have HX := Lib.hid hX
          have hk0 : (0 : Int) ≤ k := by omega
          have hk1 : (k : Int) < (mm : Int) + 1 := by omega
          have hk2 : (k : Int) + 1 < (mm : Int) + 1 := by omega
          have hk3 : (k : Int) < mm := by omega
          have Z1 := Lib.hid z1
          have Z2 := Lib.hid z2
          clear he1 hqq hf hf20 hF hA hA0 hX s1 hen hqb hb1 hb2 hS hS2 o1 o2 o3 z1 z2 L
          go_upto_region 10 with fail
          rw [HX.out]
          have z1 := Z1.out
          have z2 := Z2.out
          generalize wr.setCell ⟨g2, k + 1, none⟩ (.int .i64 (x : Int)) = w6 at *
          clear Z1 Z2 y1 y2 ix
          go_wp2_with fail
          go_roundw
          case rel => exact ⟨k + 1, by omega, by go_num, by first | exact HS2.out | (rw [HA.out]; exact HS2.out) | (rw [HA0.out, HA.out]; exact HS2.out)⟩
          case measure => simp [intOf]; omega
        · obtain rfl : k = mm := by omega
          have hfl : lstL (k + 1) (triN 2 M k) = lstL (k + 1) (triF 2 k) := by
            have := HMM.out
            subst this
            exact triN_full 2 M (by omega) (by omega)
          rw [hfl] at L
          have HL := Lib.hid (show Law w [tOwn (.slice (some ⟨g2, 0, none⟩) (k + 1) (k + 1)) (lstL (k + 1) (triF 2 k))] wr from L.sub (by simp))
          clear hfl
          clear L hkM
          go_wp2_with fail
          go_roundw
          case rel => exact ⟨k, _, _, by omega, by go_num, rfl, HL.out⟩
          case measure => simp [intOf]; have := HMM.out; omega
    · obtain rfl : M = N := by omega
      have hle : ¬ ((M + 1 : Nat) : Int) ≤ M := by omega
      have HL := Lib.hid L
      clear L hlt
      go_wp2_with fail
      go_ret
      exact ⟨_, _, rfl, HL.out.ownLo, HL.out.below⟩
end Go.Proofs.Ytddmommamcgelaa
