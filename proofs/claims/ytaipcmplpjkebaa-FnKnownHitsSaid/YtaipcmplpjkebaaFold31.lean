import Derived.Test.YtaipcmplpjkebaaFold28
import Derived.Test.YtaipcmplpjkebaaFold6

section
namespace Go.Proofs.Ytaipcmplpjkebaa
open Go.RowKit Go.WideShapes

def eulR (n : Int) : LR := if inB 1 n 10 then ⟨lstL n.toNat (eul n.toNat), true⟩ else ⟨[], false⟩
theorem eulR_len (n : Int) : (eulR n).ys.length ≤ 1048576 := by
  unfold eulR
  split
  · rename_i h
    have := inB_iff.1 h
    show (lstL _ _).length ≤ _
    rw [lstL_len]; omega
  · simp
/-- What the column before brings. -/
def eulP (M k : Nat) : Nat := if k = 0 then 0 else (M + 1 - k) * eul M (k - 1)
theorem eul_next (M k : Nat) (h : 1 ≤ M) : eul (M + 1) k = eulP M k + (k + 1) * eul M k := by
  obtain ⟨m, rfl⟩ : ∃ m, M = m + 1 := ⟨M - 1, by omega⟩
  rw [eul, eulP, Nat.add_comm]
theorem eulP_next (M k : Nat) : eulP M (k + 1) = (M - k) * eul M k := by
  unfold eulP
  rw [if_neg (by omega), Nat.add_sub_cancel, show M + 1 - (k + 1) = M - k by omega]
theorem eul_out (M : Nat) (h : M ≤ 10) : eul M M = 0 := by
  have key : ∀ M : Fin 11, eul M M = 0 := by decide +kernel
  exact key ⟨M, by omega⟩
/-- The next numbers, the first k told, and what the next one has so far. -/
def eulN (M k i : Nat) : Nat := if i < k then eul (M + 1) i else if i = k then eulP M k else 0
/-- .. the k-th told, too. -/
def eulN2 (M k i : Nat) : Nat := if i < k + 1 then eul (M + 1) i else 0
theorem eulN_zero (M L : Nat) : List.replicate L (0 : Int) = lstL L (eulN M 0) := by
  rw [lstL_zero]
  exact lstL_congr L _ _ (fun k _ => by unfold eulN eulP; simp)
theorem eulN_full (M : Nat) (h1 : 1 ≤ M) (h : M ≤ 10) : lstL (M + 1) (eulN M M) = lstL (M + 1) (eul (M + 1)) := lstL_congr _ _ _ (fun k hk => by
  unfold eulN
  by_cases e : k < M
  · rw [if_pos e]
  · have : k = M := by omega
    subst this
    rw [if_neg e, if_pos rfl, eul_next k k h1, eul_out k h, Nat.mul_zero, Nat.add_zero])
theorem eulN_set1 (M L k : Nat) : (lstL L (eulN M k)).set k ((eul (M + 1) k : Nat) : Int) = lstL L (eulN2 M k) :=
  lstL_set L _ _ k _ (by simp [eulN2]) (fun i _ hi => by
    unfold eulN eulN2
    by_cases h : i < k
    · rw [if_pos h, if_pos (by omega)]
    · rw [if_neg h, if_neg hi, if_neg (by omega)])
theorem eulN_set2 (M L k : Nat) : (lstL L (eulN2 M k)).set (k + 1) ((eulP M (k + 1) : Nat) : Int) = lstL L (eulN M (k + 1)) :=
  lstL_set L _ _ (k + 1) _ (by simp [eulN]) (fun i _ hi => by
    unfold eulN eulN2
    by_cases h : i < k + 1
    · rw [if_pos h, if_pos h]
    · rw [if_neg h, if_neg h, if_neg hi])

theorem wrap_nat (q : Nat) (h : q ≤ 1000000000) : wrap64 (q : Int) = q := IntWalk.wrap64_in _ (by omega)
set_option maxRecDepth 100000 in
set_option maxHeartbeats 6400000 in
theorem specEul_any (n : Int) (w : World) : Calls Try.prog 26 #[.int .i64 n] w fun e w' => AnsL (eulR n) w e w' := by
  have h1 := l1In_any n 1 10 w
  cases hg : inB 1 n 10
  · rw [show eulR n = ⟨[], false⟩ by simp [eulR, hg]]
    rw [hg] at h1
    have H1 := Lib.hid h1
    clear hg h1
    go_enter Try.func26, Try.ntmps26
    go_wp2_with fail
    refine H1.out.mono ?_
    rintro e w1 ⟨rfl, hw⟩
    subst hw
    go_wp2_with fail
    go_ret2
    exact ⟨_, rfl, Own.nil _ _, Below.refl _ _⟩
  · obtain ⟨n1, n2⟩ := inB_iff.1 hg
    obtain ⟨N, rfl⟩ := Int.eq_ofNat_of_zero_le (show 0 ≤ n by omega)
    rw [show eulR N = ⟨lstL N (eul N), true⟩ by simp [eulR, hg]]
    rw [hg] at h1
    have H1 := Lib.hid h1
    have hN10 : N ≤ 10 := by omega
    have hN1 : 1 ≤ N := by omega
    have hNI : (N : Int) ≤ 10 := by omega
    have L0 := (Law.start w).own (below_new _) (own_of_has (lo := w.heap.size) (xs := [1]) (Has.new w [.int .i64 1] 3) (Nat.le_refl _) rfl (by show 1 ≤ maxLen; unfold maxLen; omega))
    rw [show ([1] : List Int) = lstL 1 (eul 1) from rfl] at L0
    rw [show w.alloc (.cells ([.int .i64 1] : List Value).toArray 3) = w.alloc (.cells #[.int .i64 1] 3) from rfl] at L0
    have HL := Lib.hid L0
    clear hg h1 n1 n2 L0
    go_enter Try.func26, Try.ntmps26
    go_wp2_with fail
    refine H1.out.mono ?_
    rintro e w1 ⟨rfl, hw⟩
    subst w1
    go_wp2_with fail
    go_loopw [4, 5] (fun o i wr => ∃ (M g p : Nat), 1 ≤ M ∧ M ≤ N ∧ i = .int .i64 ((M + 1 : Nat) : Int) ∧ o = .slice (some ⟨g, 0, none⟩) M p ∧ Law w [tOwn (.slice (some ⟨g, 0, none⟩) M p) (lstL M (eul M))] wr) (fun _ i _ => N + 1 - (intOf i).toNat)
    case atStart => exact ⟨1, _, _, Nat.le_refl _, hN1, rfl, rfl, HL.out⟩
    case round =>
      clear HL
      obtain ⟨M, g, p, hM1, hMN, rfl, rfl, L⟩ := hrel
      obtain ⟨wo, rfl⟩ : ∃ wo : World, wo = wr := ⟨_, rfl⟩
      by_cases hlt : M + 1 ≤ N
      · obtain ⟨mm, hmm⟩ : ∃ mm, mm = M + 1 := ⟨_, rfl⟩
        have hle : (mm : Int) ≤ N := by omega
        have hmk : ∀ w, (Instr.makeSlice 25 (.int .i64 (mm : Int)) (.int .i64 (mm : Int))).run Try.prog w = .ok (.slice (some ⟨w.heap.size, 0, none⟩) mm mm) (w.alloc (.cells (madeCells #[.int .i64 0] mm) 3)) := by
          intro w
          exact run_make_row' (P := Try.prog) 25 3 (.int .i64 0) 8 Try.underlying25 Try.infoI rfl .i64 .i64 mm (by omega) (by omega) w
        have L1 := L.own (below_new _) (own_made wo mm _ wo.heap.size rfl (Nat.le_refl _) (by omega))
        rw [eulN_zero M mm] at L1
        have HL1 := Lib.hid L1
        rw [← hmm]
        have HMM := Lib.hid hmm
        have hM10 : M ≤ 9 := by omega
        have HM1 := Lib.hid hM1
        clear L L1 hmm
        go_wp2_with fail
        generalize wo.alloc (.cells (madeCells #[.int .i64 0] mm) 3) = w5 at *
        obtain ⟨g2, hgg⟩ : ∃ g2, g2 = wo.heap.size := ⟨_, rfl⟩
        rw [← hgg] at HL1 ⊢
        clear hmk hgg
        go_loopw [22] (fun i wr => ∃ k : Nat, k ≤ M ∧ i = .int .i64 k ∧ Law w [tOwn (.slice (some ⟨g2, 0, none⟩) mm mm) (lstL mm (eulN M k)), tOwn (.slice (some ⟨g, 0, none⟩) M p) (lstL M (eul M))] wr) (fun i _ => M - (intOf i).toNat)
        case atStart => exact ⟨0, Nat.zero_le _, rfl, HL1.out⟩
        case round =>
          clear HL1
          obtain ⟨k, hk, rfl, L⟩ := hrel
          by_cases hkM : k < M
          · have o2 := L.tl.ownInts
            have ix := Own.cell (by rw [lstL_len]; exact o2) k (by rw [lstL_len]; exact hkM)
            rw [lstL_get M _ _ hkM] at ix
            have o1 := L.ownInts
            have y1 := Own.cell (by rw [lstL_len]; exact o1) k (by rw [lstL_len]; have := HMM.out; omega)
            have y2 := Own.free (by rw [lstL_len]; exact o1) k
            rw [lstL_get mm _ _ (by have := HMM.out; omega), show eulN M k k = eulP M k by simp [eulN]] at y1
            have hS := Law.store (ts := []) L (lstL_len _ _) k ((eul (M + 1) k : Nat) : Int)
            rw [eulN_set1] at hS
            have o3 := Law.ownInts (s := .slice (some ⟨g2, 0, none⟩) mm mm) (by simpa using hS)
            have z1 := Own.cell (by rw [lstL_len]; exact o3) (k + 1) (by rw [lstL_len]; have := HMM.out; omega)
            have z2 := Own.free (by rw [lstL_len]; exact o3) (k + 1)
            rw [lstL_get mm _ _ (by have := HMM.out; omega), show eulN2 M k (k + 1) = 0 by simp [eulN2]] at z1
            have hS2 := Law.store (ts := []) (show Law w ([] ++ tOwn (.slice (some ⟨g2, 0, none⟩) mm mm) (lstL mm (eulN2 M k)) :: [tOwn (.slice (some ⟨g, 0, none⟩) M p) (lstL M (eul M))]) _ from hS) (lstL_len _ _) (k + 1) ((eulP M (k + 1) : Nat) : Int)
            rw [eulN_set2] at hS2
            have hb1 := eul_bd M k (by omega) (by omega)
            have hb2 := eul_bd (M + 1) k (by omega) (by omega)
            have hen := eul_next M k HM1.out
            have hpn := eulP_next M k
            have hpb : (M - k) * eul M k ≤ 36288000 := Nat.le_trans (Nat.mul_le_mul (show M - k ≤ 10 by omega) hb1) (by omega)
            have hqb : (k + 1) * eul M k ≤ 36288000 := Nat.le_trans (Nat.mul_le_mul (show k + 1 ≤ 10 by omega) hb1) (by omega)
            have s1 : ((k : Int) + 1) * (eul M k : Nat) = (((k + 1) * eul M k : Nat) : Int) := by push_cast; rfl
            have s2 : ((M - k : Nat) : Int) * (eul M k : Nat) = (((M - k) * eul M k : Nat) : Int) := by push_cast; rfl
            have hm2 : ((mm : Int) - k - 1) = ((M - k : Nat) : Int) := by have := HMM.out; omega
            rw [← hpn] at s2 hpb
            have HS2 := Lib.hid (show Law w [tOwn (.slice (some ⟨g2, 0, none⟩) mm mm) (lstL mm (eulN M (k + 1))), tOwn (.slice (some ⟨g, 0, none⟩) M p) (lstL M (eul M))] _ from hS2)
            generalize eulP M (k + 1) = pn at *
            generalize eulP M k = pk at *
            generalize eul (M + 1) k = e1 at *
            generalize eul M k = x at *
            obtain ⟨qq, hqq⟩ : ∃ qq, qq = (k + 1) * x := ⟨_, rfl⟩
            rw [← hqq] at s1 hen hqb
            have hA0 : wrap64 (((k : Int) + 1) * x) = ((k : Int) + 1) * x := by rw [s1]; exact wrap_nat qq (Nat.le_trans hqb (by decide))
            have he1 : (pk : Int) + (qq : Int) = (e1 : Int) := by rw [hen]; exact (Int.natCast_add pk qq).symm
            have hA : wrap64 ((pk : Int) + ((k : Int) + 1) * x) = e1 := by rw [s1, he1]; exact wrap_nat e1 (Nat.le_trans hb2 (by decide))
            have hB : wrap64 (((mm : Int) - k - 1) * x) = pn := by rw [hm2, s2]; exact wrap_nat pn (Nat.le_trans hpb (by decide))
            have hB0 : wrap64 (pn : Int) = pn := wrap_nat pn (Nat.le_trans hpb (by decide))
            clear he1
            clear hqq
            have HA := Lib.hid hA
            have HA0 := Lib.hid hA0
            have HB := Lib.hid hB
            have HB0 := Lib.hid hB0
            have hk0 : (0 : Int) ≤ k := by omega
            have hk1 : (k : Int) < mm := by have := HMM.out; omega
            have hk2 : (k : Int) + 1 < mm := by have := HMM.out; omega
            have hk3 : (k : Int) < M := by omega
            have hmI : (mm : Int) ≤ 10 := by omega
            have Z1 := Lib.hid z1
            have Z2 := Lib.hid z2
            clear hA hA0 hB hB0 s1 s2 hen hpn hpb hqb hb1 hb2 hm2 hS hS2 o1 o2 o3 z1 z2 L
            go_upto_region 12 with fail
            rw [HA0.out, HA.out]
            have z1 := Z1.out
            have z2 := Z2.out
            generalize wr.setCell ⟨g2, k, none⟩ (.int .i64 (e1 : Int)) = w6 at *
            clear Z1 Z2 y1 y2 ix HA0 HA
            go_wp2_with fail
            go_roundw
            case rel => exact ⟨k + 1, by omega, by go_num, by first | exact HS2.out | (rw [HB.out]; exact HS2.out) | (rw [HB.out, HB0.out]; exact HS2.out)⟩
            case measure => simp [intOf]; omega
          · obtain rfl : k = M := by omega
            have hfl : lstL mm (eulN k k) = lstL mm (eul mm) := by rw [HMM.out]; exact eulN_full k HM1.out (by omega)
            rw [hfl] at L
            have HL := Lib.hid (show Law w [tOwn (.slice (some ⟨g2, 0, none⟩) mm mm) (lstL mm (eul mm))] wr from L.sub (by simp))
            clear hfl
            clear L hkM
            go_wp2_with fail
            go_roundw
            case rel => exact ⟨mm, _, _, by have := HMM.out; omega, by omega, by go_num, rfl, HL.out⟩
            case measure => simp [intOf]; have := HMM.out; omega
      · obtain rfl : M = N := by omega
        have hle : ¬ ((M + 1 : Nat) : Int) ≤ M := by omega
        have HL := Lib.hid L
        clear L hlt
        go_wp2_with fail
        go_ret2
        exact ⟨_, rfl, HL.out.ownLo, HL.out.below⟩
end Go.Proofs.Ytaipcmplpjkebaa
end

section
namespace Go.Proofs.Ytaipcmplpjkebaa
open Go.RowKit Go.WideShapes

set_option maxHeartbeats 800000 in
theorem clip_any (g n p : Nat) (w : World) (hp : n ≤ p) : Calls Try.prog 70 #[.slice (some ⟨g, 0, none⟩) n p] w fun e w' => e = .returned (.slice (some ⟨g, 0, none⟩) n n) ∧ w' = w := by
  have h0 : (0 : Int) ≤ n := by omega
  have h1 : (n : Int) ≤ p := by omega
  go_enter Try.func70, Try.ntmps70
  go_wp2_with fail
  go_ret
  exact ⟨rfl, rfl⟩

theorem implEul_no (n : Int) (w : World) (hg : inB 1 n 10 = false) : Calls Try.prog 17 #[.int .i64 n] w fun e w' => e = .returned (.tuple #[.slice none 0 0, .bool false]) ∧ w' = w := by
  have hno : ¬ (1 ≤ n ∧ n ≤ 10) := fun h => by rw [inB_yes h.1 h.2] at hg; cases hg
  clear hg
  by_cases a : n < 1
  · clear hno
    go_enter Try.func17, Try.ntmps17
    go_wp2_with fail
    go_ret2
    exact ⟨rfl, rfl⟩
  · have b : 10 < n := by omega
    clear hno
    go_enter Try.func17, Try.ntmps17
    go_wp2_with fail
    go_ret2
    exact ⟨rfl, rfl⟩
/-- .. a list and one cell more behind it. -/
def Clip (w : World) (lo : Nat) (v : Value) (xs : List Int) : Prop := ∃ g q z, v = .slice (some ⟨g, 0, none⟩) xs.length xs.length ∧ Own w lo (.slice (some ⟨g, 0, none⟩) (xs.length + 1) q) (xs ++ [z])
set_option maxRecDepth 100000 in
set_option maxHeartbeats 1600000 in
theorem implEul_yes (n : Int) (w : World) (hg : inB 1 n 10 = true) : Calls Try.prog 17 #[.int .i64 n] w fun e w' => ∃ v, e = .returned (.tuple #[v, .bool true]) ∧ Clip w' w.heap.size v (lstL n.toNat (eul n.toNat)) ∧ Below w.heap.size w w' := by
  obtain ⟨h1, h2⟩ := inB_iff.1 hg
  obtain ⟨m, rfl⟩ := Int.eq_ofNat_of_zero_le (show 0 ≤ n by omega)
  rw [Int.toNat_natCast]
  have hm10 : m ≤ 10 := by omega
  have hm1 : 1 ≤ m := by omega
  have HC := Lib.hid (hitsBy_any m 64 aboveR (stir m) w (by omega) (fun _ _ => by kernel_rfl) (fun r c _ _ W => above_any m r c W) (fun j _ => by rw [← wR_above m m 0 j (by omega)]) (fun j hj => small_abs m j (stir m) hm10 hj (stir_bd m j hm10 (by omega))))
  have HE := Lib.hid (show lstH (m + 1) (hitF m (stir m)) = lstL m (eul m) ++ [hitF m (stir m) m] by
    have e : lstH (m + 1) (hitF m (stir m)) = lstH m (hitF m (stir m)) ++ [hitF m (stir m) m] := by simp [lstH, List.range_succ]
    rw [e]
    congr 1
    exact lstH_congr m _ _ (fun k hk => eul_hits m k hm1 hm10 hk))
  have HLL := Lib.hid (lstL_len m (eul m))
  generalize hitF m (stir m) m = z at *
  generalize lstL m (eul m) = ys at *
  have i1 : ¬ (m : Int) < 1 := by omega
  have i2 : ¬ (10 : Int) < m := by omega
  have i3 : (0 : Int) ≤ m := by omega
  clear hg h1 h2 hm1 hm10
  go_enter Try.func17, Try.ntmps17
  go_wp2_with fail
  refine HC.out.mono ?_
  rintro e w1 ⟨g, p, rfl, hO, hb⟩
  rw [HE.out] at hO
  have hpc : m + 1 ≤ p := by
    rcases hO.cases with ⟨e, _⟩ | ⟨g', cap, e, _, _, h3, _⟩
    · cases e
    · injection e with _ _ e3
      rw [List.length_append, HLL.out] at h3
      simp at h3
      omega
  have hpI : (m : Int) ≤ p := by omega
  have HCL := Lib.hid (fun W => clip_any g m p W (by omega))
  have HO := Lib.hid (And.intro hO hb)
  clear hO hb HC
  go_wp2_with fail
  refine (HCL.out _).mono ?_
  rintro e w2 ⟨rfl, rfl⟩
  go_wp2_with fail
  go_ret2
  refine ⟨_, rfl, ⟨g, p, z, ?_, ?_⟩, HO.out.2⟩
  · rw [HLL.out]; rfl
  · rw [HLL.out]; exact HO.out.1

theorem clip_reads {w : World} {lo g q : Nat} {z : Int} {xs : List Int} (h : Own w lo (.slice (some ⟨g, 0, none⟩) (xs.length + 1) q) (xs ++ [z])) : Reads w (some ⟨g, 0, none⟩) xs.length xs := by
  have hl : (xs ++ [z]).length = xs.length + 1 := by simp
  refine ⟨rfl, .inr ⟨g, 0, rfl, ?_, fun j hj => ?_⟩⟩
  · rcases h.cases with ⟨e, _⟩ | ⟨g', cap, e, _, h2, _⟩
    · cases e
    · injection e with e1 _ _
      injection e1 with e1
      injection e1 with e1
      omega
  · have := Own.cell (by rw [hl]; exact h) j (by omega)
    rw [Nat.zero_add, this]
    simp [List.getD, List.getElem?_append_left hj]
end Go.Proofs.Ytaipcmplpjkebaa
end
