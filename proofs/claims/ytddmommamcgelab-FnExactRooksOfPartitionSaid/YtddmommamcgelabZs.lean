/- RooksOfPartition and FilesOfCycles, in the specification. No condition but the sizes. -/
import Derived.Test.YtddmommamcgelabZq
import Derived.Test.YtddmommamcgelabZl
namespace Go.Proofs.Ytddmommamcgelab
open Go.RowKit Go.WideShapes

theorem own_capZ {w : World} {lo : Nat} {a : Option Addr} {n p : Nat} {xs : List Int} (h : Own w lo (.slice a n p) xs) : n ≤ p := by
  rcases h.cases with ⟨h0, _⟩ | ⟨g', p', h0, _, _, h1, _⟩
  · injection h0 with _ h2 h3
    omega
  · injection h0 with _ h2 h3
    omega
theorem OwnM.rowCap {w : World} {lo n cap : Nat} {a : Option Addr} {vs : List Value} {zz : List (List Int)} (h : OwnM w lo (.slice a n cap) vs zz) (i : Nat) (hi : i < zz.length) :
    ∃ g aj cj, a = some ⟨g, 0, none⟩ ∧ g < w.heap.size ∧ w.cell? ⟨g, i, none⟩ = some (.slice aj (rowZ zz i).length cj) ∧ (rowZ zz i).length ≤ cj ∧ Reads w aj (rowZ zz i).length (rowZ zz i) := by
  have hl := h.len
  have hrow := h.row i (by omega)
  rcases h.cases with ⟨e, e2⟩ | ⟨g, cp, e, _, hg, _⟩
  · subst e2
    have h0 : zz.length = 0 := hl
    exact absurd hi (by rw [h0]; exact Nat.not_lt_zero i)
  · obtain ⟨aj, cj, hv, hr⟩ := hrow.reads
    rw [hv] at hrow
    have hcap := own_capZ hrow
    injection e with e1 e2 e3
    subst e1
    subst e2
    have hc := h.cell i (by omega)
    rw [hv] at hc
    rw [rowZ_eq zz i hi]
    exact ⟨g, aj, cj, rfl, hg, hc, hcap, hr⟩

set_option maxRecDepth 100000 in
set_option maxHeartbeats 6400000 in
theorem specRop_any (zz : List (List Int)) (w : World) (hl : zz.length + total zz ≤ 1048576) (lo : Nat) (s : Value) (vs : List Value) (hO : OwnM w lo s vs zz) :
    Calls Try.prog 22 #[s] w fun e w' => AnsL (rooksR zz) w e w' := by
  have HC := Lib.hid (fiBlocks_any true zz w hl lo s vs hO)
  obtain ⟨a, cap, rfl, hr⟩ := hO.reads
  have HR := Lib.hid hr
  clear hO hr
  cases hg : gB true zz
  · rw [show rooksR zz = ⟨[], false⟩ by simp [rooksR, hg]]
    rw [show blkN true zz = 0 by simp [blkN, hg]] at HC
    clear hg
    go_enter Try.func22, Try.ntmps22
    go_wp2_with fail
    refine HC.out.mono ?_
    rintro e w1 ⟨rfl, hb⟩
    have HB := Lib.hid hb
    clear hb
    go_wp2_with fail
    go_ret2
    exact ⟨_, rfl, Own.nil _ _, HB.out⟩
  · have g := gB_iff.1 hg
    rw [show rooksR zz = ⟨lstI (total zz) (allSt valP zz (fun _ => 0) zz.length), true⟩ by simp [rooksR, hg]]
    rw [show blkN true zz = (total zz : Nat) by simp [blkN, hg]] at HC
    have ht6 := g.tot
    have ht1 := g.total_pos
    have HG := Lib.hid g
    obtain ⟨T, hT⟩ : ∃ T, T = total zz := ⟨_, rfl⟩
    rw [← hT] at HC ht6 ht1 ⊢
    have HT := Lib.hid hT
    have hmk : ∀ w, (Instr.makeSlice 22 (.int .i64 (T : Int)) (.int .i64 (T : Int))).run Try.prog w = .ok (.slice (some ⟨w.heap.size, 0, none⟩) T T) (w.alloc (.cells (madeCells #[.int .i64 0] T) 3)) := by
      intro w
      exact run_make_row' (P := Try.prog) 22 3 (.int .i64 0) 8 Try.underlying22 Try.infoI rfl .i64 .i64 T (by omega) (by omega) w
    have hne : ((T : Int) == 0) = false := by rw [beq_eq_false_iff_ne]; omega
    clear hg g hT
    go_enter Try.func22, Try.ntmps22
    go_wp2_with fail
    refine HC.out.mono ?_
    rintro e w1 ⟨rfl, hb⟩
    have L1 := ((Law.start w).kept hb).own (below_new _) (own_made w1 T _ w1.heap.size rfl (Nat.le_refl _) (by omega))
    rw [lstI_zero] at L1
    have HL1 := Lib.hid L1
    clear hb HC L1
    go_upto_region 5 with fail
    generalize w1.alloc (.cells (madeCells #[.int .i64 0] T) 3) = w5 at *
    obtain ⟨g5, hg5⟩ : ∃ g5, g5 = w1.heap.size := ⟨_, rfl⟩
    rw [← hg5] at HL1 ⊢
    clear hmk hg5
    go_wp2_with fail
    go_loopw [18] (fun i wr => ∃ i0 : Nat, i0 ≤ zz.length ∧ i = .int .i64 i0 ∧ Law w [tOwn (.slice (some ⟨g5, 0, none⟩) T T) (lstI T (allSt valP zz (fun _ => 0) i0))] wr) (fun i _ => zz.length - (intOf i).toNat)
    case atStart => exact ⟨0, Nat.zero_le _, rfl, HL1.out⟩
    case round =>
      clear HL1
      obtain ⟨i0, hi0, rfl, L⟩ := hrel
      by_cases hlt : i0 < zz.length
      · obtain ⟨b, off, aj, cj, rfl, hbw, hcell, hrd⟩ := HR.out.row i0 hlt
        rw [← rowZ_eq zz i0 hlt] at hcell hrd
        replace hcell := (L.below.cell (p := ⟨b, off + i0, none⟩) hbw).trans hcell
        have hrl := total_row zz i0 hlt
        have hne2 := HG.out.ne i0 hlt
        have hlt' : (i0 : Int) < zz.length := by omega
        obtain ⟨f, hf⟩ : ∃ f, f = allSt valP zz (fun _ => 0) i0 := ⟨_, rfl⟩
        rw [← hf] at L
        have HF := Lib.hid hf
        have HL := Lib.hid L
        have HRD := Lib.hid hrd
        clear L hrd hf
        go_upto_region 9 with fail
        go_loopw [24] (fun i wr => ∃ k : Nat, k ≤ (rowZ zz i0).length ∧ i = .int .i64 k ∧ Law w [tOwn (.slice (some ⟨g5, 0, none⟩) T T) (lstI T (rowSt valP (rowZ zz i0) f k))] wr) (fun i _ => (rowZ zz i0).length - (intOf i).toNat)
        case atStart => exact ⟨0, Nat.zero_le _, rfl, HL.out⟩
        case round =>
          clear HL hcell
          obtain ⟨k, hk, rfl, L⟩ := hrel
          have HL := Lib.hid L
          by_cases hkl : k < (rowZ zz i0).length
          · obtain ⟨b2, off2, rfl, hb2w, hc⟩ := reads_row HRD.out (by omega)
            have hkl' : (k : Int) < (rowZ zz i0).length := by omega
            obtain ⟨c, hc0⟩ := Int.eq_ofNat_of_zero_le (HG.out.nonneg i0 k hlt hkl).1
            have hc6 := (HG.out.nonneg i0 k hlt hkl).2
            rw [hc0, ← HT.out] at hc6
            have HX := Lib.hid (show (rowZ zz i0).getD k 0 = (c : Int) from hc0)
            have hck := (L.below.cell (p := ⟨b2, off2 + k, none⟩) hb2w).trans (hc k hkl)
            rw [HX.out] at hck
            have hS := Law.store (ts := []) L (lstI_len _ _) c (-1)
            rw [lstI_upd] at hS
            have o1 := L.ownInts
            have y1 := Own.cell (by rw [lstI_len]; exact o1) c (by rw [lstI_len]; omega)
            have y2 := Own.free (by rw [lstI_len]; exact o1) c
            have hrs : rowSt valP (rowZ zz i0) f (k + 1) = upd (rowSt valP (rowZ zz i0) f k) c (valP (rowZ zz i0) k) := by
              rw [rowSt, HX.out]
              rfl
            have hvp : valP (rowZ zz i0) k = if k + 1 < (rowZ zz i0).length then (rowZ zz i0).getD (k + 1) 0 else -1 := rfl
            have hc1 : (0 : Int) ≤ c := by omega
            have hc2 : (c : Int) < T := by omega
            generalize (lstI T (rowSt valP (rowZ zz i0) f k)).getD c 0 = z0 at *
            by_cases hk1 : k + 1 < (rowZ zz i0).length
            · rw [if_pos hk1] at hvp
              have hcn := (L.below.cell (p := ⟨b2, off2 + (k + 1), none⟩) hb2w).trans (hc (k + 1) hk1)
              have o3 := Law.ownInts (s := .slice (some ⟨g5, 0, none⟩) T T) (by simpa using hS)
              have z1 := Own.cell (by rw [lstI_len]; exact o3) c (by rw [lstI_len]; omega)
              have z2 := Own.free (by rw [lstI_len]; exact o3) c
              have hS2 := Law.store (ts := []) (show Law w ([] ++ tOwn (.slice (some ⟨g5, 0, none⟩) T T) (lstI T (upd (rowSt valP (rowZ zz i0) f k) c (-1))) :: []) _ from hS) (lstI_len _ _) c ((rowZ zz i0).getD (k + 1) 0)
              rw [lstI_upd, upd_upd, ← hvp, ← hrs, hvp] at hS2
              have HS2 := Lib.hid (show Law w [tOwn (.slice (some ⟨g5, 0, none⟩) T T) (lstI T (rowSt valP (rowZ zz i0) f (k + 1)))] _ from hS2)
              have hcn2 : (wr.setCell ⟨g5, c, none⟩ (.int .i64 (-1))).cell? ⟨b2, off2 + (k + 1), none⟩ = some (.int .i64 ((rowZ zz i0).getD (k + 1) 0)) := ((show Law w [tOwn (.slice (some ⟨g5, 0, none⟩) T T) (lstI T (upd (rowSt valP (rowZ zz i0) f k) c (-1)))] _ from hS).below.cell (p := ⟨b2, off2 + (k + 1), none⟩) hb2w).trans (hc (k + 1) hk1)
              generalize (rowZ zz i0).getD (k + 1) 0 = y at *
              generalize (lstI T (upd (rowSt valP (rowZ zz i0) f k) c (-1))).getD c 0 = z9 at *
              have hk1' : (k : Int) + 1 < (rowZ zz i0).length := by omega
              have hkw : IntKind.i64.wrap ((k : Int) + 1) = (k : Int) + 1 := IntWalk.i64_in _ (by omega)
              clear hS hS2 o1 o3 hc hrs hvp L HL hcn
              go_upto_region 12 with fail
              generalize wr.setCell ⟨g5, c, none⟩ (.int .i64 (-1)) = w6 at *
              clear y1 y2 hck
              go_wp2_with fail
              go_roundw
              case rel => exact ⟨k + 1, by omega, by go_num, HS2.out⟩
              case measure => simp [intOf]; omega
            · rw [if_neg hk1] at hvp
              rw [← hvp, ← hrs] at hS
              have HS := Lib.hid (show Law w [tOwn (.slice (some ⟨g5, 0, none⟩) T T) (lstI T (rowSt valP (rowZ zz i0) f (k + 1)))] _ from hS)
              rw [hvp] at HS
              have hk1' : ¬ (k : Int) + 1 < (rowZ zz i0).length := by omega
              have hkw : IntKind.i64.wrap ((k : Int) + 1) = (k : Int) + 1 := IntWalk.i64_in _ (by omega)
              clear hS o1 hc hrs hvp L HL
              go_wp2_with fail
              go_roundw
              case rel => exact ⟨k + 1, by omega, by go_num, HS.out⟩
              case measure => simp [intOf]; omega
          · obtain hke : k = (rowZ zz i0).length := by omega
            have hkl' : ¬ (k : Int) < (rowZ zz i0).length := by omega
            have HS : Hid (Law w [tOwn (.slice (some ⟨g5, 0, none⟩) T T) (lstI T (allSt valP zz (fun _ => 0) (i0 + 1)))] wr) := Lib.hid (by
              rw [allSt, ← HF.out, ← hke]
              exact HL.out)
            clear L HL
            go_wp2_with fail
            go_roundw
            case rel => exact ⟨i0 + 1, by omega, by go_num, HS.out⟩
            case measure => simp [intOf]; omega
      · obtain rfl : i0 = zz.length := by omega
        have hlt' : ¬ ((zz.length : Nat) : Int) < zz.length := by omega
        have HL := Lib.hid L
        clear L
        go_wp2_with fail
        go_ret2
        exact ⟨_, rfl, HL.out.ownLo, HL.out.below⟩

set_option maxRecDepth 100000 in
set_option maxHeartbeats 6400000 in
theorem specFoc_any (zz : List (List Int)) (w : World) (hl : zz.length + total zz ≤ 1048576) (lo : Nat) (s : Value) (vs : List Value) (hO : OwnM w lo s vs zz) :
    Calls Try.prog 28 #[s] w fun e w' => AnsL (filesR zz) w e w' := by
  have HC := Lib.hid (fiBlocks_any false zz w hl lo s vs hO)
  obtain ⟨a, cap, rfl, _⟩ := hO.reads
  have HO := Lib.hid hO
  cases hg : gB false zz
  · rw [show filesR zz = ⟨[], false⟩ by simp [filesR, hg]]
    rw [show blkN false zz = 0 by simp [blkN, hg]] at HC
    clear hg hO
    go_enter Try.func28, Try.ntmps28
    go_wp2_with fail
    refine HC.out.mono ?_
    rintro e w1 ⟨rfl, hb⟩
    have HB := Lib.hid hb
    clear hb
    go_wp2_with fail
    go_ret2
    exact ⟨_, rfl, Own.nil _ _, HB.out⟩
  · have g := gB_iff.1 hg
    rw [show filesR zz = ⟨lstI (total zz) (allSt valC zz (fun _ => 0) zz.length), true⟩ by simp [filesR, hg]]
    rw [show blkN false zz = (total zz : Nat) by simp [blkN, hg]] at HC
    have ht6 := g.tot
    have ht1 := g.total_pos
    have HG := Lib.hid g
    obtain ⟨T, hT⟩ : ∃ T, T = total zz := ⟨_, rfl⟩
    rw [← hT] at HC ht6 ht1 ⊢
    have HT := Lib.hid hT
    have hmk : ∀ w, (Instr.makeSlice 22 (.int .i64 (T : Int)) (.int .i64 (T : Int))).run Try.prog w = .ok (.slice (some ⟨w.heap.size, 0, none⟩) T T) (w.alloc (.cells (madeCells #[.int .i64 0] T) 3)) := by
      intro w
      exact run_make_row' (P := Try.prog) 22 3 (.int .i64 0) 8 Try.underlying22 Try.infoI rfl .i64 .i64 T (by omega) (by omega) w
    have hne : ((T : Int) == 0) = false := by rw [beq_eq_false_iff_ne]; omega
    clear hg g hT hO
    go_enter Try.func28, Try.ntmps28
    go_wp2_with fail
    refine HC.out.mono ?_
    rintro e w1 ⟨rfl, hb⟩
    have L1 := ((Law.start w).kept hb).own (below_new _) (own_made w1 T _ w1.heap.size rfl (Nat.le_refl _) (by omega))
    rw [lstI_zero] at L1
    have HL1 := Lib.hid L1
    clear hb HC L1
    go_upto_region 5 with fail
    generalize w1.alloc (.cells (madeCells #[.int .i64 0] T) 3) = w5 at *
    obtain ⟨g5, hg5⟩ : ∃ g5, g5 = w1.heap.size := ⟨_, rfl⟩
    rw [← hg5] at HL1 ⊢
    clear hmk hg5
    go_wp2_with fail
    go_loopw [20] (fun i wr => ∃ i0 : Nat, i0 ≤ zz.length ∧ i = .int .i64 i0 ∧ Law w [tOwn (.slice (some ⟨g5, 0, none⟩) T T) (lstI T (allSt valC zz (fun _ => 0) i0))] wr) (fun i _ => zz.length - (intOf i).toNat)
    case atStart => exact ⟨0, Nat.zero_le _, rfl, HL1.out⟩
    case round =>
      clear HL1
      obtain ⟨i0, hi0, rfl, L⟩ := hrel
      by_cases hlt : i0 < zz.length
      · obtain ⟨b, aj, cj, rfl, hbw, hcell, hcap, hrd⟩ := HO.out.rowCap i0 hlt
        replace hcell := (L.below.cell (p := ⟨b, i0, none⟩) hbw).trans hcell
        have hrl := total_row zz i0 hlt
        have hne2 := HG.out.ne i0 hlt
        have hlt' : (i0 : Int) < zz.length := by omega
        obtain ⟨f, hf⟩ : ∃ f, f = allSt valC zz (fun _ => 0) i0 := ⟨_, rfl⟩
        rw [← hf] at L
        have HF := Lib.hid hf
        have HL := Lib.hid L
        have HRD := Lib.hid hrd
        clear L hrd hf
        go_upto_region 9 with fail
        go_loopw [26] (fun i wr => ∃ k : Nat, k ≤ (rowZ zz i0).length ∧ i = .int .i64 k ∧ Law w [tOwn (.slice (some ⟨g5, 0, none⟩) T T) (lstI T (rowSt valC (rowZ zz i0) f k))] wr) (fun i _ => (rowZ zz i0).length - (intOf i).toNat)
        case atStart => exact ⟨0, Nat.zero_le _, rfl, HL.out⟩
        case round =>
          clear HL hcell
          obtain ⟨k, hk, rfl, L⟩ := hrel
          have HL := Lib.hid L
          by_cases hkl : k < (rowZ zz i0).length
          · obtain ⟨b2, off2, rfl, hb2w, hc⟩ := reads_row HRD.out (by omega)
            have hkl' : (k : Int) < (rowZ zz i0).length := by omega
            obtain ⟨c, hc0⟩ := Int.eq_ofNat_of_zero_le (HG.out.nonneg i0 k hlt hkl).1
            have hc6 := (HG.out.nonneg i0 k hlt hkl).2
            rw [hc0, ← HT.out] at hc6
            have HX := Lib.hid (show (rowZ zz i0).getD k 0 = (c : Int) from hc0)
            have hck := (L.below.cell (p := ⟨b2, off2 + k, none⟩) hb2w).trans (hc k hkl)
            rw [HX.out] at hck
            have hS := Law.store (ts := []) L (lstI_len _ _) c (-1)
            rw [lstI_upd] at hS
            have o1 := L.ownInts
            have y1 := Own.cell (by rw [lstI_len]; exact o1) c (by rw [lstI_len]; omega)
            have y2 := Own.free (by rw [lstI_len]; exact o1) c
            have hrs : rowSt valC (rowZ zz i0) f (k + 1) = upd (rowSt valC (rowZ zz i0) f k) c (lastL (rowZ zz i0) c k) := by
              rw [rowSt, HX.out]
              unfold valC
              rw [HX.out]
              rfl
            have HRS := Lib.hid hrs
            obtain ⟨F, hF⟩ : ∃ F, F = rowSt valC (rowZ zz i0) f k := ⟨_, rfl⟩
            rw [← hF] at hS y1 HRS
            have HS := Lib.hid (show Law w [tOwn (.slice (some ⟨g5, 0, none⟩) T T) (lstI T (upd F c (lastL (rowZ zz i0) c 0)))] _ from hS)
            have hc1 : (0 : Int) ≤ c := by omega
            have hc2 : (c : Int) < T := by omega
            have hk0 : (0 : Int) ≤ k := by omega
            have hkc : (k : Int) ≤ cj := by omega
            have hkcc : k ≤ cj := by omega
            generalize (lstI T F).getD c 0 = z0 at *
            have HCC := Lib.hid hc
            clear hS o1 hrs hF hc
            go_upto_region 12 with fail
            generalize wr.setCell ⟨g5, c, none⟩ (.int .i64 (-1)) = w6 at *
            clear y1 y2 hck L HL
            go_wp2_with fail
            go_loopw [38] (fun i wr => ∃ t : Nat, t ≤ k ∧ i = .int .i64 t ∧ Law w [tOwn (.slice (some ⟨g5, 0, none⟩) T T) (lstI T (upd F c (lastL (rowZ zz i0) c t)))] wr) (fun i _ => k - (intOf i).toNat)
            case atStart => exact ⟨0, Nat.zero_le _, rfl, HS.out⟩
            case round =>
              clear HS
              obtain ⟨t, htk, rfl, L⟩ := hrel
              have HL := Lib.hid L
              by_cases htl : t < k
              · have hct := (L.below.cell (p := ⟨b2, off2 + t, none⟩) hb2w).trans (HCC.out t (by omega))
                have hsk := lastL_skip (rowZ zz i0) c t
                have hat := lastL_at (rowZ zz i0) c t
                have htl' : (t : Int) < k := by omega
                have ht0 : (0 : Int) ≤ t := by omega
                by_cases hyc : (rowZ zz i0).getD t 0 < (c : Int)
                · have hS := Law.store (ts := []) L (lstI_len _ _) c ((rowZ zz i0).getD t 0)
                  rw [lstI_upd, upd_upd] at hS
                  have o1 := L.ownInts
                  have y1 := Own.cell (by rw [lstI_len]; exact o1) c (by rw [lstI_len]; omega)
                  have y2 := Own.free (by rw [lstI_len]; exact o1) c
                  rw [← hat hyc] at hS
                  have HS := Lib.hid (show Law w [tOwn (.slice (some ⟨g5, 0, none⟩) T T) (lstI T (upd F c (lastL (rowZ zz i0) c (t + 1))))] _ from hS)
                  rw [hat hyc] at HS
                  have HAT := Lib.hid (hat hyc)
                  generalize (lstI T (upd F c (lastL (rowZ zz i0) c t))).getD c 0 = z9 at *
                  generalize (rowZ zz i0).getD t 0 = y at *
                  clear hS o1 hsk hat L HL
                  go_wp2_with fail
                  go_roundw
                  case rel => exact ⟨t + 1, by omega, by go_num, by rw [HAT.out]; exact HS.out⟩
                  case measure => simp [intOf]; omega
                · have HSK := Lib.hid (hsk hyc)
                  generalize (rowZ zz i0).getD t 0 = y at *
                  clear hsk hat L
                  go_wp2_with fail
                  go_roundw
                  case rel => exact ⟨t + 1, by omega, by go_num, by rw [HSK.out]; exact HL.out⟩
                  case measure => simp [intOf]; omega
              · obtain rfl : t = k := by omega
                rw [← HRS.out] at HL
                have htl' : ¬ (t : Int) < t := by omega
                clear L
                go_wp2_with fail
                go_roundw
                case rel => exact ⟨t + 1, by omega, by go_num, HL.out⟩
                case measure => simp [intOf]; omega
          · obtain hke : k = (rowZ zz i0).length := by omega
            have hkl' : ¬ (k : Int) < (rowZ zz i0).length := by omega
            have HS : Hid (Law w [tOwn (.slice (some ⟨g5, 0, none⟩) T T) (lstI T (allSt valC zz (fun _ => 0) (i0 + 1)))] wr) := Lib.hid (by
              rw [allSt, ← HF.out, ← hke]
              exact HL.out)
            clear L HL
            go_wp2_with fail
            go_roundw
            case rel => exact ⟨i0 + 1, by omega, by go_num, HS.out⟩
            case measure => simp [intOf]; omega
      · obtain rfl : i0 = zz.length := by omega
        have hlt' : ¬ ((zz.length : Nat) : Int) < zz.length := by omega
        have HL := Lib.hid L
        clear L
        go_wp2_with fail
        go_ret2
        exact ⟨_, rfl, HL.out.ownLo, HL.out.below⟩
end Go.Proofs.Ytddmommamcgelab
