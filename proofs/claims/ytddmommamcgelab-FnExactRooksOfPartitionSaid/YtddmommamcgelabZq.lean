/- filesOf, in the program. No condition but the sizes. -/
import Derived.Test.YtddmommamcgelabZp
import Derived.Test.YtddmommamcgelabZo
import Derived.Test.YtddmommamcgelabPc
import Derived.Test.YtddmommamcgelabQt
import Derived.Test.YtddmommamcgelabI
namespace Go.Proofs.Ytddmommamcgelab
open Go.RowKit Go.WideShapes

theorem GF.least {d : Bool} {zz : List (List Int)} (g : GF d zz) (i k : Nat) (hi : i < zz.length) (hk : k < (rowZ zz i).length) : numZ zz i 0 ≤ numZ zz i k := g.hd i hi k hk
set_option maxRecDepth 100000 in
set_option maxHeartbeats 6400000 in
theorem filesOf_any (d : Bool) (a : Option Addr) (cap : Nat) (zz : List (List Int)) (w : World) (hl : zz.length + total zz ≤ 1048576) (g : GF d zz) (hr : ReadsM w a zz.length zz) :
    Calls Try.prog 78 #[.slice a zz.length cap] w fun e w' => e = .returned (pv6 (allSt valC zz (fun _ => -1) zz.length)) ∧ Below w.heap.size w w' := by
  have L0 := (Law.start w).has (pl6 (fun _ => 0)) 81
  have HR := Lib.hid hr
  have HG := Lib.hid g
  have HL := Lib.hid L0
  clear hr L0 g
  go_enter Try.func78, Try.ntmps78
  go_wp2_with fail
  refine (noPlaces_any _).mono ?_
  rintro e w1 ⟨rfl, hb⟩
  have L1 := (HL.out.kept hb).has (pl6 (fun _ => -1)) 81
  rw [show w1.alloc (.cells (pl6 (fun _ => -1)).toArray 81) = w1.alloc (.cells #[.int .i64 (-1), .int .i64 (-1), .int .i64 (-1), .int .i64 (-1), .int .i64 (-1), .int .i64 (-1)] 81) from rfl] at L1
  have HL1 := Lib.hid L1
  clear L1 HL hb
  go_upto_region 2 with fail
  generalize w1.alloc (.cells #[.int .i64 (-1), .int .i64 (-1), .int .i64 (-1), .int .i64 (-1), .int .i64 (-1), .int .i64 (-1)] 81) = w5 at *
  obtain ⟨bp, hbp⟩ : ∃ bp, bp = w1.heap.size := ⟨_, rfl⟩
  rw [← hbp] at HL1 ⊢
  clear hbp
  go_wp2_with fail
  go_loopw [11] (fun i wr => ∃ i0 : Nat, i0 ≤ zz.length ∧ i = .int .i64 i0 ∧ Law w [tHas bp (pl6 (allSt valC zz (fun _ => -1) i0)) 81, tHas w.heap.size (pl6 (fun _ => 0)) 81] wr) (fun i _ => zz.length - (intOf i).toNat)
  case atStart => exact ⟨0, Nat.zero_le _, rfl, HL1.out⟩
  case round =>
    clear HL1
    obtain ⟨i0, hi0, rfl, L⟩ := hrel
    by_cases hlt : i0 < zz.length
    · obtain ⟨b, off, aj, cj, rfl, hbw, hcell, hrd⟩ := HR.out.row i0 hlt
      rw [← rowZ_eq zz i0 hlt] at hcell hrd
      replace hcell := (L.below.cell (p := ⟨b, off + i0, none⟩) hbw).trans hcell
      have hne := HG.out.ne i0 hlt
      have hrl := total_row zz i0 hlt
      have ht6 := HG.out.tot
      have hlt' : (i0 : Int) < zz.length := by omega
      rw [← allSt_first HG.out i0 hlt] at L
      obtain ⟨f, hf⟩ : ∃ f, f = allSt valC zz (fun _ => -1) i0 := ⟨_, rfl⟩
      rw [← hf] at L
      have HF := Lib.hid hf
      have HL := Lib.hid L
      have HRD := Lib.hid hrd
      clear L hrd hf
      go_upto_region 6 with fail
      go_loopw [6] (fun i wr => ∃ k : Nat, 1 ≤ k ∧ k ≤ (rowZ zz i0).length ∧ i = .int .i64 k ∧ Law w [tHas bp (pl6 (rowSt valC (rowZ zz i0) f k)) 81, tHas w.heap.size (pl6 (fun _ => 0)) 81] wr) (fun i _ => (rowZ zz i0).length - (intOf i).toNat)
      case atStart => exact ⟨1, Nat.le_refl _, hne, rfl, HL.out⟩
      case round =>
        clear HL hcell
        obtain ⟨k, hk1, hk, rfl, L⟩ := hrel
        have HL := Lib.hid L
        by_cases hkl : k < (rowZ zz i0).length
        · have hr2 := L.reads HRD.out
          obtain ⟨b2, off2, rfl, hb2w, hc⟩ := reads_row HRD.out (by omega)
          have hkl' : (k : Int) < (rowZ zz i0).length := by omega
          have hkw : IntKind.i64.wrap ((k : Int) - 1) = (k : Int) - 1 := IntWalk.i64_in _ (by omega)
          obtain ⟨c, hc0⟩ := Int.eq_ofNat_of_zero_le (HG.out.nonneg i0 k hlt hkl).1
          have hc6 := (HG.out.nonneg i0 k hlt hkl).2
          rw [hc0] at hc6
          have HX := Lib.hid (show (rowZ zz i0).getD k 0 = (c : Int) from hc0)
          have HAP := Lib.hid (fun t (ht : t < k) => (by
            have h1 := HG.out.apart i0 t i0 k hlt (by omega) hlt hkl (.inr ⟨rfl, ht⟩)
            rw [hc0] at h1
            exact h1 : numZ zz i0 t ≠ (c : Int)))
          have HLE := Lib.hid (show numZ zz i0 0 ≤ (c : Int) by rw [← hc0]; exact HG.out.least i0 k hlt hkl)
          have HC := Lib.hid hc
          clear hc hr2 L hc0
          go_upto_region 9 with fail
          go_loopw [7] (fun i wr => ∃ t : Nat, 1 ≤ t ∧ t ≤ k ∧ i = .int .i64 ((t : Int) - 1) ∧ Hid (lastL (rowZ zz i0) c t = valC (rowZ zz i0) k) ∧ Law w [tHas bp (pl6 (rowSt valC (rowZ zz i0) f k)) 81, tHas w.heap.size (pl6 (fun _ => 0)) 81] wr) (fun i _ => (intOf i).toNat)
          case atStart => exact ⟨k, hk1, Nat.le_refl _, by first | rfl | go_num, Lib.hid (by unfold valC; rw [HX.out]), HL.out⟩
          case round =>
            clear HL
            obtain ⟨t, ht1, htk, rfl, HV, L⟩ := hrel
            obtain ⟨u, rfl⟩ : ∃ u, t = u + 1 := ⟨t - 1, by omega⟩
            have hcu := (L.below.cell (p := ⟨b2, off2 + u, none⟩) hb2w).trans (HC.out u (by omega))
            have hck := (L.below.cell (p := ⟨b2, off2 + k, none⟩) hb2w).trans (HC.out k hkl)
            rw [HX.out] at hck
            have hap := HAP.out u (by omega)
            have hsk := lastL_skip (rowZ zz i0) c u
            have hat := lastL_at (rowZ zz i0) c u
            have hle := HLE.out
            have hu0 : u = 0 → numZ zz i0 u ≤ (c : Int) := fun e => by rw [e]; exact hle
            have hvv := HV.out
            rw [show (((u + 1 : Nat) : Int) - 1) = (u : Int) by omega]
            have hu1 : (u : Int) < (rowZ zz i0).length := by omega
            have hu2 : (0 : Int) ≤ u := by omega
            have hk2 : (0 : Int) ≤ k := by omega
            have huw : IntKind.i64.wrap ((u : Int) - 1) = (u : Int) - 1 := IntWalk.i64_in _ (by omega)
            obtain ⟨y, hy⟩ : ∃ y, y = numZ zz i0 u := ⟨_, rfl⟩
            rw [show (rowZ zz i0).getD u 0 = y from hy.symm] at hcu hsk hat
            rw [← hy] at hap hu0
            have HY := Lib.hid hy
            by_cases hgt : (c : Int) < y
            · have HN := Lib.hid (show lastL (rowZ zz i0) c u = valC (rowZ zz i0) k by rw [← hsk (by omega)]; exact hvv)
              have HU1 := Lib.hid (show 1 ≤ u from Nat.one_le_iff_ne_zero.2 (fun e => by have := hu0 e; omega))
              have HLL := Lib.hid L
              have hd := decide_eq_true hgt
              clear hsk hat hle hu0 hvv L hy hap
              go_wp2_with fail
              go_quiet (fail)
              go_wp2_with fail
              go_roundw
              case rel => exact ⟨u, HU1.out, by omega, rfl, HN, HLL.out.kept (below_drewN (Below.refl _ _) _)⟩
              case measure => have := HU1.out; simp [intOf]; omega
            · have HN := Lib.hid (show y = valC (rowZ zz i0) k by rw [← hvv]; exact (hat (by omega)).symm)
              have HLL := Lib.hid L
              have hd := decide_eq_false hgt
              clear hsk hat hle hu0 hvv L hy hap
              go_wp2_with fail
              go_quiet (fail)
              have L := HLL.out.kept (below_drewN (Below.refl _ _) nq)
              generalize wr.drewN nq = wq at *
              clear HLL hcu hck
              have hcu := (L.below.cell (p := ⟨b2, off2 + u, none⟩) hb2w).trans (HC.out u (by omega))
              have hck := (L.below.cell (p := ⟨b2, off2 + k, none⟩) hb2w).trans (HC.out k hkl)
              rw [HX.out] at hck
              have hrs : rowSt valC (rowZ zz i0) f (k + 1) = upd (rowSt valC (rowZ zz i0) f k) c (valC (rowZ zz i0) k) := by
                rw [rowSt, HX.out]
                rfl
              have hS := Law.setHas (ts := []) L c (.int .i64 ((rowZ zz i0).getD u 0))
              have hce := L.ownHas.cell c
              rw [pl6_get _ c (by omega)] at hce
              have hfe := L.ownHas.free c
              have hyu := HY.out
              rw [pl6_set _ (rowSt valC (rowZ zz i0) f (k + 1)) c (by omega) ((rowZ zz i0).getD u 0) (by rw [hrs, upd_at, ← HN.out, hyu]; rfl) (fun q _ hq => by rw [hrs, upd_off _ _ _ _ hq])] at hS
              have HS := Lib.hid hS.drew
              have hc1 : (0 : Int) ≤ c := by omega
              have hc2 : (c : Int) < 6 := by omega
              generalize (rowZ zz i0).getD u 0 = y2 at *
              clear hS L hrs hyu
              go_wp2_with fail
              go_region
              go_wp2_with fail
              go_roundw
              case rel => exact ⟨k + 1, by omega, by omega, by go_num, HS.out⟩
              case measure => simp [intOf]; omega
        · obtain hke : k = (rowZ zz i0).length := by omega
          have hkl' : ¬ (k : Int) < (rowZ zz i0).length := by omega
          have HS : Hid (Law w [tHas bp (pl6 (allSt valC zz (fun _ => -1) (i0 + 1))) 81, tHas w.heap.size (pl6 (fun _ => 0)) 81] wr) := Lib.hid (by
            rw [allSt, ← HF.out, ← hke]
            exact HL.out)
          clear L HL
          go_wp2_with fail
          go_roundw
          case rel => exact ⟨i0 + 1, by omega, by go_num, HS.out⟩
          case measure => simp [intOf]; omega
    · obtain rfl : i0 = zz.length := by omega
      have hlt' : ¬ ((zz.length : Nat) : Int) < zz.length := by omega
      obtain ⟨F, hF⟩ : ∃ F, F = allSt valC zz (fun _ => -1) zz.length := ⟨_, rfl⟩
      rw [← hF] at L
      have HFF := Lib.hid hF
      clear hF
      obtain ⟨e0, e1, e2, e3, e4, e5, _⟩ := L.ownHas.six
      obtain ⟨f0, f1, f2, f3, f4, f5, ff⟩ := L.tl.ownHas.six
      have HB := Lib.hid L.below
      have hrow := L.ownHas.row6
      clear L
      go_wp2_with (refine wpList_load_row rfl 81 _ rfl _ rfl _ _ _ _ hrow Try.underlying81 rfl (by kernel_rfl) ?_)
      refine bodyPost_ret (v := pv6 F) (by simp [results, Try.results78, go_sem, f0, f1, f2, f3, f4, f5]) rfl ⟨by rw [HFF.out], ?_⟩
      have h2 := HB.out
      repeat (refine Below.setCell ?_ (by simp <;> omega) _)
      exact h2

def filesR (zz : List (List Int)) : LR := if gB false zz then ⟨lstI (total zz) (allSt valC zz (fun _ => 0) zz.length), true⟩ else ⟨[], false⟩
def rooksR (zz : List (List Int)) : LR := if gB true zz then ⟨lstI (total zz) (allSt valP zz (fun _ => 0) zz.length), true⟩ else ⟨[], false⟩
theorem filesR_len (zz : List (List Int)) : (filesR zz).ys.length ≤ 1048576 := by
  unfold filesR
  split
  · rename_i h
    have := (gB_iff.1 h).tot
    show (lstI _ _).length ≤ _
    rw [lstI_len]; omega
  · simp
theorem rooksR_len (zz : List (List Int)) : (rooksR zz).ys.length ≤ 1048576 := by
  unfold rooksR
  split
  · rename_i h
    have := (gB_iff.1 h).tot
    show (lstI _ _).length ≤ _
    rw [lstI_len]; omega
  · simp

set_option maxRecDepth 100000 in
set_option maxHeartbeats 3200000 in
theorem implFoc_any (zz : List (List Int)) (w : World) (hl : zz.length + total zz ≤ 1048576) (lo : Nat) (s : Value) (vs : List Value) (hO : OwnM w lo s vs zz) :
    Calls Try.prog 29 #[s] w fun e w' => AnsL (filesR zz) w e w' := by
  have HC := Lib.hid (areCycles_any zz w hl lo s vs hO)
  obtain ⟨a, cap, rfl, hr⟩ := hO.reads
  have HR := Lib.hid hr
  clear hO hr
  cases hg : gB false zz
  · rw [show filesR zz = ⟨[], false⟩ by simp [filesR, hg]]
    rw [hg] at HC
    clear hg
    go_enter Try.func29, Try.ntmps29
    go_wp2_with fail
    refine HC.out.mono ?_
    rintro e w1 ⟨rfl, hb⟩
    have HB := Lib.hid hb
    clear hb
    go_wp2_with fail
    go_ret2
    exact ⟨_, rfl, Own.nil _ _, HB.out⟩
  · have g := gB_iff.1 hg
    rw [show filesR zz = ⟨lstI (total zz) (allSt valC zz (fun _ => 0) zz.length), true⟩ by simp [filesR, hg]]
    rw [hg] at HC
    have ht6 := g.tot
    have HF := Lib.hid (fun W (h : ReadsM W a zz.length zz) => filesOf_any false a cap zz W hl g h)
    have HE := Lib.hid (lstI_congr (total zz) _ _ (fun q hq => allSt_start g valC (fun _ => -1) (fun _ => 0) q hq))
    have HN := Lib.hid (fun W (h : ReadsM W a zz.length zz) => countNum_any a cap zz W hl h)
    have HLI := Lib.hid (fun F W => list_any F (total zz) W ht6)
    clear hg g
    go_enter Try.func29, Try.ntmps29
    go_wp2_with fail
    refine HC.out.mono ?_
    rintro e w1 ⟨rfl, hb⟩
    have HL := Lib.hid ((Law.start w).kept hb)
    clear hb HC
    go_wp2_with fail
    refine (HF.out _ (HL.out.readsM HR.out)).mono ?_
    rintro e w2 ⟨rfl, hb⟩
    have HL2 := Lib.hid (HL.out.kept hb)
    clear hb HL HF
    go_wp2_with fail
    refine (HN.out _ (HL2.out.readsM HR.out)).mono ?_
    rintro e w3 ⟨rfl, hb⟩
    have HL3 := Lib.hid (HL2.out.kept hb)
    clear hb HL2 HN
    go_wp2_with fail
    refine (HLI.out _ _).mono ?_
    rintro e w4 ⟨g4, rfl, hO, hb⟩
    rw [HE.out] at hO
    have HL4 := Lib.hid (HL3.out.own hb hO)
    clear hb HL3 hO
    go_wp2_with fail
    go_ret2
    exact ⟨_, rfl, HL4.out.ownLo, HL4.out.below⟩

theorem files_bd {zz : List (List Int)} (g : GF true zz) (q : Nat) : allSt valC zz (fun _ => -1) zz.length q = -1 ∨ (0 ≤ allSt valC zz (fun _ => -1) zz.length q ∧ allSt valC zz (fun _ => -1) zz.length q < 6) := by
  by_cases hq : q < total zz
  · obtain ⟨i, k, hi, hk, e⟩ := g.all q hq
    have e2 : q = (numZ zz i k).toNat := by rw [e]; simp
    rw [e2, allSt_at g valC _ _ i k (Nat.le_refl _) hi hk]
    match k, hk with
    | 0, _ => exact .inl rfl
    | k + 1, hk =>
      rw [g.before i k hi hk]
      have := g.nonneg i k hi (by omega)
      have := g.tot
      exact .inr (by omega)
  · exact .inl (allSt_out g valC _ _ _ (Nat.le_refl _) (by omega))
set_option maxRecDepth 100000 in
set_option maxHeartbeats 3200000 in
theorem implRop_any (zz : List (List Int)) (w : World) (hl : zz.length + total zz ≤ 1048576) (lo : Nat) (s : Value) (vs : List Value) (hO : OwnM w lo s vs zz) :
    Calls Try.prog 24 #[s] w fun e w' => AnsL (rooksR zz) w e w' := by
  have HC := Lib.hid (arePartition_any zz w hl lo s vs hO)
  obtain ⟨a, cap, rfl, hr⟩ := hO.reads
  have HR := Lib.hid hr
  clear hO hr
  cases hg : gB true zz
  · rw [show rooksR zz = ⟨[], false⟩ by simp [rooksR, hg]]
    rw [hg] at HC
    clear hg
    go_enter Try.func24, Try.ntmps24
    go_wp2_with fail
    refine HC.out.mono ?_
    rintro e w1 ⟨rfl, hb⟩
    have HB := Lib.hid hb
    clear hb
    go_wp2_with fail
    go_ret2
    exact ⟨_, rfl, Own.nil _ _, HB.out⟩
  · have g := gB_iff.1 hg
    rw [show rooksR zz = ⟨lstI (total zz) (allSt valP zz (fun _ => 0) zz.length), true⟩ by simp [rooksR, hg]]
    rw [hg] at HC
    have ht6 := g.tot
    have HF := Lib.hid (fun W (h : ReadsM W a zz.length zz) => filesOf_any true a cap zz W hl g h)
    have HE := Lib.hid (lstI_congr (total zz) _ _ (fun q hq => turn_files g (fun _ => 0) q hq))
    have HN := Lib.hid (fun W (h : ReadsM W a zz.length zz) => countNum_any a cap zz W hl h)
    have HLI := Lib.hid (fun F W => list_any F (total zz) W ht6)
    have HTU := Lib.hid (fun W => turned_any (allSt valC zz (fun _ => -1) zz.length) W (fun k _ => files_bd g k))
    clear hg g
    go_enter Try.func24, Try.ntmps24
    go_wp2_with fail
    refine HC.out.mono ?_
    rintro e w1 ⟨rfl, hb⟩
    have HL := Lib.hid ((Law.start w).kept hb)
    clear hb HC
    go_wp2_with fail
    refine (HF.out _ (HL.out.readsM HR.out)).mono ?_
    rintro e w2 ⟨rfl, hb⟩
    have HL2 := Lib.hid (HL.out.kept hb)
    clear hb HL HF
    go_wp2_with fail
    refine (HTU.out _).mono ?_
    rintro e w3 ⟨rfl, hb⟩
    have HL3 := Lib.hid (HL2.out.kept hb)
    clear hb HL2 HTU
    go_wp2_with fail
    refine (HN.out _ (HL3.out.readsM HR.out)).mono ?_
    rintro e w4 ⟨rfl, hb⟩
    have HL4 := Lib.hid (HL3.out.kept hb)
    clear hb HL3 HN
    go_wp2_with fail
    refine (HLI.out _ _).mono ?_
    rintro e w5 ⟨g4, rfl, hO, hb⟩
    rw [HE.out] at hO
    have HL5 := Lib.hid (HL4.out.own hb hO)
    clear hb HL4 hO
    go_wp2_with fail
    go_ret2
    exact ⟨_, rfl, HL5.out.ownLo, HL5.out.below⟩
end Go.Proofs.Ytddmommamcgelab
