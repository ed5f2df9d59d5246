/- PartitionText, in the program. No condition but the sizes. -/
import Derived.Test.YtddmommamcgelabZu
namespace Go.Proofs.Ytddmommamcgelab
open Go.RowKit Go.WideShapes

theorem OwnY.nil (w : World) (lo : Nat) : OwnY w lo (.slice none 0 0) [] := World.ownsRow_nil _ _ _ _
theorem OwnY.formS {w : World} {lo : Nat} {v : Value} {bs : List UInt8} (h : OwnY w lo v bs) (h0 : bs ≠ []) : ∃ g cap, v = .slice (some ⟨g, 0, none⟩) bs.length cap := by
  rcases h.2 with h2 | ⟨g, cap, cur, e, _⟩
  · obtain ⟨_, h2⟩ := h2
    exact absurd (by simpa using h2) h0
  · exact ⟨g, cap, e⟩
set_option maxRecDepth 100000 in
set_option maxHeartbeats 6400000 in
theorem implPt_any (zz : List (List Int)) (w : World) (hl : zz.length + total zz ≤ 1048576) (lo : Nat) (s : Value) (vs : List Value) (hO : OwnM w lo s vs zz) :
    Calls Try.prog 36 #[s] w fun e w' => AnsS (ptB zz) w e w' := by
  have HC := Lib.hid (arePartition_any zz w hl lo s vs hO)
  obtain ⟨a, cap, rfl, hr⟩ := hO.reads
  have HR := Lib.hid hr
  clear hO hr
  cases hg : gB true zz
  · rw [show ptB zz = ⟨⟨#[]⟩, false⟩ by simp [ptB, hg]]
    rw [hg] at HC
    clear hg
    go_enter Try.func36, Try.ntmps36
    go_wp2_with fail
    refine HC.out.mono ?_
    rintro e w1 ⟨rfl, hb⟩
    have HB := Lib.hid hb
    clear hb
    go_wp2_with fail
    go_ret2
    exact ⟨rfl, HB.out⟩
  · have HG := Lib.hid (gB_iff.1 hg)
    rw [show ptB zz = ⟨⟨(txZ zz zz.length).toArray⟩, true⟩ by simp [ptB, hg]]
    rw [hg] at HC
    clear hg
    go_enter Try.func36, Try.ntmps36
    go_wp2_with fail
    refine HC.out.mono ?_
    rintro e w1 ⟨rfl, hb⟩
    have HL := Lib.hid (((Law.start w).kept hb).addY (bs := []) (Below.refl _ _) (OwnY.nil _ _))
    clear hb HC
    go_wp2_with fail
    go_loopw [4, 14] (fun v i wr => ∃ i0 : Nat, i0 ≤ zz.length ∧ i = .int .i64 i0 ∧ Law w [tY v (txZ zz i0)] wr) (fun _ i _ => zz.length - (intOf i).toNat)
    case atStart => exact ⟨0, Nat.zero_le _, rfl, HL.out⟩
    case round =>
      clear HL
      obtain ⟨i0, hi0, rfl, L⟩ := hrel
      obtain ⟨wo, rfl⟩ : ∃ wo : World, wo = wr := ⟨_, rfl⟩
      by_cases hlt : i0 < zz.length
      · obtain ⟨b, off, aj, cj, rfl, hbw, hcell, hrd⟩ := HR.out.row i0 hlt
        rw [← rowZ_eq zz i0 hlt] at hcell hrd
        replace hcell := (L.below.cell (p := ⟨b, off + i0, none⟩) hbw).trans hcell
        have hne2 := HG.out.ne i0 hlt
        have hrl := total_row zz i0 hlt
        have ht6 := HG.out.tot
        have hlt' : (i0 : Int) < zz.length := by omega
        have HRD := Lib.hid hrd
        have hsm := txZ_small HG.out i0 (by omega)
        have hfi := txW_first zz i0
        have hse := txW_sep zz i0
        clear hrd
        by_cases h0 : i0 = 0
        · have hi00 : ¬ (0 : Int) < i0 := by omega
          have hn00 : ¬ 0 < i0 := by omega
          rw [← hfi h0] at L
          have HL := Lib.hid L
          clear hfi hse h0 L hsm
          go_upto_region 10 with fail
          go_loopw [4, 26] (fun v j wr => ∃ k : Nat, k ≤ (rowZ zz i0).length ∧ j = .int .i64 k ∧ Law w [tY v (txW zz i0 k)] wr) (fun _ j _ => (rowZ zz i0).length - (intOf j).toNat)
          case atStart => exact ⟨0, Nat.zero_le _, rfl, HL.out⟩
          case round =>
            clear HL
            obtain ⟨k, hk, rfl, L⟩ := hrel
            by_cases hkl : k < (rowZ zz i0).length
            · obtain ⟨b2, off2, rfl, hb2w, hc⟩ := reads_row HRD.out (by omega)
              have hkl' : (k : Int) < (rowZ zz i0).length := by omega
              obtain ⟨c, hc0⟩ := Int.eq_ofNat_of_zero_le (HG.out.wi _ (rowZ_mem zz i0 k hlt hkl)).1
              have hc6 := (HG.out.wi _ (rowZ_mem zz i0 k hlt hkl)).2
              have hck := (L.below.cell (p := ⟨b2, off2 + k, none⟩) hb2w).trans (hc k hkl)
              have hnx := txW_next zz i0 k hkl
              have hsz := txW_len HG.out i0 k hlt (by omega)
              rw [hc0] at hck hnx hc6
              have hdv := dgZ_val c (by omega)
              have hcw : IntKind.u8.wrap (c : Int) = c := by
                have key : ∀ c : Fin 6, IntKind.u8.wrap ((c : Nat) : Int) = (c : Nat) := by decide +kernel
                exact key ⟨c, by omega⟩
              have hcw2 : IntKind.u8.wrap (48 + (c : Int)) = 48 + c := by
                have key : ∀ c : Fin 6, IntKind.u8.wrap (48 + ((c : Nat) : Int)) = 48 + (c : Nat) := by decide +kernel
                exact key ⟨c, by omega⟩
              have HDV := Lib.hid (show (48 + (c : Int)) = ((dgZ (c : Int)).toNat : Int) by rw [hdv]; push_cast; rfl)
              have HNX := Lib.hid hnx
              have HL := Lib.hid (L.kept (below_new (.cells #[.int .u8 (48 + (c : Int))] 5)))
              have hszl : (txW zz i0 k).length + 1 ≤ 1048576 := by omega
              clear hc hc0 hc6 hnx hsz hdv L
              go_wp2_with (at_builtin; refine wp_appendY rfl _ _ rfl (dgZ (c : Int)) (48 + (c : Int)) HDV.out HL.out wr.heap.size rfl rfl ?c1 hszl _ HNX.out ?_)
              case c1 => rw [World.cell?_alloc_at _ _ _ _ rfl]; rfl
              intro g2 cp2 w3 L3
              have HL3 := Lib.hid L3
              clear L3 HL hck
              go_wp2_with fail
              go_roundw
              case rel => exact ⟨k + 1, by omega, by go_num, HL3.out⟩
              case measure => simp [intOf]; omega
            · obtain hke : k = (rowZ zz i0).length := by omega
              have hkl' : ¬ (k : Int) < (rowZ zz i0).length := by omega
              have HTX := Lib.hid (show txW zz i0 k = txZ zz (i0 + 1) by rw [hke]; exact txW_row zz i0)
              have HL := Lib.hid L
              rw [HTX.out] at HL
              clear L
              go_wp2_with fail
              go_roundw
              case rel => exact ⟨i0 + 1, by omega, by go_num, HL.out⟩
              case measure => simp [intOf]; omega
        · have hi00 : (0 : Int) < i0 := by omega
          have hn00 : 0 < i0 := by omega
          have HN := Lib.hid (hse h0)
          have HL0 := Lib.hid (L.kept (below_new (.cells #[.int .u8 124] 5)))
          clear hfi hse h0 L
          go_wp2_with (at_builtin; refine wp_appendY rfl _ _ rfl 124 124 rfl HL0.out wo.heap.size rfl rfl ?c1 (by omega) _ HN.out ?_)
          case c1 => rw [World.cell?_alloc_at _ _ _ _ rfl]; rfl
          intro g2 cp2 w3 L3
          have HL := Lib.hid L3
          clear HN L3 HL0 hcell hsm
          go_upto_region 10 with fail
          go_loopw [4, 26] (fun v j wr => ∃ k : Nat, k ≤ (rowZ zz i0).length ∧ j = .int .i64 k ∧ Law w [tY v (txW zz i0 k)] wr) (fun _ j _ => (rowZ zz i0).length - (intOf j).toNat)
          case atStart => exact ⟨0, Nat.zero_le _, rfl, HL.out⟩
          case round =>
            clear HL
            obtain ⟨k, hk, rfl, L⟩ := hrel
            by_cases hkl : k < (rowZ zz i0).length
            · obtain ⟨b2, off2, rfl, hb2w, hc⟩ := reads_row HRD.out (by omega)
              have hkl' : (k : Int) < (rowZ zz i0).length := by omega
              obtain ⟨c, hc0⟩ := Int.eq_ofNat_of_zero_le (HG.out.wi _ (rowZ_mem zz i0 k hlt hkl)).1
              have hc6 := (HG.out.wi _ (rowZ_mem zz i0 k hlt hkl)).2
              have hck := (L.below.cell (p := ⟨b2, off2 + k, none⟩) hb2w).trans (hc k hkl)
              have hnx := txW_next zz i0 k hkl
              have hsz := txW_len HG.out i0 k hlt (by omega)
              rw [hc0] at hck hnx hc6
              have hdv := dgZ_val c (by omega)
              have hcw : IntKind.u8.wrap (c : Int) = c := by
                have key : ∀ c : Fin 6, IntKind.u8.wrap ((c : Nat) : Int) = (c : Nat) := by decide +kernel
                exact key ⟨c, by omega⟩
              have hcw2 : IntKind.u8.wrap (48 + (c : Int)) = 48 + c := by
                have key : ∀ c : Fin 6, IntKind.u8.wrap (48 + ((c : Nat) : Int)) = 48 + (c : Nat) := by decide +kernel
                exact key ⟨c, by omega⟩
              have HDV := Lib.hid (show (48 + (c : Int)) = ((dgZ (c : Int)).toNat : Int) by rw [hdv]; push_cast; rfl)
              have HNX := Lib.hid hnx
              have HL := Lib.hid (L.kept (below_new (.cells #[.int .u8 (48 + (c : Int))] 5)))
              have hszl : (txW zz i0 k).length + 1 ≤ 1048576 := by omega
              clear hc hc0 hc6 hnx hsz hdv L
              go_wp2_with (at_builtin; refine wp_appendY rfl _ _ rfl (dgZ (c : Int)) (48 + (c : Int)) HDV.out HL.out wr.heap.size rfl rfl ?c1 hszl _ HNX.out ?_)
              case c1 => rw [World.cell?_alloc_at _ _ _ _ rfl]; rfl
              intro g2 cp2 w3 L3
              have HL3 := Lib.hid L3
              clear L3 HL hck
              go_wp2_with fail
              go_roundw
              case rel => exact ⟨k + 1, by omega, by go_num, HL3.out⟩
              case measure => simp [intOf]; omega
            · obtain hke : k = (rowZ zz i0).length := by omega
              have hkl' : ¬ (k : Int) < (rowZ zz i0).length := by omega
              have HTX := Lib.hid (show txW zz i0 k = txZ zz (i0 + 1) by rw [hke]; exact txW_row zz i0)
              have HL := Lib.hid L
              rw [HTX.out] at HL
              clear L
              go_wp2_with fail
              go_roundw
              case rel => exact ⟨i0 + 1, by omega, by go_num, HL.out⟩
              case measure => simp [intOf]; omega
      · obtain rfl : i0 = zz.length := by omega
        have hlt' : ¬ ((zz.length : Nat) : Int) < zz.length := by omega
        obtain ⟨g, cp, rfl⟩ := L.ownY.formS (txZ_some HG.out)
        have hcv : (convert 44 9 (.slice (some ⟨g, 0, none⟩) (txZ zz zz.length).length cp)).run Try.prog wo = .ok (.string ⟨(txZ zz zz.length).toArray⟩) wo :=
          run_convert_bytes_back _ 44 9 5 ⟨g, 0, none⟩ cp (txZ zz zz.length) Try.underlying44 Try.underlying5 Try.underlying9 (fun j hj => by rw [Addr.add_lit, Nat.zero_add]; exact L.ownY.cell j hj)
        have HB := Lib.hid L.below
        clear L
        go_wp2_with fail
        go_ret2
        exact ⟨rfl, HB.out⟩
end Go.Proofs.Ytddmommamcgelab
