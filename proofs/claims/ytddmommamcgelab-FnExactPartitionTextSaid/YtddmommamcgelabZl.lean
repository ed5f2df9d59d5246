/- Partitions and cycles: what makes them, in the specification. No condition but the sizes. -/
import Derived.Test.YtddmommamcgelabZk
import Derived.Test.YtddmommamcgelabM4
import Derived.Test.YtddmommamcgelabAp
import Derived.Test.YtddmommamcgelabP
import Derived.Test.YtddmommamcgelabPb
import Derived.BigQuiet
namespace Go.Proofs.Ytddmommamcgelab
open Go.RowKit Go.WideShapes

def blkN (d : Bool) (zz : List (List Int)) : Int := if gB d zz then (total zz : Int) else 0
theorem blkN_no {d : Bool} {zz : List (List Int)} (h : ¬ GF d zz) : blkN d zz = 0 := by unfold blkN; rw [gB_no h]; rfl
theorem blkN_yes {d : Bool} {zz : List (List Int)} (h : GF d zz) : blkN d zz = total zz := by unfold blkN; rw [gB_iff.2 h]; rfl
/-- All is well so far. -/
structure UpZ (d : Bool) (zz : List (List Int)) (i k : Nat) : Prop where
  nd : (seenZ zz i k).Nodup
  wi : ∀ x ∈ seenZ zz i k, 0 ≤ x ∧ x < (total zz : Int)
  hd : ∀ a, a < i → ∀ j, j < (rowZ zz a).length → (rowZ zz a).getD 0 0 ≤ (rowZ zz a).getD j 0
  hk : ∀ j, j < k → (rowZ zz i).getD 0 0 ≤ (rowZ zz i).getD j 0
  so : d = true → ∀ a, a < i → ∀ j, j + 1 < (rowZ zz a).length → (rowZ zz a).getD j 0 ≤ (rowZ zz a).getD (j + 1) 0
  sk : d = true → ∀ j, j + 1 < k → (rowZ zz i).getD j 0 ≤ (rowZ zz i).getD (j + 1) 0
  fi : ∀ a, a + 1 < i → (rowZ zz a).getD 0 0 ≤ (rowZ zz (a + 1)).getD 0 0
theorem UpZ.start (d : Bool) (zz : List (List Int)) : UpZ d zz 0 0 := by
  refine ⟨?_, ?_, ?_, ?_, ?_, ?_, ?_⟩ <;> first | (intros; omega) | simp [seenZ, preZ]
theorem UpZ.next {d : Bool} {zz : List (List Int)} {i k : Nat} (u : UpZ d zz i k) (hk : k < (rowZ zz i).length) (h1 : 0 ≤ (rowZ zz i).getD k 0 ∧ (rowZ zz i).getD k 0 ≤ (total zz : Int) - 1) (h2 : (rowZ zz i).getD k 0 ∉ seenZ zz i k)
    (h3 : k = 0 ∨ (rowZ zz i).getD 0 0 ≤ (rowZ zz i).getD k 0) (h4 : d = true → k = 0 ∨ (rowZ zz i).getD (k - 1) 0 ≤ (rowZ zz i).getD k 0) : UpZ d zz i (k + 1) := by
  have hs := seenZ_next zz i k hk
  refine ⟨?_, ?_, u.hd, ?_, u.so, ?_, u.fi⟩
  · rw [← hs, List.nodup_append]
    exact ⟨u.nd, by simp, fun a ha b hb => by
      rw [List.mem_singleton] at hb
      subst hb
      intro e
      subst e
      exact h2 ha⟩
  · intro x hx
    rw [← hs, List.mem_append, List.mem_singleton] at hx
    rcases hx with hx | hx
    · exact u.wi x hx
    · subst hx; omega
  · intro j hj
    by_cases e : j = k
    · subst e
      rcases h3 with h3 | h3
      · subst h3; exact Int.le_refl _
      · exact h3
    · exact u.hk j (by omega)
  · intro hd j hj
    by_cases e : j + 1 = k
    · subst e
      rcases h4 hd with h4 | h4
      · omega
      · rwa [Nat.add_sub_cancel] at h4
    · exact u.sk hd j (by omega)
theorem UpZ.row {d : Bool} {zz : List (List Int)} {i : Nat} (hi : i < zz.length) (u : UpZ d zz i (rowZ zz i).length) (h : i = 0 ∨ (rowZ zz (i - 1)).getD 0 0 ≤ (rowZ zz i).getD 0 0) : UpZ d zz (i + 1) 0 := by
  have hs := seenZ_row zz i hi
  rw [← seenZ_zero zz (i + 1)] at hs
  refine ⟨by rw [← hs]; exact u.nd, by rw [← hs]; exact u.wi, ?_, fun j hj => by omega, ?_, fun _ j hj => by omega, ?_⟩
  · intro a ha j hj
    by_cases e : a = i
    · subst e; exact u.hk j hj
    · exact u.hd a (by omega) j hj
  · intro hd a ha j hj
    by_cases e : a = i
    · subst e; exact u.sk hd j hj
    · exact u.so hd a (by omega) j hj
  · intro a ha
    by_cases e : a + 1 = i
    · subst e
      rcases h with h | h
      · omega
      · rwa [Nat.add_sub_cancel] at h
    · exact u.fi a (by omega)
theorem UpZ.good {d : Bool} {zz : List (List Int)} (u : UpZ d zz zz.length 0) (ne : ∀ i, i < zz.length → 1 ≤ (rowZ zz i).length) (tot : total zz ≤ 6) (pos : 1 ≤ zz.length) : GF d zz := by
  have e : seenZ zz zz.length 0 = zz.flatten := by rw [seenZ_zero, preZ_full]
  refine ⟨ne, tot, pos, by rw [← e]; exact u.nd, by rw [← e]; exact u.wi, u.hd, fun hd i hi k hk => u.so hd i hi k (by omega), fun i hi => u.fi i (by omega)⟩

set_option maxRecDepth 100000 in
set_option maxHeartbeats 6400000 in
theorem fiBlocks_rd (d : Bool) (a : Option Addr) (cap : Nat) (zz : List (List Int)) (w : World) (hl : zz.length + total zz ≤ 1048576) (hr : ReadsM w a zz.length zz) :
    Calls Try.prog 76 #[.slice a zz.length cap, .bool d] w fun e w' => e = .returned (.int .i64 (blkN d zz)) ∧ Below w.heap.size w w' := by
  by_cases h6 : 6 < zz.length
  · have HNO := Lib.hid (blkN_no (d := d) (zz := zz) (fun g => by have := sizes_pos g.ne; have := g.tot; omega))
    have h6' : (6 : Int) < zz.length := by omega
    clear hr
    go_enter Try.func76, Try.ntmps76
    go_wp2_with fail
    go_ret
    exact ⟨ret_int HNO.out.symm, Below.refl _ _⟩
  · have h6' : ¬ (6 : Int) < zz.length := by omega
    have HR := Lib.hid hr
    clear hr
    go_enter Try.func76, Try.ntmps76
    go_wp2_with fail
    go_loopw [5, 18] (fun n i wr => ∃ k : Nat, k ≤ zz.length ∧ i = .int .i64 k ∧ n = .int .i64 (sizeZ zz k : Nat) ∧ Hid ((∀ i, i < k → 1 ≤ (rowZ zz i).length) ∧ sizeZ zz k ≤ 6) ∧ w = wr) (fun _ i _ => zz.length - (intOf i).toNat)
    case atStart => exact ⟨0, Nat.zero_le _, rfl, rfl, Lib.hid ⟨fun i hi => by omega, by simp [sizeZ, preZ]⟩, rfl⟩
    case round =>
      obtain ⟨k, hk, rfl, rfl, HU, hww⟩ := hrel
      subst hww
      by_cases hlt : k < zz.length
      · obtain ⟨b, off, aj, cj, rfl, _, hcell, _⟩ := HR.out.row k hlt
        rw [← rowZ_eq zz k hlt] at hcell
        have hsn := sizeZ_next zz k hlt
        have hs6 := HU.out.2
        have hle := sizeZ_le zz (k + 1)
        have hrl := total_row zz k hlt
        have hlt' : (k : Int) < zz.length := by omega
        by_cases h0 : (rowZ zz k).length = 0
        · have HNO := Lib.hid (blkN_no (d := d) (zz := zz) (fun g => by have := g.ne k hlt; omega))
          rw [h0] at hcell
          clear hsn hle hrl hs6 h0
          go_wp2_with fail
          go_ret
          exact ⟨ret_int HNO.out.symm, Below.refl _ _⟩
        · have HX := Lib.hid hsn
          have HNE := Lib.hid (show ∀ i, i < k + 1 → 1 ≤ (rowZ zz i).length from fun i hi => by
            by_cases e : i = k
            · subst e; omega
            · exact HU.out.1 i (by omega))
          have HBIG := Lib.hid (show 6 < sizeZ zz (k + 1) → blkN d zz = 0 from fun h => blkN_no (fun g => by have := g.tot; omega))
          generalize (rowZ zz k).length = rl at *
          obtain ⟨s1, hs1⟩ : ∃ s1, s1 = sizeZ zz (k + 1) := ⟨_, rfl⟩
          rw [← hs1] at hsn hle HX HBIG
          have HS1 := Lib.hid hs1
          clear hs1
          generalize sizeZ zz k = s0 at *
          have h0' : ((rl : Int) == 0) = false := by rw [beq_eq_false_iff_ne]; omega
          clear hsn hle h0
          by_cases h7 : s0 + rl ≤ 6
          · have h7' : ¬ (6 : Int) - s0 < rl := by omega
            have hw7 : IntKind.i64.wrap ((6 : Int) - s0) = 6 - s0 := IntWalk.i64_in _ (by omega)
            go_wp2_with fail
            go_roundw
            case rel => exact ⟨k + 1, by omega, by go_num, by rw [← HS1.out, HX.out]; go_num, Lib.hid ⟨HNE.out, by rw [← HS1.out, HX.out]; exact h7⟩, by first | rfl | trivial⟩
            case measure => simp [intOf]; omega
          · have HNO := Lib.hid (HBIG.out (by rw [HX.out]; omega))
            have h7' : (6 : Int) - s0 < rl := by omega
            have hw7 : IntKind.i64.wrap ((6 : Int) - s0) = 6 - s0 := IntWalk.i64_in _ (by omega)
            clear h7
            go_wp2_with fail
            go_ret
            exact ⟨ret_int HNO.out.symm, Below.refl _ _⟩
      · obtain rfl : k = zz.length := by omega
        have htot : sizeZ zz zz.length = total zz := sizeZ_full zz
        have HNE := Lib.hid HU.out.1
        have HT6 := Lib.hid (show total zz ≤ 6 by rw [← htot]; exact HU.out.2)
        rw [htot]
        have HL0 := Lib.hid ((Law.start w).own (Below.refl _ _) (Own.nil _ _))
        clear hlt htot HU
        have ht6 := HT6.out
        go_wp2_with fail
        go_loopw [8, 39] (fun v i wr => ∃ i0 : Nat, i0 ≤ zz.length ∧ i = .int .i64 i0 ∧ Hid (UpZ d zz i0 0) ∧ Law w [tOwn v (preZ zz i0)] wr) (fun _ i _ => zz.length - (intOf i).toNat)
        case atStart => exact ⟨0, Nat.zero_le _, rfl, Lib.hid (UpZ.start d zz), HL0.out⟩
        case round =>
          clear HL0
          obtain ⟨i0, hi0, rfl, HU, L⟩ := hrel
          have HL := Lib.hid L
          by_cases hlt : i0 < zz.length
          · obtain ⟨b, off, aj, cj, rfl, hbw, hcell, hrd⟩ := HR.out.row i0 hlt
            rw [← rowZ_eq zz i0 hlt] at hcell hrd
            replace hcell := (L.below.cell (p := ⟨b, off + i0, none⟩) hbw).trans hcell
            have hrl := total_row zz i0 hlt
            have hlt' : (i0 : Int) < zz.length := by omega
            have HRD := Lib.hid hrd
            have HH := Lib.hid (HNE.out i0 hlt)
            have HU0 : Hid (seenZ zz i0 0 = preZ zz i0) := Lib.hid (seenZ_zero zz i0)
            rw [← HU0.out] at HL
            clear L hrd
            go_upto_region 16 with fail
            go_loopw [8, 46] (fun v j wr => ∃ k : Nat, k ≤ (rowZ zz i0).length ∧ j = .int .i64 k ∧ Hid (UpZ d zz i0 k) ∧ Law w [tOwn v (seenZ zz i0 k)] wr) (fun _ j _ => (rowZ zz i0).length - (intOf j).toNat)
            case atStart => exact ⟨0, Nat.zero_le _, rfl, HU, HL.out⟩
            case round =>
              clear HL HU HU0 hcell
              obtain ⟨k, hk, rfl, HU, L⟩ := hrel
              have HL := Lib.hid L
              have hrd := L.reads HRD.out
              by_cases hkl : k < (rowZ zz i0).length
              · obtain ⟨b2, off2, rfl, _, hcell⟩ := reads_row hrd (by omega)
                have hck := hcell k hkl
                have hc0 := hcell 0 (by omega)
                have hcp := hcell (k - 1) (by omega)
                rw [Nat.add_zero] at hc0
                have hbad := GF.bad_elem (d := d) i0 k hlt hkl
                have hnx := HU.out.next hkl
                have hgf := fun (g : GF d zz) => And.intro (g.hd i0 hlt k hkl) (fun (hd : d = true) (h : 0 < k) => (by have := g.so hd i0 hlt (k - 1) (by omega); rwa [show k - 1 + 1 = k by omega] at this : (rowZ zz i0).getD (k - 1) 0 ≤ (rowZ zz i0).getD k 0))
                have HSN := Lib.hid (seenZ_next zz i0 k hkl)
                obtain ⟨sa, sc, rfl, hsr⟩ := L.ownInts.reads
                have hln : (seenZ zz i0 k).length ≤ 6 := by
                  have h1 := (seenZ_pre zz i0 k hlt).length_le
                  rw [flat_total] at h1
                  exact Nat.le_trans h1 ht6
                have HHS := Lib.hid (fun W (h : Reads W sa (seenZ zz i0 k).length (seenZ zz i0 k)) (x : Int) => l1Has_any sa (seenZ zz i0 k).length sc (seenZ zz i0 k) x W (by omega) rfl h)
                have HSR := Lib.hid hsr
                have HIN := Lib.hid (fun (x : Int) W => l1In_any x 0 ((total zz : Int) - 1) W)
                have htw : IntKind.i64.wrap ((total zz : Int) - 1) = (total zz : Int) - 1 := IntWalk.i64_in _ (by omega)
                have hI := @hasI_iff (seenZ zz i0 k) ((rowZ zz i0).getD k 0)
                clear hcell hsr hrd L
                generalize (rowZ zz i0).getD k 0 = x at *
                cases hin : inB 0 x ((total zz : Int) - 1)
                · have HNO := Lib.hid (blkN_no (hbad (.inr (fun h => by rw [inB_yes h.1 h.2] at hin; cases hin))))
                  have HI := Lib.hid (at_bool (HIN.out x) hin)
                  have HB := Lib.hid HL.out.below
                  clear hbad hnx hgf hI hc0 hcp hin HSN HHS HSR
                  go_wp2_with fail
                  refine (HI.out _).mono ?_
                  rintro e w' ⟨rfl, rfl⟩
                  go_wp2_with fail
                  go_ret
                  exact ⟨ret_int HNO.out.symm, HB.out⟩
                · have HI := Lib.hid (at_bool (HIN.out x) hin)
                  cases hhs : hasI (seenZ zz i0 k) x
                  · have HS := Lib.hid (HHS.out _ HSR.out x)
                    rw [hhs] at HS
                    have hns := hasI_no.1 hhs
                    have hix := inB_iff.1 hin
                    have hkl' : (k : Int) < (rowZ zz i0).length := by omega
                    have hk0' : (0 : Int) ≤ k := by omega
                    have hl2 : (seenZ zz i0 k).length + 1 ≤ 1048576 := by omega
                    replace HX := HSN
                    clear hbad hI hin HHS HSR hhs
                    by_cases hk0 : 0 < k
                    · have hkp : (0 : Int) < k := by omega
                      have hkw : IntKind.i64.wrap ((k : Int) - 1) = (k : Int) - 1 := IntWalk.i64_in _ (by omega)
                      have hkn : ((k : Int) - 1).toNat = k - 1 := by omega
                      have hkm : (0 : Int) ≤ (k : Int) - 1 := by omega
                      have hkm2 : (k : Int) - 1 < (rowZ zz i0).length := by omega
                      by_cases hx0 : x < (rowZ zz i0).getD 0 0
                      · have HNO := Lib.hid (blkN_no (d := d) (zz := zz) (fun g => by have := (hgf g).1; omega))
                        have HB := Lib.hid HL.out.below
                        clear hnx hgf HSN HX hcp
                        generalize (seenZ zz i0 k).length = sl at *
                        generalize (rowZ zz i0).getD 0 0 = y0 at *
                        go_wp2_with fail
                        refine (HI.out _).mono ?_
                        rintro e w' ⟨rfl, hw⟩
                        subst w'
                        go_wp2_with fail
                        refine HS.out.mono ?_
                        rintro e w' ⟨rfl, rfl⟩
                        go_wp2_with fail
                        go_ret
                        exact ⟨ret_int HNO.out.symm, HB.out⟩
                      · cases d
                        · have HUN := Lib.hid (hnx (by omega) hns (.inr (by omega)) (fun h => by cases h))
                          have hl3 := hl2
                          clear hnx hgf hns
                          have HLN := Lib.hid hl3
                          obtain ⟨y0, hyy⟩ : ∃ y, y = (rowZ zz i0).getD 0 0 := ⟨_, rfl⟩
                          obtain ⟨y1, hyz⟩ : ∃ y, y = (rowZ zz i0).getD (k - 1) 0 := ⟨_, rfl⟩
                          rw [← hyy] at hc0
                          rw [← hyz] at hcp
                          try rw [← hyy] at hx0
                          try rw [← hyz] at hxp
                          have HC1 := Lib.hid (show (wr.alloc (.cells #[.int .i64 x] 3)).cell? ⟨wr.heap.size, 0, none⟩ = some (.int .i64 x) by simp)
                          clear hyy hyz
                          go_wp2_with fail
                          refine (HI.out _).mono ?_
                          rintro e w' ⟨rfl, hw⟩
                          subst w'
                          go_wp2_with fail
                          refine HS.out.mono ?_
                          rintro e w' ⟨rfl, hw⟩
                          subst w'
                          replace HL := Lib.hid (HL.out.kept (below_new (.cells #[.int .i64 x] 3)))
                          go_wp2_with (at_builtin; refine wp_appendI rfl _ _ rfl x HL.out wr.heap.size rfl rfl HC1.out HLN.out _ HX.out ?_)
                          intro g2 cp w3 L3
                          have HL3 := Lib.hid L3
                          clear L3 HL
                          go_wp2_with fail
                          go_roundw
                          case rel => exact ⟨k + 1, by omega, by go_num, HUN, HL3.out⟩
                          case measure => simp [intOf]; omega
                        · by_cases hxp : x < (rowZ zz i0).getD (k - 1) 0
                          · have HNO := Lib.hid (blkN_no (d := true) (zz := zz) (fun g => by have := (hgf g).2 rfl hk0; omega))
                            have HB := Lib.hid HL.out.below
                            clear hnx hgf HSN HX
                            generalize (seenZ zz i0 k).length = sl at *
                            generalize (rowZ zz i0).getD 0 0 = y0 at *
                            generalize (rowZ zz i0).getD (k - 1) 0 = y1 at *
                            go_wp2_with fail
                            refine (HI.out _).mono ?_
                            rintro e w' ⟨rfl, hw⟩
                            subst w'
                            go_wp2_with fail
                            refine HS.out.mono ?_
                            rintro e w' ⟨rfl, rfl⟩
                            go_wp2_with fail
                            go_ret
                            exact ⟨ret_int HNO.out.symm, HB.out⟩
                          · have HUN := Lib.hid (hnx (by omega) hns (.inr (by omega)) (fun _ => .inr (by omega)))
                            have hl3 := hl2
                            clear hnx hgf hns
                            have HLN := Lib.hid hl3
                            obtain ⟨y0, hyy⟩ : ∃ y, y = (rowZ zz i0).getD 0 0 := ⟨_, rfl⟩
                            obtain ⟨y1, hyz⟩ : ∃ y, y = (rowZ zz i0).getD (k - 1) 0 := ⟨_, rfl⟩
                            rw [← hyy] at hc0
                            rw [← hyz] at hcp
                            try rw [← hyy] at hx0
                            try rw [← hyz] at hxp
                            have HC1 := Lib.hid (show (wr.alloc (.cells #[.int .i64 x] 3)).cell? ⟨wr.heap.size, 0, none⟩ = some (.int .i64 x) by simp)
                            clear hyy hyz
                            go_wp2_with fail
                            refine (HI.out _).mono ?_
                            rintro e w' ⟨rfl, hw⟩
                            subst w'
                            go_wp2_with fail
                            refine HS.out.mono ?_
                            rintro e w' ⟨rfl, hw⟩
                            subst w'
                            replace HL := Lib.hid (HL.out.kept (below_new (.cells #[.int .i64 x] 3)))
                            go_wp2_with (at_builtin; refine wp_appendI rfl _ _ rfl x HL.out wr.heap.size rfl rfl HC1.out HLN.out _ HX.out ?_)
                            intro g2 cp w3 L3
                            have HL3 := Lib.hid L3
                            clear L3 HL
                            go_wp2_with fail
                            go_roundw
                            case rel => exact ⟨k + 1, by omega, by go_num, HUN, HL3.out⟩
                            case measure => simp [intOf]; omega
                    · have hkp : ¬ (0 : Int) < k := by omega
                      have HUN := Lib.hid (hnx (by omega) hns (.inl (by omega)) (fun _ => .inl (by omega)))
                      have hl3 := hl2
                      clear hnx hgf hns
                      have HLN := Lib.hid hl3
                      obtain ⟨y0, hyy⟩ : ∃ y, y = (rowZ zz i0).getD 0 0 := ⟨_, rfl⟩
                      obtain ⟨y1, hyz⟩ : ∃ y, y = (rowZ zz i0).getD (k - 1) 0 := ⟨_, rfl⟩
                      rw [← hyy] at hc0
                      rw [← hyz] at hcp
                      try rw [← hyy] at hx0
                      try rw [← hyz] at hxp
                      have HC1 := Lib.hid (show (wr.alloc (.cells #[.int .i64 x] 3)).cell? ⟨wr.heap.size, 0, none⟩ = some (.int .i64 x) by simp)
                      clear hyy hyz
                      go_wp2_with fail
                      refine (HI.out _).mono ?_
                      rintro e w' ⟨rfl, hw⟩
                      subst w'
                      go_wp2_with fail
                      refine HS.out.mono ?_
                      rintro e w' ⟨rfl, hw⟩
                      subst w'
                      replace HL := Lib.hid (HL.out.kept (below_new (.cells #[.int .i64 x] 3)))
                      go_wp2_with (at_builtin; refine wp_appendI rfl _ _ rfl x HL.out wr.heap.size rfl rfl HC1.out HLN.out _ HX.out ?_)
                      intro g2 cp w3 L3
                      have HL3 := Lib.hid L3
                      clear L3 HL
                      go_wp2_with fail
                      go_roundw
                      case rel => exact ⟨k + 1, by omega, by go_num, HUN, HL3.out⟩
                      case measure => simp [intOf]; omega
                  · have HNO := Lib.hid (blkN_no (hbad (.inl (hI.1 hhs))))
                    have HS := Lib.hid (HHS.out _ HSR.out x)
                    rw [hhs] at HS
                    have HB := Lib.hid HL.out.below
                    clear hbad hnx hgf hI hc0 hcp hin HSN HHS HSR hhs
                    generalize (seenZ zz i0 k).length = sl at *
                    go_wp2_with fail
                    refine (HI.out _).mono ?_
                    rintro e w' ⟨rfl, hw⟩
                    subst w'
                    go_wp2_with fail
                    refine HS.out.mono ?_
                    rintro e w' ⟨rfl, rfl⟩
                    go_wp2_with fail
                    go_ret
                    exact ⟨ret_int HNO.out.symm, HB.out⟩
              · obtain hke : k = (rowZ zz i0).length := by omega
                rw [hke] at HU HL
                have hsr2 := seenZ_row zz i0 hlt
                rw [hsr2] at HL
                have hrow := UpZ.row hlt HU.out
                have hfi := fun (g : GF d zz) (h : 0 < i0) => (by have := g.fi (i0 - 1) (by omega); rwa [show i0 - 1 + 1 = i0 by omega] at this : (rowZ zz (i0 - 1)).getD 0 0 ≤ (rowZ zz i0).getD 0 0)
                have hkl' : ¬ (k : Int) < (rowZ zz i0).length := by omega
                clear L HU hsr2
                by_cases h0 : 0 < i0
                · obtain ⟨b2, off2, rfl, _, hcell2⟩ := reads_row hrd (by have := HH.out; omega)
                  have hc0 := hcell2 0 (by have := HH.out; omega)
                  rw [Nat.add_zero] at hc0
                  obtain ⟨b', off', ap, cp, ha, hbw', hcp, hrp⟩ := HR.out.row (i0 - 1) (by omega)
                  rw [← rowZ_eq zz (i0 - 1) (by omega)] at hcp hrp
                  injection ha with ha
                  injection ha with ha1 ha2
                  subst ha1
                  subst ha2
                  have hcp := (HL.out.below.cell (p := ⟨b, off + (i0 - 1), none⟩) hbw).trans hcp
                  have hnp := HNE.out (i0 - 1) (by omega)
                  obtain ⟨b3, off3, rfl, _, hcell3⟩ := reads_row (HL.out.reads hrp) (by omega)
                  have hc3 := hcell3 0 (by omega)
                  rw [Nat.add_zero] at hc3
                  have hi1 : (0 : Int) ≤ (i0 : Int) - 1 := by omega
                  have hi2 : ((i0 : Int) - 1).toNat = i0 - 1 := by omega
                  have hi3 : (i0 : Int) - 1 < zz.length := by omega
                  have hi4 : IntKind.i64.wrap ((i0 : Int) - 1) = (i0 : Int) - 1 := IntWalk.i64_in _ (by omega)
                  have hl1 : (0 : Int) < (rowZ zz i0).length := by have := HH.out; omega
                  have hl3 : (0 : Int) < (rowZ zz (i0 - 1)).length := by omega
                  have hd0 := decide_eq_true (show (0 : Int) < i0 by omega)
                  clear hcell2 hcell3 hrp hrd
                  obtain ⟨y0, hy0⟩ : ∃ y, y = (rowZ zz i0).getD 0 0 := ⟨_, rfl⟩
                  obtain ⟨y1, hy1⟩ : ∃ y, y = (rowZ zz (i0 - 1)).getD 0 0 := ⟨_, rfl⟩
                  rw [← hy0] at hc0 hfi hrow
                  rw [← hy1] at hc3 hfi hrow
                  clear hy0 hy1
                  by_cases hlt2 : y0 < y1
                  · have HNO := Lib.hid (blkN_no (d := d) (zz := zz) (fun g => by have := hfi g h0; omega))
                    have hd1 := decide_eq_true hlt2
                    clear hfi hrow
                    go_wp2_with fail
                    go_quiet (fail)
                    all_goals
                      go_wp2_with fail
                      go_ret
                      exact ⟨ret_int HNO.out.symm, (HL.out.kept (below_drewN (Below.refl _ _) _)).below⟩
                  · have HUN := Lib.hid (hrow (.inr (by omega)))
                    have hd1 := decide_eq_false hlt2
                    clear hfi hrow
                    go_wp2_with fail
                    go_quiet (fail)
                    all_goals
                      go_wp2_with fail
                      go_roundw
                      case rel => exact ⟨i0 + 1, by omega, by go_num, HUN, HL.out.kept (below_drewN (Below.refl _ _) _)⟩
                      case measure => simp [intOf]; omega
                · have HUN := Lib.hid (hrow (.inl (by omega)))
                  have hd0 := decide_eq_false (show ¬ (0 : Int) < i0 by omega)
                  clear hfi hrow hrd
                  go_wp2_with fail
                  go_quiet (fail)
                  all_goals
                    go_wp2_with fail
                    go_roundw
                    case rel => exact ⟨i0 + 1, by omega, by go_num, HUN, HL.out.kept (below_drewN (Below.refl _ _) _)⟩
                    case measure => simp [intOf]; omega
          · obtain rfl : i0 = zz.length := by omega
            have hlt' : ¬ ((zz.length : Nat) : Int) < zz.length := by omega
            have HRES := Lib.hid (show (total zz : Int) = blkN d zz by
              by_cases hp : 1 ≤ zz.length
              · rw [blkN_yes (HU.out.good HNE.out HT6.out hp)]
              · rw [blkN_no (fun g => by have := g.pos; omega)]
                have : zz = [] := List.length_eq_zero_iff.1 (by omega)
                rw [this]
                rfl)
            have HB := Lib.hid L.below
            clear L hlt
            go_wp2_with fail
            go_ret
            exact ⟨ret_int HRES.out, HB.out⟩
theorem fiBlocks_any (d : Bool) (zz : List (List Int)) (w : World) (hl : zz.length + total zz ≤ 1048576) (lo : Nat) (s : Value) (vs : List Value) (hO : OwnM w lo s vs zz) :
    Calls Try.prog 76 #[s, .bool d] w fun e w' => e = .returned (.int .i64 (blkN d zz)) ∧ Below w.heap.size w w' := by
  obtain ⟨a, cap, rfl, hr⟩ := hO.reads
  exact fiBlocks_rd d a cap zz w hl hr
end Go.Proofs.Ytddmommamcgelab
