import Derived.Test.YtdimbnkgomfojabFold17
import Derived.Test.YtdimbnkgomfojabFold20
import Derived.Test.YtdimbnkgomfojabFold21
import Derived.Test.YtdimbnkgomfojabFold9
namespace Go.Proofs.Ytdimbnkgomfojab
open Go.RowKit Go.WideShapes

abbrev lastC (m : Nat) : List Int := cols m ++ [-1]
theorem lastC_len (m : Nat) : (lastC m).length = m + 1 := by simp [cols]
theorem lastC_at (m c : Nat) (h : c < m) : (lastC m).getD c 0 = (c : Int) := by
  rw [List.getD_eq_getElem?_getD, List.getElem?_append_left (by rw [cols_len]; exact h)]
  simp [cols, h]
theorem lastC_end (m : Nat) : (lastC m).getD m 0 = -1 := by
  rw [List.getD_eq_getElem?_getD, List.getElem?_append_right (by rw [cols_len]; omega), cols_len]
  simp
theorem plG_last (m : Nat) (B : Nat → Nat → Bool) (d : Nat) : ∀ f t k, (plG B (lastC m) d f t k).length = wR m B d f t k := by
  induction d with
  | zero => intro f t k; rw [plG, wR]; split <;> simp
  | succ d ih =>
    intro f t k
    rw [plG, wR, List.flatMap_append, List.length_append, flat_cols, List.length_flatMap, Nat.add_comm]
    congr 1
    · simp [ih]
    · congr 1
      refine List.map_congr_left (fun c _ => ?_)
      rw [if_neg (by omega)]
      simp only [Int.toNat_natCast]
      unfold term
      by_cases h : (B f c && !t.testBit c) = true
      · rw [if_pos h]
        by_cases hk : k = 0
        · subst hk; simp
        · rw [if_pos (by simp [h]; omega), if_neg hk, List.length_map, ih]
      · rw [if_neg h, if_neg (by rw [Bool.and_eq_true]; exact fun e => h e.2)]
        rfl
/-- What goes on P, and what the first c columns bring. -/
def gA (m : Nat) (B : Nat → Nat → Bool) (d f t k : Nat) (P : List Int) : List (List Int) := (plG B (lastC m) d f t k).map fun Q => P ++ Q
def gC (m : Nat) (B : Nat → Nat → Bool) (d f t k : Nat) (P : List Int) (c : Nat) : List (List Int) := (plcG B (lastC m) d f t k c).map fun Q => P ++ Q
theorem gA_none (m : Nat) (B : Nat → Nat → Bool) (d f t k : Nat) (P : List Int) (h : d < k) : gA m B d f t k P = [] := by unfold gA; rw [plG_none _ _ _ _ _ _ h]; rfl
theorem gA_leaf (m : Nat) (B : Nat → Nat → Bool) (f t : Nat) (P : List Int) : gA m B 0 f t 0 P = [P] := by simp [gA, plG]
theorem gC_zero (m : Nat) (B : Nat → Nat → Bool) (d f t k : Nat) (P : List Int) : gC m B d f t k P 0 = [] := by simp [gC, plcG]
theorem gC_skip (m : Nat) (B : Nat → Nat → Bool) (d f t k : Nat) (P : List Int) (c : Nat) (hc : c < m) (h : k = 0 ∨ B f c = false ∨ t.testBit c = true) : gC m B d f t k P (c + 1) = gC m B d f t k P c := by
  unfold gC
  rw [plcG_succ _ _ _ _ _ _ _ (by rw [lastC_len]; omega), lastC_at m c hc, blkG_no _ _ _ _ _ _ _ h, List.append_nil]
theorem gC_next (m : Nat) (B : Nat → Nat → Bool) (d f t k : Nat) (P : List Int) (c : Nat) (hc : c < m) (hk : 0 < k) (hB : B f c = true) (ht : t.testBit c = false) : gC m B d f t k P (c + 1) = gC m B d f t k P c ++ gA m B d (f + 1) (t ||| 2 ^ c) (k - 1) (P ++ [(c : Int)]) := by
  unfold gC gA
  rw [plcG_succ _ _ _ _ _ _ _ (by rw [lastC_len]; omega), lastC_at m c hc, blkG_yes _ _ _ _ _ _ _ hk hB ht, List.map_append, map_snoc]
theorem gC_last (m : Nat) (B : Nat → Nat → Bool) (d f t k : Nat) (P : List Int) : gA m B (d + 1) f t k P = gC m B d f t k P m ++ gA m B d (f + 1) t k (P ++ [-1]) := by
  unfold gC gA
  rw [← plcG_full, lastC_len, plcG_succ _ _ _ _ _ _ _ (by rw [lastC_len]; omega), lastC_end, blkG_none, List.map_append, map_snoc]
theorem gA_len (m : Nat) (hm : m ≤ 6) (B : Nat → Nat → Bool) (d f t k : Nat) (P : List Int) (hd : d ≤ 6) : (gA m B d f t k P).length ≤ 117649 := by
  unfold gA
  rw [List.length_map, plG_last]
  exact Nat.le_trans (wR_le m (by omega) B d f t k) (pow7 d (by omega))
theorem gC_len (m : Nat) (hm : m ≤ 6) (B : Nat → Nat → Bool) (d f t k : Nat) (P : List Int) (c : Nat) (hd : d ≤ 5) : (gC m B d f t k P c).length ≤ 117649 := by
  have h1 := gA_len m hm B (d + 1) f t k P (by omega)
  obtain ⟨tl, ht⟩ := plcG_split B (lastC m) d f t k c
  unfold gA at h1
  unfold gC
  rw [ht, List.map_append, List.length_append] at h1
  omega

set_option maxRecDepth 100000 in
set_option maxHeartbeats 12800000 in
theorem lcAll_any (n m : Nat) (xs : List Int) (hx : xs.length ≤ 1048576) (hn : n ≤ 6) (hm : m ≤ 6) (hlen : xs.length = n) (hgc : ∀ k, 0 ≤ xs.getD k 0 ∧ xs.getD k 0 < 64) : ∀ (d f t k : Nat) (P : List Int), f + d = n → P.length = f → t < 64 → k ≤ 6 →
    ∀ (w : World) (lo : Nat) (s : Value) (lop : Nat) (pv : Value), Own w lo s xs → Own w lop pv P →
    Calls Try.prog 102 #[.agg #[.int .i64 n, .int .i64 m, s], pv, .int .i64 t, .int .i64 k] w fun e w' => ∃ v vs, e = .returned v ∧ OwnM w' w.heap.size v vs (gA m (bt xs) d f t k P) ∧ (vs = [] → v = .slice none 0 0) ∧ Below w.heap.size w w' := by
  have HG3 := Lib.hid hlen
  have HGC := Lib.hid hgc
  clear hlen hgc
  intro d
  induction d with
  | zero =>
    intro f t k P hf hPl ht hk w lo s lop pv hO hP
    have hfn : f = n := by omega
    subst hfn
    have L0 := (Law.start w).box (.int .i64 f) (.int .i64 m) s 28
    have hP1 := hP.kept L0.below
    obtain ⟨a, cap, rfl, _⟩ := hO.reads
    obtain ⟨pa, pcap, rfl, _⟩ := hP.reads
    have hPle : P.length ≤ 1048576 := by omega
    have HPle := Lib.hid hPle
    rw [hPl] at hP1 ⊢
    obtain ⟨_, k0, k1, k2, _⟩ := L0.ownBox
    have HP1 := Lib.hid hP1
    have HL := Lib.hid L0
    have hsub : IntKind.i64.wrap ((f : Int) - f) = 0 := by rw [Int.sub_self]; rfl
    have hsub2 : (f : Int) - f = 0 := by omega
    clear L0 hO hP hf hPl hPle hP1 HG3
    cases k with
    | zero =>
      have HA := Lib.hid (gA_leaf m (bt xs) f t P)
      obtain ⟨R, hR⟩ : ∃ R, R = gA m (bt xs) 0 f t 0 P := ⟨_, rfl⟩
      rw [← hR] at HA ⊢
      have hkz : ¬ ((0 : Int) < (f : Int) - f) := by omega
      rw [show ((0 : Nat) : Int) = 0 from rfl]
      clear hR
      go_enter Try.func102, Try.ntmps102
      go_wp2_with fail
      refine (l1Own_any P _ HPle.out _ (HP1.out).src).mono ?_
      rintro e w1 ⟨v, rfl, hO, hb⟩
      obtain ⟨va, vp, rfl, _⟩ := hO.reads
      have L1 := HL.out.own hb hO
      have HS := Lib.hid (OwnM.single L1.ownLo L1.below.size)
      have HB := Lib.hid (below_on L1.below (below_new (.cells #[.slice va P.length vp] 22)))
      clear HL hb hO L1 k0 k1 k2
      go_wp2_with fail
      go_ret
      rw [HA.out]
      exact ⟨_, _, rfl, HS.out, fun h => by simp at h, HB.out⟩
    | succ k =>
      have HA := Lib.hid (gA_none m (bt xs) 0 f t (k + 1) P (by omega))
      obtain ⟨R, hR⟩ : ∃ R, R = gA m (bt xs) 0 f t (k + 1) P := ⟨_, rfl⟩
      rw [← hR] at HA ⊢
      have hk1 : (f : Int) - f < ((k + 1 : Nat) : Int) := by omega
      have HB := Lib.hid HL.out.below
      obtain ⟨kk, hkk⟩ : ∃ kk : Int, kk = ((k + 1 : Nat) : Int) := ⟨_, rfl⟩
      rw [← hkk] at hk1 ⊢
      have hk2 : (0 : Int) < kk := by omega
      clear hkk hk HP1 hR HL
      go_enter Try.func102, Try.ntmps102
      go_wp2_with fail
      go_ret
      rw [HA.out]
      exact ⟨_, _, rfl, OwnM.nil _ _, fun _ => rfl, HB.out⟩
  | succ d ih =>
    intro f t k P hf hPl ht hk w lo s lop pv hO hP
    have L0 := (Law.start w).box (.int .i64 n) (.int .i64 m) s 28
    have HO := Lib.hid hO
    obtain ⟨a, cap, rfl, _⟩ := hO.reads
    obtain ⟨pa, pcap, rfl, hrP⟩ := hP.reads
    have hP' := hP
    rw [hPl] at hP'
    have HP := Lib.hid hP'
    clear hP'
    have hPle : P.length ≤ 1048576 := by omega
    have HPL := Lib.hid hPl
    have HPle := Lib.hid hPle
    have hfn : ¬ (f : Int) = n := by omega
    have hsub : IntKind.i64.wrap ((n : Int) - f) = (n : Int) - f := IntWalk.i64_in _ (by omega)
    obtain ⟨_, k0, k1, k2, _⟩ := L0.ownBox
    have HL := Lib.hid L0
    rw [hPl]
    by_cases hdk : d + 1 < k
    · have HR := Lib.hid (gA_none m (bt xs) (d + 1) f t k P hdk)
      obtain ⟨R, hR⟩ : ∃ R, R = gA m (bt xs) (d + 1) f t k P := ⟨_, rfl⟩
      rw [← hR] at HR ⊢
      have hlt : (n : Int) - f < k := by omega
      have HB := Lib.hid HL.out.below
      clear L0 hO hP hrP hf hPl hPle HL hR ih hdk
      go_enter Try.func102, Try.ntmps102
      go_wp2_with fail
      go_ret
      rw [HR.out]
      exact ⟨_, _, rfl, OwnM.nil _ _, fun _ => rfl, HB.out⟩
    · have hlt : ¬ (n : Int) - f < k := by omega
      have HR := Lib.hid (gC_last m (bt xs) d f t k P)
      obtain ⟨R, hR⟩ : ∃ R, R = gA m (bt xs) (d + 1) f t k P := ⟨_, rfl⟩
      rw [← hR] at HR ⊢
      have hih1 : ∀ (W : World) (pv : Value), Own W lo (.slice a xs.length cap) xs → Own W 0 pv (P ++ [-1]) → Calls Try.prog 102 #[.agg #[.int .i64 n, .int .i64 m, .slice a xs.length cap], pv, .int .i64 t, .int .i64 k] W fun e w' => ∃ v vs, e = .returned v ∧ OwnM w' W.heap.size v vs (gA m (bt xs) d (f + 1) t k (P ++ [-1])) ∧ (vs = [] → v = .slice none 0 0) ∧ Below W.heap.size W w' := fun W pv h1 h2 =>
        ih (f + 1) t k (P ++ [-1]) (by omega) (by rw [List.length_append]; simp; omega) ht hk W lo _ 0 pv h1 h2
      have hih2 : ∀ (j : Nat) (W : World) (pv : Value), j < m → 0 < k → Own W lo (.slice a xs.length cap) xs → Own W 0 pv (P ++ [(j : Int)]) →
          Calls Try.prog 102 #[.agg #[.int .i64 n, .int .i64 m, .slice a xs.length cap], pv, .int .i64 (t ||| 2 ^ j : Nat), .int .i64 ((k : Int) - 1)] W fun e w' => ∃ v vs, e = .returned v ∧ OwnM w' W.heap.size v vs (gA m (bt xs) d (f + 1) (t ||| 2 ^ j) (k - 1) (P ++ [(j : Int)])) ∧ (vs = [] → v = .slice none 0 0) ∧ Below W.heap.size W w' := by
        intro j W pv hj hk0 h1 h2
        have h := ih (f + 1) (t ||| 2 ^ j) (k - 1) (P ++ [(j : Int)]) (by omega) (by rw [List.length_append]; simp; omega) (or_lt64 t j ht (by omega)) (by omega) W lo _ 0 pv h1 h2
        rw [show (((k - 1 : Nat)) : Int) = (k : Int) - 1 by omega] at h
        exact h
      have HI1 := Lib.hid hih1
      have HI2 := Lib.hid hih2
      have HLC := Lib.hid (fun c => gC_len m hm (bt xs) d f t k P c (by omega))
      have HLA := Lib.hid (fun t' k' P' => gA_len m hm (bt xs) d (f + 1) t' k' P' (by omega))
      have HZ := Lib.hid (gC_zero m (bt xs) d f t k P)
      have HSK := Lib.hid (gC_skip m (bt xs) d f t k P)
      have HNX := Lib.hid (gC_next m (bt xs) d f t k P)
      have hfx : f < n := by omega
      clear L0 hO hP hrP hPle hR ih hdk hih1 hih2 hf hPl
      go_enter Try.func102, Try.ntmps102
      go_wp2_with fail
      go_loopw [10, 11] (fun o ci wr => ∃ (j : Nat) (vs : List Value), j ≤ m ∧ ci = .int .i64 j ∧ (vs = [] → o = .slice none 0 0) ∧ Law w [tM o vs (gC m (bt xs) d f t k P j), tBox w.heap.size (.int .i64 n) (.int .i64 m) (.slice a xs.length cap)] wr) (fun _ ci _ => m - (intOf ci).toNat)
      case atStart => exact ⟨0, [], Nat.zero_le _, rfl, fun _ => rfl, by rw [HZ.out]; exact HL.out.nilM⟩
      case round =>
        clear HL k0 k1 k2 hlt
        obtain ⟨j, vs, hj, rfl, hno, L⟩ := hrel
        obtain ⟨_, b0, b1, b2, _⟩ := L.tl.ownBox
        have HL := Lib.hid L
        clear L
        by_cases hjm : j < m
        · have hjm' : (j : Int) < m := by omega
          have hO1 := HO.out.kept HL.out.below
          have HH := Lib.hid (boHas_any n m xs f j _ (by have := HG3.out; omega) hx (by omega) (HGC.out f) lo _ hO1)
          have hj64 : (j : Int) < 64 := by omega
          have hj0 : (0 : Int) ≤ j := by omega
          have hsk := HSK.out j hjm
          have hnx := HNX.out j hjm
          have hI2 := HI2.out j
          have hla := HLA.out (t ||| 2 ^ j) (k - 1) (P ++ [(j : Int)])
          have hlc := HLC.out j
          have hb2 := bit_off2 t j ht (by omega)
          have hb3 := bit_off3 t j ht (by omega)
          have hor := or_nat t j ht (by omega)
          have hor2 := or_nat2 t j ht (by omega)
          cases hp : (xs.getD f 0).toNat.testBit j
          · rw [hp] at HH
            have HX := Lib.hid (hsk (.inr (.inl hp)))
            clear hsk hnx hp hO1 hI2 hla hlc
            go_wp2_with fail
            refine HH.out.mono ?_
            rintro e w2 ⟨rfl, hb⟩
            have HL2 := Lib.hid (HL.out.kept hb)
            clear HL hb b0 b1 b2 HH
            go_wp2_with fail
            go_roundw
            case rel => exact ⟨j + 1, vs, by omega, by go_num, hno, by rw [HX.out]; exact HL2.out⟩
            case measure => simp [intOf]; omega
          · rw [hp] at HH
            cases hT : t.testBit j
            · rw [hT] at hb2 hb3
              simp only [Bool.not_false] at hb2 hb3
              by_cases hk0 : k = 0
              · have HX := Lib.hid (hsk (.inl hk0))
                have hkz : ¬ (0 : Int) < k := by omega
                clear hsk hnx hp hO1 hI2 hla hlc hT hk0
                go_wp2_with fail
                refine HH.out.mono ?_
                rintro e w2 ⟨rfl, hb⟩
                have HL2 := Lib.hid (HL.out.kept hb)
                clear HL hb b0 b1 b2 HH
                go_wp2_with fail
                go_roundw
                case rel => exact ⟨j + 1, vs, by omega, by go_num, hno, by rw [HX.out]; exact HL2.out⟩
                case measure => simp [intOf]; omega
              · have hkp : (0 : Int) < k := by omega
                have hnx2 := hnx (by omega) hp hT
                have hI3 := fun W pv => hI2 W pv hjm (by omega)
                obtain ⟨D, hD⟩ : ∃ D, D = gA m (bt xs) d (f + 1) (t ||| 2 ^ j) (k - 1) (P ++ [(j : Int)]) := ⟨_, rfl⟩
                obtain ⟨C, hC⟩ : ∃ C, C = gC m (bt xs) d f t k P j := ⟨_, rfl⟩
                rw [← hD] at hla hnx2 hI3
                rw [← hC] at hlc hnx2 HL
                generalize (t ||| 2 ^ j) = t2 at *
                have HX := Lib.hid hnx2
                have HI3 := Lib.hid hI3
                have HLN := Lib.hid (show C.length + D.length ≤ 1048576 by omega)
                have hkw : IntKind.i64.wrap ((k : Int) - 1) = (k : Int) - 1 := IntWalk.i64_in _ (by omega)
                clear hsk hnx hnx2 hp hO1 hI2 hI3 hla hlc hT hk0 hD hC HSK HNX HI2 HLA HLC HI1 HZ
                go_wp2_with fail
                refine HH.out.mono ?_
                rintro e w2 ⟨rfl, hb⟩
                replace HL := Lib.hid (HL.out.kept hb).drew
                obtain ⟨_, e0, e1, e2, _⟩ := HL.out.tl.ownBox
                clear hb b0 b1 b2 HH
                go_upto_region 13 with fail
                go_region_held3 (fun w' => w'.cell? ⟨w.heap.size, 0, none⟩ = some (.int .i64 n) ∧ w'.cell? ⟨w.heap.size, 1, none⟩ = some (.int .i64 m) ∧ w'.cell? ⟨w.heap.size, 2, none⟩ = some (.slice a xs.length cap)) (first | (repeat' apply And.intro) <;> first | with_reducible assumption | assumption | exact cell_later (below_new _) (by assumption)) ((first
        | (go_at_call 89; ((with_reducible refine (l1Own_any P _ HPle.out _ ((HP.out.kept HL.out.below).src)).mono ?_); rintro e wA ⟨vA, rfl, OA, hbA⟩; replace HL := Lib.hid (HL.out.own hbA OA); clear OA hbA; obtain ⟨_, z0, z1, z2, _⟩ := HL.out.boxOf (n := w.heap.size) (x := .int .i64 n) (y := .int .i64 m) (z := .slice a xs.length cap) (by simp)))
        | (go_at_call 89; ((with_reducible refine (l1Own_any P _ HPle.out _ ((HP.out.kept (HL.out.kept (below_new (.cells #[.int .i64 ((j : Int))] 3))).below).src)).mono ?_); rintro e wA ⟨vA, rfl, OA, hbA⟩; have hcell := cell_later hbA (show (w2.drew.alloc (.cells #[.int .i64 ((j : Int))] 3)).cell? ⟨w2.drew.heap.size, 0, none⟩ = some (.int .i64 ((j : Int))) by rw [World.cell?_alloc_at _ _ _ _ rfl]; rfl); replace HL := Lib.hid ((HL.out.kept (below_new (.cells #[.int .i64 ((j : Int))] 3))).own hbA OA); clear OA hbA; obtain ⟨_, z0, z1, z2, _⟩ := HL.out.boxOf (n := w.heap.size) (x := .int .i64 n) (y := .int .i64 m) (z := .slice a xs.length cap) (by simp)))
        | (go_at_call 89; ((with_reducible refine (l1Own_any P _ HPle.out _ ((HP.out.kept (HL.out.kept (show Below w2.drew.heap.size w2.drew (w2.alloc (.cells #[.int .i64 ((j : Int))] 3)).drew from below_new _)).below).src)).mono ?_); rintro e wA ⟨vA, rfl, OA, hbA⟩; have hcell := cell_later hbA (show ((w2.alloc (.cells #[.int .i64 ((j : Int))] 3)).drew).cell? ⟨w2.drew.heap.size, 0, none⟩ = some (.int .i64 ((j : Int))) from (by rw [World.cell?_alloc_at _ _ _ _ rfl]; rfl : (w2.drew.alloc (.cells #[.int .i64 ((j : Int))] 3)).cell? ⟨w2.drew.heap.size, 0, none⟩ = some (.int .i64 ((j : Int))))); replace HL := Lib.hid ((HL.out.kept (show Below w2.drew.heap.size w2.drew (w2.alloc (.cells #[.int .i64 ((j : Int))] 3)).drew from below_new _)).own hbA OA); clear OA hbA; obtain ⟨_, z0, z1, z2, _⟩ := HL.out.boxOf (n := w.heap.size) (x := .int .i64 n) (y := .int .i64 m) (z := .slice a xs.length cap) (by simp)))
        | (refine step_appI rfl (.tmp 53) (.tmp 55) rfl ((j : Int)) HL.out w2.drew.heap.size (by simp [Act.eval]) (by simp [Act.eval]) hcell (by rw [HPL.out]; omega) ?_; intro g1 cap1 w1 L1; replace HL := Lib.hid L1; clear L1 hcell; obtain ⟨_, z0, z1, z2, _⟩ := HL.out.boxOf (n := w.heap.size) (x := .int .i64 n) (y := .int .i64 m) (z := .slice a xs.length cap) (by simp))
        | (refine step_appI rfl (.tmp 53) (.tmp 55) rfl ((j : Int)) (HL.out.kept (below_new (.cells #[.int .i64 ((j : Int))] 3))) wA.heap.size (by simp [Act.eval]) (by simp [Act.eval]) (by rw [World.cell?_alloc_at _ _ _ _ rfl]; rfl) (by rw [HPL.out]; omega) ?_; intro g1 cap1 w1 L1; replace HL := Lib.hid L1; clear L1; obtain ⟨_, z0, z1, z2, _⟩ := HL.out.boxOf (n := w.heap.size) (x := .int .i64 n) (y := .int .i64 m) (z := .slice a xs.length cap) (by simp))
        | (go_at_call 102; ((with_reducible refine (HI3.out _ _ (HO.out.kept HL.out.below) HL.out.ownInts).mono ?_); rintro e wB ⟨vB, vsB, rfl, OB, hnB, hbB⟩; replace HL := Lib.hid ((HL.out.addM hbB OB).swap.tl); clear OB hbB; obtain ⟨_, z0, z1, z2, _⟩ := HL.out.boxOf (n := w.heap.size) (x := .int .i64 n) (y := .int .i64 m) (z := .slice a xs.length cap) (by simp)))
        | (refine step_joinE rfl (.tmp 50) (.tmp 63) rfl HL.out hnB hno (by simp [Act.eval]) (by simp [Act.eval]) (HLN.out) ?_; intro v3 vs3 w3 L3 hn3; replace HL := Lib.hid L3; clear L3; obtain ⟨_, z0, z1, z2, _⟩ := HL.out.boxOf (n := w.heap.size) (x := .int .i64 n) (y := .int .i64 m) (z := .slice a xs.length cap) (by simp))
        | fail))
                all_goals
                  go_wp2_with fail
                  go_roundw
                  case rel => exact ⟨j + 1, vs3, by omega, by go_num, hn3, by rw [HX.out]; exact HL.out⟩
                  case measure => simp [intOf]; omega
            · rw [hT] at hb2 hb3
              simp only [Bool.not_true] at hb2 hb3
              have HX := Lib.hid (hsk (.inr (.inr hT)))
              clear hsk hnx hp hO1 hI2 hla hlc hT
              go_wp2_with fail
              refine HH.out.mono ?_
              rintro e w2 ⟨rfl, hb⟩
              have HL2 := Lib.hid (HL.out.kept hb)
              clear HL hb b0 b1 b2 HH
              go_wp2_with fail
              go_roundw
              case rel => exact ⟨j + 1, vs, by omega, by go_num, hno, by rw [HX.out]; exact HL2.out⟩
              case measure => simp [intOf]; omega
        · obtain rfl : j = m := by omega
          have hjm' : ¬ (j : Int) < j := by omega
          have hlc := HLC.out j
          have hla := HLA.out t k (P ++ [-1])
          have hI1 := HI1.out
          obtain ⟨D, hD⟩ : ∃ D, D = gA j (bt xs) d (f + 1) t k (P ++ [-1]) := ⟨_, rfl⟩
          obtain ⟨C, hC⟩ : ∃ C, C = gC j (bt xs) d f t k P j := ⟨_, rfl⟩
          rw [← hD] at hla HR hI1
          rw [← hC] at hlc HR HL
          have HI3 := Lib.hid hI1
          have HLN := Lib.hid (show C.length + D.length ≤ 1048576 by omega)
          replace HL := Lib.hid HL.out.drew
          obtain ⟨_, e0, e1, e2, _⟩ := HL.out.tl.ownBox
          clear hI1 hla hlc hD hC HSK HNX HI2 HLA HLC HI1 HZ
          go_upto_region 14 with fail
          clear b0 b1 b2
          go_region_held3 (fun w' => w'.cell? ⟨w.heap.size, 0, none⟩ = some (.int .i64 n) ∧ w'.cell? ⟨w.heap.size, 1, none⟩ = some (.int .i64 j) ∧ w'.cell? ⟨w.heap.size, 2, none⟩ = some (.slice a xs.length cap)) (first | (repeat' apply And.intro) <;> first | with_reducible assumption | assumption | exact cell_later (below_new _) (by assumption)) ((first
        | (go_at_call 89; ((with_reducible refine (l1Own_any P _ HPle.out _ ((HP.out.kept HL.out.below).src)).mono ?_); rintro e wA ⟨vA, rfl, OA, hbA⟩; replace HL := Lib.hid (HL.out.own hbA OA); clear OA hbA; obtain ⟨_, z0, z1, z2, _⟩ := HL.out.boxOf (n := w.heap.size) (x := .int .i64 n) (y := .int .i64 j) (z := .slice a xs.length cap) (by simp)))
        | (go_at_call 89; ((with_reducible refine (l1Own_any P _ HPle.out _ ((HP.out.kept (HL.out.kept (below_new (.cells #[.int .i64 (-1)] 3))).below).src)).mono ?_); rintro e wA ⟨vA, rfl, OA, hbA⟩; have hcell := cell_later hbA (show (wr.drew.alloc (.cells #[.int .i64 (-1)] 3)).cell? ⟨wr.drew.heap.size, 0, none⟩ = some (.int .i64 (-1)) by rw [World.cell?_alloc_at _ _ _ _ rfl]; rfl); replace HL := Lib.hid ((HL.out.kept (below_new (.cells #[.int .i64 (-1)] 3))).own hbA OA); clear OA hbA; obtain ⟨_, z0, z1, z2, _⟩ := HL.out.boxOf (n := w.heap.size) (x := .int .i64 n) (y := .int .i64 j) (z := .slice a xs.length cap) (by simp)))
        | (go_at_call 89; ((with_reducible refine (l1Own_any P _ HPle.out _ ((HP.out.kept (HL.out.kept (show Below wr.drew.heap.size wr.drew (wr.alloc (.cells #[.int .i64 (-1)] 3)).drew from below_new _)).below).src)).mono ?_); rintro e wA ⟨vA, rfl, OA, hbA⟩; have hcell := cell_later hbA (show ((wr.alloc (.cells #[.int .i64 (-1)] 3)).drew).cell? ⟨wr.drew.heap.size, 0, none⟩ = some (.int .i64 (-1)) from (by rw [World.cell?_alloc_at _ _ _ _ rfl]; rfl : (wr.drew.alloc (.cells #[.int .i64 (-1)] 3)).cell? ⟨wr.drew.heap.size, 0, none⟩ = some (.int .i64 (-1)))); replace HL := Lib.hid ((HL.out.kept (show Below wr.drew.heap.size wr.drew (wr.alloc (.cells #[.int .i64 (-1)] 3)).drew from below_new _)).own hbA OA); clear OA hbA; obtain ⟨_, z0, z1, z2, _⟩ := HL.out.boxOf (n := w.heap.size) (x := .int .i64 n) (y := .int .i64 j) (z := .slice a xs.length cap) (by simp)))
        | (refine step_appI rfl (.tmp 68) (.tmp 69) rfl (-1) HL.out wr.drew.heap.size (by simp [Act.eval]) (by simp [Act.eval]) hcell (by rw [HPL.out]; omega) ?_; intro g1 cap1 w1 L1; replace HL := Lib.hid L1; clear L1 hcell; obtain ⟨_, z0, z1, z2, _⟩ := HL.out.boxOf (n := w.heap.size) (x := .int .i64 n) (y := .int .i64 j) (z := .slice a xs.length cap) (by simp))
        | (refine step_appI rfl (.tmp 68) (.tmp 69) rfl (-1) (HL.out.kept (below_new (.cells #[.int .i64 (-1)] 3))) wA.heap.size (by simp [Act.eval]) (by simp [Act.eval]) (by rw [World.cell?_alloc_at _ _ _ _ rfl]; rfl) (by rw [HPL.out]; omega) ?_; intro g1 cap1 w1 L1; replace HL := Lib.hid L1; clear L1; obtain ⟨_, z0, z1, z2, _⟩ := HL.out.boxOf (n := w.heap.size) (x := .int .i64 n) (y := .int .i64 j) (z := .slice a xs.length cap) (by simp))
        | (go_at_call 102; ((with_reducible refine (HI3.out _ _ (HO.out.kept HL.out.below) HL.out.ownInts).mono ?_); rintro e wB ⟨vB, vsB, rfl, OB, hnB, hbB⟩; replace HL := Lib.hid ((HL.out.addM hbB OB).swap.tl); clear OB hbB; obtain ⟨_, z0, z1, z2, _⟩ := HL.out.boxOf (n := w.heap.size) (x := .int .i64 n) (y := .int .i64 j) (z := .slice a xs.length cap) (by simp)))
        | (refine step_joinE rfl (.tmp 65) (.tmp 73) rfl HL.out hnB hno (by simp [Act.eval]) (by simp [Act.eval]) (HLN.out) ?_; intro v3 vs3 w3 L3 hn3; replace HL := Lib.hid L3; clear L3; obtain ⟨_, z0, z1, z2, _⟩ := HL.out.boxOf (n := w.heap.size) (x := .int .i64 n) (y := .int .i64 j) (z := .slice a xs.length cap) (by simp))
        | fail))
          all_goals
            go_wp2_with fail
            go_ret
            rw [HR.out]
            first | exact ⟨_, vs3, rfl, HL.out.ownMLo, hn3, HL.out.below⟩ | exact ⟨_, rfl, vs3, HL.out.ownMLo, hn3, HL.out.below⟩

end Go.Proofs.Ytdimbnkgomfojab
