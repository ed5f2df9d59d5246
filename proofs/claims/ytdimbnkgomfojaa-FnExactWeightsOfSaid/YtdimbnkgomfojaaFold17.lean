import Derived.Test.YtdimbnkgomfojaaFold16
import Derived.Test.YtdimbnkgomfojaaFold10
import Derived.Test.YtdimbnkgomfojaaFold8
import Derived.Deep.RegionHeld3
import Derived.Deep.RegionWith
import Derived.Test.YtdimbnkgomfojaaFold11
import Derived.Test.YtdimbnkgomfojaaFold9

section
namespace Go.Proofs.Ytdimbnkgomfojaa
open Go.RowKit Go.WideShapes

theorem bit_off (s c : Nat) (hs : s < 64) (hc : c < 6) : (bits .and .i64 ((s : Int) / 2 ^ c) 1 == 0) = !s.testBit c := by
  have key : ∀ t : Fin 64, ∀ c : Fin 6, (bits .and .i64 (((t : Nat) : Int) / 2 ^ (c : Nat)) 1 == 0) = !(t : Nat).testBit c := by decide +kernel
  exact key ⟨s, hs⟩ ⟨c, hc⟩
/-- A grid's cells, as a test. -/
abbrev bM (M : Nat → Int) (a b : Nat) : Bool := (M a).toNat.testBit b
/-- The rows of a grid. -/
def rowL (n : Nat) (M : Nat → Int) : List Int := (List.range n).map M
theorem rowL_len (n : Nat) (M : Nat → Int) : (rowL n M).length = n := by simp [rowL]
theorem rowL_get (n : Nat) (M : Nat → Int) (k : Nat) (h : k < n) : (rowL n M).getD k 0 = M k := by simp [rowL, List.getD, h]
theorem wR_rows (m : Nat) (B B' : Nat → Nat → Bool) (d : Nat) : ∀ f t k, (∀ r c, f ≤ r → r < f + d → B r c = B' r c) → wR m B d f t k = wR m B' d f t k := by
  induction d with
  | zero => intro f t k _; rfl
  | succ d ih =>
    intro f t k h
    have ih' := fun t k => ih (f + 1) t k (fun r c h1 h2 => h r c (by omega) (by omega))
    rw [wR, wR, ih' t k]
    congr 2
    refine List.map_congr_left (fun c _ => ?_)
    unfold term
    rw [h f c (Nat.le_refl _) (by omega), ih']
theorem wR_rowL (m n : Nat) (M : Nat → Int) (k : Nat) : wR m (bt (rowL n M)) n 0 0 k = wR m (bM M) n 0 0 k :=
  wR_rows m _ _ n 0 0 k (fun r c _ h => by
    show ((rowL n M).getD r 0).toNat.testBit c = _
    rw [rowL_get n M r (by omega)])

set_option maxRecDepth 100000 in
set_option maxHeartbeats 3200000 in
theorem rookNumbers_any (n m : Nat) (M : Nat → Int) (w : World) (hn : n ≤ 6) (hm : m ≤ 6) (hgc : ∀ k, k < 6 → 0 ≤ M k ∧ M k < 64) :
    Calls Try.prog 104 #[gv n m M] w fun e w' => ∃ g p, e = .returned (.slice (some ⟨g, 0, none⟩) (min n m + 1) p) ∧ Own w' w.heap.size (.slice (some ⟨g, 0, none⟩) (min n m + 1) p) (lstL (min n m + 1) (wR m (bM M) n 0 0)) ∧ Below w.heap.size w w' := by
  have L0 := ((Law.start w).has (gl n m M) 59).drew
  have ⟨e0, e1, e2, e3, e4, e5, e6, e7, ef⟩ := L0.ownHas.eight
  have hn0 : (0 : Int) ≤ n := by omega
  have hn6 : (n : Int) ≤ 6 := by omega
  have hrd : Reads (w.alloc (.cells (gl n m M).toArray 59)).drew (some ⟨w.heap.size, 2, none⟩) n (rowL n M) := by
    refine ⟨(rowL_len n M).symm, .inr ⟨_, 2, rfl, L0.ownHas.lt, fun j hj => ?_⟩⟩
    rw [rowL_get n M j hj]
    have := L0.ownHas.cell (2 + j)
    rw [gl_get n m M j (by omega)] at this
    exact this
  have HC := Lib.hid (fun p W (h : Reads W (some ⟨w.heap.size, 2, none⟩) n (rowL n M)) => numbersOfRows_any n m (rowL n M) (some ⟨w.heap.size, 2, none⟩) p W (rowL_len n M) (by omega) (by omega) (fun k hk => by rw [rowL_get n M k hk]; have := hgc k (by omega); omega) h)
  have HW := Lib.hid (wR_rowL m n M)
  have HRD := Lib.hid hrd
  have HL := Lib.hid L0
  clear L0 hrd hgc
  rw [show w.alloc (.cells (gl n m M).toArray 59) = w.alloc (.cells #[.int .i64 n, .int .i64 m, .int .i64 (M 0), .int .i64 (M 1), .int .i64 (M 2), .int .i64 (M 3), .int .i64 (M 4), .int .i64 (M 5)] 59) from rfl] at HL HRD e0 e1 ef
  go_enter Try.func104, Try.ntmps104
  go_upto_region 1 with fail
  generalize w.alloc (.cells #[.int .i64 n, .int .i64 m, .int .i64 (M 0), .int .i64 (M 1), .int .i64 (M 2), .int .i64 (M 3), .int .i64 (M 4), .int .i64 (M 5)] 59) = w5 at *
  clear e2 e3 e4 e5 e6 e7
  go_region_with ((go_at_call 129; ((with_reducible refine (HC.out _ _ HRD.out).mono ?_); rintro e wA ⟨gA, pA, rfl, OA, hbA⟩; have HLA := Lib.hid (HL.out.own hbA OA); clear OA hbA)))
  all_goals
    go_wp2_with fail
    go_ret
    have hO := HLA.out.ownLo
    rw [lstL_congr (min n m + 1) _ _ (fun k _ => HW.out k)] at hO
    exact ⟨_, _, rfl, hO, HLA.out.below⟩
end Go.Proofs.Ytdimbnkgomfojaa
end

section
namespace Go.Proofs.Ytdimbnkgomfojaa
open Go.RowKit Go.WideShapes

theorem has_upto (xs : List Int) (c : Int) (k : Nat) (hk : k < xs.length) : hasI (xs.take (k + 1)) c = (hasI (xs.take k) c || xs.getD k 0 == c) := by
  rw [take_snoc xs k hk, hasI_snoc]
theorem has_yes (xs : List Int) (c : Int) (k : Nat) (hk : k < xs.length) (h : xs.getD k 0 = c) : hasI xs c = true := by
  have e : xs.getD k 0 = xs[k] := by simp [List.getD, hk]
  rw [e] at h
  rw [hasI_iff]
  rw [← h]
  exact List.getElem_mem hk
set_option maxHeartbeats 800000 in
theorem l1Has_any (a : Option Addr) (k cap : Nat) (xs : List Int) (c : Int) (w : World) (hx : xs.length ≤ 1048576) (hk : xs.length = k) (hr : Reads w a k xs) :
    Calls Try.prog 106 #[.slice a k cap, .int .i64 c] w fun e w' => e = .returned (.bool (hasI xs c)) ∧ w = w' := by
  subst hk
  go_enter Try.func106, Try.ntmps106
  go_wp2_with fail
  go_loop [9] (fun i => ∃ k : Nat, k ≤ xs.length ∧ i = .int .i64 k ∧ Hid (hasI (xs.take k) c = false)) (fun i => xs.length - (intOf i).toNat)
  case atStart => exact ⟨0, Nat.zero_le _, rfl, Lib.hid (hasI_nil c)⟩
  case round =>
    obtain ⟨k, hk, rfl, HW⟩ := hrel
    by_cases hlt : k < xs.length
    · obtain ⟨b, off, rfl, hb, hc⟩ := reads_row hr (by omega)
      have hck := hc k hlt
      have hn := has_upto xs c k hlt
      rw [HW.out, Bool.false_or] at hn
      have hy := has_yes xs c k hlt
      clear hc
      generalize xs.getD k 0 = x at *
      by_cases he : x = c
      · subst he
        have HY := Lib.hid (hy rfl)
        clear hn hy
        go_wp2_with fail
        go_ret
        exact ⟨ret_bool HY.out.symm, rfl⟩
      · have he' : (x == c) = false := by rw [beq_eq_false_iff_ne]; exact he
        rw [he'] at hn
        have HN := Lib.hid hn
        clear hn hy he
        go_wp2_with fail
        go_round
        case rel => exact ⟨k + 1, by omega, by go_num, HN⟩
        case measure => simp [intOf]; omega
    · obtain rfl : k = xs.length := by omega
      go_wp2_with fail
      go_ret
      have h := HW.out
      rw [List.take_length] at h
      exact ⟨ret_bool h.symm, rfl⟩

set_option maxRecDepth 100000 in
set_option maxHeartbeats 3200000 in
theorem roGood_any (n m : Nat) (xs P : List Int) (a2 : Option Addr) (p2 : Nat) (w : World) (hx : xs.length ≤ 1048576) (hp : P.length ≤ 1048576) (hp2 : P.length ≤ p2) (hg : goodB n m xs = true) (lo : Nat) (s : Value) (hO : Own w lo s xs) (hr : Reads w a2 P.length P) :
    Calls Try.prog 65 #[.agg #[.int .i64 n, .int .i64 m, s], .slice a2 P.length p2] w fun e w' => e = .returned (.bool (placeP n m xs P)) ∧ Below w.heap.size w w' := by
  have hgc := good_cell hg
  obtain ⟨g1, g2, g3, _⟩ := good_facts hg
  have L0 := (Law.start w).box (.int .i64 n) (.int .i64 m) s 29
  have HO := Lib.hid hO
  have HR := Lib.hid hr
  have HGC := Lib.hid hgc
  have HLN := Lib.hid g3
  obtain ⟨a, cap, rfl, _⟩ := hO.reads
  have ⟨_, k0, k1, k2, _⟩ := L0.ownBox
  have HL := Lib.hid L0
  clear hO hr hgc hg g3 L0
  by_cases hn : P.length = n
  · have hne : ((P.length : Int) != n) = false := by simp [hn]
    have HD : Hid (placeP n m xs P = goodUp xs m P P.length) := Lib.hid (by simp [placeP, hn])
    have HN := Lib.hid hn
    clear hn
    go_enter Try.func65, Try.ntmps65
    go_wp2_with fail
    go_loopw [14] (fun i wr => ∃ k : Nat, k ≤ P.length ∧ i = .int .i64 k ∧ Hid (goodUp xs m P k = true) ∧ Law w [tBox w.heap.size (.int .i64 n) (.int .i64 m) (.slice a xs.length cap)] wr) (fun i _ => P.length - (intOf i).toNat)
    case atStart => exact ⟨0, Nat.zero_le _, rfl, Lib.hid rfl, HL.out⟩
    case round =>
      clear HL k0 k1 k2
      obtain ⟨k, hk, rfl, HU, L⟩ := hrel
      have ⟨_, k0, k1, k2, _⟩ := L.ownBox
      have HL := Lib.hid L
      by_cases hlt : k < P.length
      · have hr2 := L.reads HR.out
        have hrt := Reads.take hr2 k hk
        obtain ⟨b, off, rfl, hb, hc⟩ := reads_row hr2 (by omega)
        have hck := hc k hlt
        have hO1 := HO.out.kept L.below
        have hkn : k < n := by have := HN.out; omega
        have hkx : k < xs.length := by have := HLN.out; omega
        have hup : goodUp xs m P (k + 1) = goodAt xs m P k := by rw [goodUp, HU.out, Bool.true_and]
        have hno := goodUp_no xs m P k P.length
        have hat : goodAt xs m P k = ((P.getD k 0 == -1) || (inB 0 (P.getD k 0) ((m : Int) - 1) && ((xs.getD k 0).toNat.testBit (P.getD k 0).toNat && !hasI (P.take k) (P.getD k 0)))) := rfl
        have hmw : IntKind.i64.wrap ((m : Int) - 1) = (m : Int) - 1 := IntWalk.i64_in _ (by omega)
        clear hc hb L hr2
        generalize P.getD k 0 = x at *
        by_cases h1 : x = -1
        · have HNX : Hid (goodUp xs m P (k + 1) = true) := Lib.hid (by rw [hup, hat, h1]; rfl)
          have h1' : (x == -1) = true := by simp [h1]
          clear hup hno hat hrt hO1 h1
          go_wp2_with fail
          go_roundw
          case rel => exact ⟨k + 1, by omega, by go_num, HNX, HL.out⟩
          case measure => simp [intOf]; omega
        · have h1' : (x == -1) = false := by rw [beq_eq_false_iff_ne]; exact h1
          rw [h1', Bool.false_or] at hat
          by_cases h2 : 0 ≤ x ∧ x ≤ (m : Int) - 1
          · obtain ⟨c, rfl⟩ := Int.eq_ofNat_of_zero_le h2.1
            have C := Lib.hid (at_bool (l1In_any c 0 ((m : Int) - 1)) (inB_yes h2.1 h2.2))
            rw [inB_yes h2.1 h2.2, Bool.true_and, show ((c : Int)).toNat = c by simp] at hat
            have HH := Lib.hid (boHas_any n m xs k c wr hkx hx (by omega) (HGC.out k) lo _ hO1)
            have HRT := Lib.hid hrt
            have hkp : (P.take k).length = k := by simp; omega
            have HKP := Lib.hid hkp
            have hk0 : (0 : Int) ≤ k := by omega
            have hkc : (k : Int) ≤ p2 := by omega
            clear hrt hO1 h1 h2 hkp
            cases hb1 : (xs.getD k 0).toNat.testBit c
            · have HNX : Hid (goodUp xs m P P.length = false) := Lib.hid (hno (by rw [hat, hb1, Bool.false_and]) hlt)
              rw [hb1] at HH
              clear hup hno hat hb1
              go_wp2_with fail
              refine (C.out _).mono ?_
              rintro e w' ⟨rfl, rfl⟩
              go_wp2_with fail
              refine HH.out.mono ?_
              rintro e w2 ⟨rfl, hb2⟩
              have HB := Lib.hid (HL.out.kept hb2).below
              clear hb2
              go_wp2_with fail
              go_ret
              exact ⟨ret_bool (by rw [HD.out, HNX.out]), HB.out⟩
            · rw [hb1, Bool.true_and] at hat
              rw [hb1] at HH
              clear hb1
              cases hb3 : hasI (P.take k) c
              all_goals
                rw [hb3] at hat
                have HHS : Hid (∀ W, Reads W (some ⟨b, off, none⟩) k (P.take k) → Calls Try.prog 106 #[.slice (some ⟨b, off, none⟩) k p2, .int .i64 c] W fun e w' => e = .returned (.bool (hasI (P.take k) c)) ∧ W = w') := Lib.hid (fun W h => l1Has_any (some ⟨b, off, none⟩) k p2 (P.take k) c W (by rw [HKP.out]; omega) HKP.out h)
                rw [hb3] at HHS
                have HAT := Lib.hid (And.intro hup (And.intro hno hat))
                clear hup hno hat hb3
                go_wp2_with fail
                refine (C.out _).mono ?_
                rintro e w' ⟨rfl, rfl⟩
                go_wp2_with fail
                refine HH.out.mono ?_
                rintro e w2 ⟨rfl, hb2⟩
                have HL2 := Lib.hid (HL.out.kept hb2)
                have HRT2 := Lib.hid (HRT.out.kept hb2)
                clear hb2 HL
                go_wp2_with fail
                refine (HHS.out _ HRT2.out).mono ?_
                rintro e w' ⟨rfl, rfl⟩
                go_wp2_with fail
                first
                | (go_ret
                   exact ⟨ret_bool (by rw [HD.out, HAT.out.2.1 (by rw [HAT.out.2.2]; rfl) hlt]), HL2.out.below⟩)
                | (go_roundw
                   case rel => exact ⟨k + 1, by omega, by go_num, Lib.hid (by rw [HAT.out.1, HAT.out.2.2]; rfl), HL2.out⟩
                   case measure => simp [intOf]; omega)
          · have HNX : Hid (goodUp xs m P P.length = false) := Lib.hid (hno (by rw [hat, inB_no h2, Bool.false_and]) hlt)
            have C := Lib.hid (at_bool (l1In_any x 0 ((m : Int) - 1)) (inB_no h2))
            clear hup hno hat hrt hO1 h1 h2
            go_wp2_with fail
            refine (C.out _).mono ?_
            rintro e w' ⟨rfl, rfl⟩
            go_wp2_with fail
            go_ret
            exact ⟨ret_bool (by rw [HD.out, HNX.out]), HL.out.below⟩
      · obtain rfl : k = P.length := by omega
        go_wp2_with fail
        go_ret
        exact ⟨ret_bool (by rw [HD.out, HU.out]), HL.out.below⟩
  · have hne : ((P.length : Int) != n) = true := by simp; omega
    have HD : Hid (placeP n m xs P = false) := Lib.hid (by simp [placeP, hn])
    clear hn
    go_enter Try.func65, Try.ntmps65
    go_wp2_with fail
    go_ret
    exact ⟨ret_bool HD.out.symm, HL.out.below⟩
end Go.Proofs.Ytdimbnkgomfojaa
end
