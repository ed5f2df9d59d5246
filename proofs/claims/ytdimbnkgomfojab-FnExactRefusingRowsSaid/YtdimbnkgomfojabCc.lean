/- The lack, in the specification. No condition but the sizes. -/
import Derived.Test.YtdimbnkgomfojabCa
import Derived.Test.YtdimbnkgomfojabMr
import Derived.Test.YtdimbnkgomfojabMo
import Derived.Test.YtdimbnkgomfojabT2
namespace Go.Proofs.Ytdimbnkgomfojab
open Go.RowKit Go.WideShapes

/-- All sets of rows, as a slice of its own. -/
theorem lcSets_slice (n : Nat) (hn : n ≤ 6) (w : World) :
    Calls Try.prog 80 #[.int .i64 n] w fun e w' => ∃ g cp vs, e = .returned (.slice (some ⟨g, 0, none⟩) (sets n).length cp) ∧ OwnM w' w.heap.size (.slice (some ⟨g, 0, none⟩) (sets n).length cp) vs (sets n) ∧ Below w.heap.size w w' := by
  refine (lcSets_any n hn w).mono ?_
  rintro e w' ⟨v, vs, rfl, hM, _, hb⟩
  have hl := hM.len
  have hp := (sets_len n hn).1
  rcases hM.cases with ⟨_, h⟩ | ⟨g, cp, rfl, _⟩
  · have : (sets n).length = 0 := by rw [hl, h]; rfl
    omega
  · rw [← hl] at hM ⊢
    exact ⟨g, cp, vs, rfl, hM, hb⟩

set_option maxRecDepth 100000 in
set_option maxHeartbeats 3200000 in
theorem specLack_any (r c : Int) (xs : List Int) (w : World) (hx : xs.length ≤ 1048576) (lo : Nat) (s : Value) (hO : Own w lo s xs) :
    Calls Try.prog 48 #[.agg #[.int .i64 r, .int .i64 c, s]] w fun e w' => AnsIO (lackR r c xs) w e w' := by
  have L0 := (Law.start w).box (.int .i64 r) (.int .i64 c) s 28
  have HOO := Lib.hid hO
  obtain ⟨a, cap, rfl, hr⟩ := hO.reads
  have hr0 := L0.reads hr
  clear hO
  cases hg : goodB r c xs
  · rw [show lackR r c xs = ⟨0, false⟩ by simp [lackR, hg]]
    go_enter Try.func48, Try.ntmps48
    go_wp2_with fail
    refine (at_boolB (boGood_any r c a cap xs _ hx hr0) hg).mono ?_
    rintro e w1 ⟨rfl, hb⟩
    have HB := Lib.hid (L0.kept hb).below
    clear L0 hb hg hr0
    go_wp2_with fail
    go_ret2
    exact ⟨rfl, HB.out⟩
  · obtain ⟨g1, g2, g3, _⟩ := good_facts hg
    obtain ⟨n, rfl⟩ := Int.eq_ofNat_of_zero_le (show 0 ≤ r by omega)
    obtain ⟨m, rfl⟩ := Int.eq_ofNat_of_zero_le (show 0 ≤ c by omega)
    have hn6 : n ≤ 6 := by omega
    have HY : Hid (lackR n m xs = ⟨lackU xs n m (sets n).length, true⟩) := Lib.hid (by simp [lackR, hg, lackN])
    have HC := Lib.hid (at_boolB (boGood_any n m a cap xs _ hx hr0) hg)
    have HS := Lib.hid (fun W => lcSets_slice n hn6 W)
    have HCL := Lib.hid (fun (R : List Int) (a2 : Option Addr) (p2 : Nat) (W : World) (hp : R.length ≤ 1048576) (h : Own W lo (.slice a xs.length cap) xs) (h2 : Reads W a2 R.length R) => lcColumns_any n m xs R false a2 p2 W hx hp hn6 (by omega) (by omega) (good_cell hg) lo _ h h2)
    have HSU := Lib.hid (fun k R h => lackU_succ xs n m k R h)
    have HBD := Lib.hid (fun k => lackU_bd xs n m k hn6)
    have HSH := Lib.hid (sets_short n hn6)
    have HCN := Lib.hid (fun R => colS_len xs n m R false)
    have HEX : Hid (∀ R, excS xs n m R = (R.length : Int) - (colS xs n m R false).length) := Lib.hid (fun R => rfl)
    have hm6 : m ≤ 6 := by omega
    have hL64 := (sets_len n hn6).2
    clear hg hr0 hr
    go_enter Try.func48, Try.ntmps48
    go_wp2_with fail
    refine HC.out.mono ?_
    rintro e w1 ⟨rfl, hb⟩
    have L1 := L0.kept hb
    have ⟨_, k0, k1, k2, _⟩ := L1.ownBox
    have HL := Lib.hid L1
    clear L0 L1 hb HC
    go_wp2_with fail
    refine (HS.out _).mono ?_
    rintro e w2 ⟨g, cp, vs, rfl, hM, hb⟩
    have HL2 := Lib.hid (HL.out.addM hb hM)
    clear HL hM hb k0 k1 k2
    go_wp2_with fail
    go_loopw [4, 14] (fun y i wr => ∃ k : Nat, k ≤ (sets n).length ∧ i = .int .i64 k ∧ y = .int .i64 (lackU xs n m k) ∧ Law w [tM (.slice (some ⟨g, 0, none⟩) (sets n).length cp) vs (sets n), tBox w.heap.size (.int .i64 n) (.int .i64 m) (.slice a xs.length cap)] wr) (fun _ i _ => (sets n).length - (intOf i).toNat)
    case atStart => exact ⟨0, Nat.zero_le _, rfl, rfl, HL2.out⟩
    case round =>
      clear HL2
      obtain ⟨k, hk, rfl, rfl, L⟩ := hrel
      by_cases hlt : k < (sets n).length
      · have hat : (sets n)[k]? = some (sets n)[k] := List.getElem?_eq_getElem hlt
        obtain ⟨R, hRe⟩ : ∃ R, R = (sets n)[k] := ⟨_, rfl⟩
        rw [← hRe] at hat
        obtain ⟨a2, p2, hck, hrd⟩ := rowM_at L rfl k hlt R (fun _ => hRe.symm)
        have hsu := HSU.out k R hat
        have hsh := HSH.out R (List.mem_of_getElem? hat)
        have hbd := HBD.out k
        have hex := HEX.out R
        have hcn := HCN.out R
        obtain ⟨_, k0, k1, k2, _⟩ := L.tl.ownBox
        have hcl := HCL.out R a2 p2 wr (by omega) (HOO.out.kept L.below) hrd
        obtain ⟨cl, hcl0⟩ : ∃ cl, cl = colS xs n m R false := ⟨_, rfl⟩
        rw [← hcl0] at hex hcn hcl
        have HL := Lib.hid L
        have HCC := Lib.hid hcl
        have HSUU := Lib.hid hsu
        have HX := Lib.hid hex
        have hk1 : (k : Int) < (sets n).length := by omega
        have hk0 : (0 : Int) ≤ k := by omega
        clear L hcl hat hRe hrd hsu hex hcl0
        go_wp2_with fail
        refine HCC.out.mono ?_
        rintro e w3 ⟨v, rfl, hv, hb⟩
        obtain ⟨va, vp, rfl, _⟩ := hv.reads
        have HL3 := Lib.hid (HL.out.kept hb)
        clear hv hb HL k0 k1 k2 hck
        go_wp2_with fail
        refine (l1Most_any _ _ _).mono ?_
        rintro e w4 ⟨rfl, rfl⟩
        go_wp2_with fail
        go_roundw
        case rel => exact ⟨k + 1, by omega, by go_num, by rw [HSUU.out, HX.out], HL3.out⟩
        case measure => simp [intOf]; omega
      · obtain rfl : k = (sets n).length := by omega
        have HB := Lib.hid L.below
        clear L
        go_wp2_with fail
        go_ret2
        rw [HY.out]
        exact ⟨rfl, HB.out⟩

end Go.Proofs.Ytdimbnkgomfojab
