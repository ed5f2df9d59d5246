import Derived.Test.YtabfiafjcnilnaaFold15
import Derived.Test.YtabfiafjcnilnaaFold7
import Derived.Test.YtabfiafjcnilnaaFold2

section
namespace Go.Proofs.Ytabfiafjcnilnaa
open Go.RowKit Go.WideShapes

abbrev ml (n c : Int) (R : Nat → Int) : List Value := [.int .i64 n, .int .i64 c, .int .i64 (R 0), .int .i64 (R 1), .int .i64 (R 2), .int .i64 (R 3), .int .i64 (R 4), .int .i64 (R 5), .int .i64 (R 6), .int .i64 (R 7), .int .i64 (R 8), .int .i64 (R 9), .int .i64 (R 10), .int .i64 (R 11), .int .i64 (R 12), .int .i64 (R 13), .int .i64 (R 14), .int .i64 (R 15), .int .i64 (R 16), .int .i64 (R 17), .int .i64 (R 18), .int .i64 (R 19), .int .i64 (R 20), .int .i64 (R 21), .int .i64 (R 22), .int .i64 (R 23), .int .i64 (R 24), .int .i64 (R 25), .int .i64 (R 26), .int .i64 (R 27), .int .i64 (R 28), .int .i64 (R 29), .int .i64 (R 30), .int .i64 (R 31), .int .i64 (R 32), .int .i64 (R 33), .int .i64 (R 34), .int .i64 (R 35)]
abbrev mv (n c : Int) (R : Nat → Int) : Value := .agg #[.int .i64 n, .int .i64 c, .int .i64 (R 0), .int .i64 (R 1), .int .i64 (R 2), .int .i64 (R 3), .int .i64 (R 4), .int .i64 (R 5), .int .i64 (R 6), .int .i64 (R 7), .int .i64 (R 8), .int .i64 (R 9), .int .i64 (R 10), .int .i64 (R 11), .int .i64 (R 12), .int .i64 (R 13), .int .i64 (R 14), .int .i64 (R 15), .int .i64 (R 16), .int .i64 (R 17), .int .i64 (R 18), .int .i64 (R 19), .int .i64 (R 20), .int .i64 (R 21), .int .i64 (R 22), .int .i64 (R 23), .int .i64 (R 24), .int .i64 (R 25), .int .i64 (R 26), .int .i64 (R 27), .int .i64 (R 28), .int .i64 (R 29), .int .i64 (R 30), .int .i64 (R 31), .int .i64 (R 32), .int .i64 (R 33), .int .i64 (R 34), .int .i64 (R 35)]
theorem ml_get (n c : Int) (R : Nat → Int) : ∀ i : Nat, i < 36 → (ml n c R)[2 + i]? = some (.int .i64 (R i))
  | 0, _ => rfl
  | 1, _ => rfl
  | 2, _ => rfl
  | 3, _ => rfl
  | 4, _ => rfl
  | 5, _ => rfl
  | 6, _ => rfl
  | 7, _ => rfl
  | 8, _ => rfl
  | 9, _ => rfl
  | 10, _ => rfl
  | 11, _ => rfl
  | 12, _ => rfl
  | 13, _ => rfl
  | 14, _ => rfl
  | 15, _ => rfl
  | 16, _ => rfl
  | 17, _ => rfl
  | 18, _ => rfl
  | 19, _ => rfl
  | 20, _ => rfl
  | 21, _ => rfl
  | 22, _ => rfl
  | 23, _ => rfl
  | 24, _ => rfl
  | 25, _ => rfl
  | 26, _ => rfl
  | 27, _ => rfl
  | 28, _ => rfl
  | 29, _ => rfl
  | 30, _ => rfl
  | 31, _ => rfl
  | 32, _ => rfl
  | 33, _ => rfl
  | 34, _ => rfl
  | 35, _ => rfl
  | i + 36, h => absurd h (by omega)

set_option maxRecDepth 100000 in
set_option maxHeartbeats 3200000 in
theorem fits_any (n c cnt : Nat) (R S : Nat → Int) (b : Bool) (w : World) (hn : n ≤ 6) (hc : c ≤ 6) (hS : ∀ k, 0 ≤ S k ∧ S k ≤ 6)
    (hb : b = true ↔ (n = cnt ∧ c = cnt ∧ ∀ r j : Nat, r < n → S r ≤ (j : Int) → j < c → R (6 * r + j) = 0)) :
    Calls Try.prog 34 #[mv n c R, sv cnt S] w fun e w' => e = .returned (.bool b) ∧ Below w.heap.size w w' := by
  have L0 := ((Law.start w).has (ml n c R) 55).has (sl cnt S) 47
  simp only [World.size_alloc] at L0
  have HL := Lib.hid L0
  have HB := Lib.hid hb
  have HS := Lib.hid hS
  have m0 := L0.tl.ownHas.cell 0
  have m1 := L0.tl.ownHas.cell 1
  have s0 := L0.ownHas.cell 0
  simp only [List.getElem?_cons_zero, List.getElem?_cons_succ] at m0 m1 s0
  clear hb hS L0
  go_enter Try.func34, Try.ntmps34
  go_upto_region 1 with fail
  rw [show (w.alloc (.cells (ml n c R).toArray 55)).alloc (.cells (sl cnt S).toArray 47) = (w.alloc (.cells #[.int .i64 n, .int .i64 c, .int .i64 (R 0), .int .i64 (R 1), .int .i64 (R 2), .int .i64 (R 3), .int .i64 (R 4), .int .i64 (R 5), .int .i64 (R 6), .int .i64 (R 7), .int .i64 (R 8), .int .i64 (R 9), .int .i64 (R 10), .int .i64 (R 11), .int .i64 (R 12), .int .i64 (R 13), .int .i64 (R 14), .int .i64 (R 15), .int .i64 (R 16), .int .i64 (R 17), .int .i64 (R 18), .int .i64 (R 19), .int .i64 (R 20), .int .i64 (R 21), .int .i64 (R 22), .int .i64 (R 23), .int .i64 (R 24), .int .i64 (R 25), .int .i64 (R 26), .int .i64 (R 27), .int .i64 (R 28), .int .i64 (R 29), .int .i64 (R 30), .int .i64 (R 31), .int .i64 (R 32), .int .i64 (R 33), .int .i64 (R 34), .int .i64 (R 35)] 55)).alloc (.cells #[.int .i64 cnt, .int .i64 (S 0), .int .i64 (S 1), .int .i64 (S 2), .int .i64 (S 3), .int .i64 (S 4), .int .i64 (S 5)] 47) from rfl] at HL m0 m1 s0
  generalize (w.alloc _).alloc _ = w5 at *
  have hR := fun r j (h1 : r < 6) (h2 : j < 6) => (HL.out.tl.ownHas.cell (2 + (6 * r + j))).trans (ml_get n c R (6 * r + j) (by omega))
  have hSc := fun r (h1 : r < 6) => (HL.out.ownHas.cell (1 + r)).trans (sl_get cnt S r h1)
  have HR := Lib.hid hR
  have HSC := Lib.hid hSc
  have HBW := Lib.hid HL.out.below
  clear hR hSc HL
  by_cases h1 : n = cnt ∧ c = cnt
  · obtain ⟨rfl, rfl⟩ := h1
    go_wp2_with fail
    go_loopw [21] (fun i wr => ∃ r : Nat, r ≤ c ∧ i = .int .i64 r ∧ Hid (∀ r' j : Nat, r' < r → S r' ≤ (j : Int) → j < c → R (6 * r' + j) = 0) ∧ w5 = wr) (fun i _ => c - (intOf i).toNat)
    case atStart => exact ⟨0, Nat.zero_le _, rfl, (fun _ _ h => absurd h (by omega) : ∀ r' j : Nat, r' < 0 → S r' ≤ (j : Int) → j < c → R (6 * r' + j) = 0), rfl⟩
    case round =>
      obtain ⟨r, hr, rfl, HZ, hww⟩ := hrel
      subst hww
      by_cases hlt : r < c
      · have hs := HSC.out r (by omega)
        have hr6 : (r : Int) < 6 := by omega
        have hsr := HS.out r
        obtain ⟨m, hm⟩ := Int.eq_ofNat_of_zero_le hsr.1
        rw [hm] at hs
        have HM := Lib.hid hm
        have HM6 := Lib.hid (show m ≤ 6 by omega)
        clear hsr hm
        go_upto_region 7 with fail
        go_loopw [6] (fun i wr => ∃ j : Nat, m ≤ j ∧ j ≤ 6 ∧ i = .int .i64 j ∧ Hid (∀ j' : Nat, m ≤ j' → j' < j → R (6 * r + j') = 0) ∧ w5 = wr) (fun i _ => 6 - (intOf i).toNat)
        case atStart => exact ⟨m, Nat.le_refl _, HM6.out, rfl, (fun _ h1 h2 => absurd h1 (by omega) : ∀ j' : Nat, m ≤ j' → j' < m → R (6 * r + j') = 0), rfl⟩
        case round =>
          obtain ⟨j, hmj, hj, rfl, HJ, hww⟩ := hrel
          subst hww
          by_cases hjc : j < c
          · have hcell := HR.out r j (by omega) (by omega)
            rw [show 2 + (6 * r + j) = 2 + r * 6 + j by omega] at hcell
            have hj6 : (j : Int) < 6 := by omega
            by_cases hz : R (6 * r + j) = 0
            · rw [hz] at hcell
              have HN := Lib.hid (show ∀ j' : Nat, m ≤ j' → j' < j + 1 → R (6 * r + j') = 0 from fun j' h1 h2 => by
                by_cases h9 : j' = j
                · rw [h9]
                  exact hz
                · exact HJ.out j' h1 (by omega))
              clear hz
              go_wp2_with fail
              go_roundw
              case rel => exact ⟨j + 1, by omega, by omega, by go_num, HN.out, trivial⟩
              case measure => simp [intOf]; omega
            · have HF := Lib.hid (show b = false by
                cases hbb : b
                · rfl
                · have h9 := HM.out
                  exact absurd ((HB.out.1 hbb).2.2 r j hlt (by omega) hjc) hz)
              generalize R (6 * r + j) = v at *
              have hv : (v != 0) = true := by simp [hz]
              go_wp2_with fail
              go_ret
              exact ⟨ret_bool HF.out.symm, HBW.out⟩
          · have HN := Lib.hid (show ∀ r' j : Nat, r' < r + 1 → S r' ≤ (j : Int) → j < c → R (6 * r' + j) = 0 from fun r' j' h1 h2 h3 => by
              by_cases h9 : r' = r
              · subst h9
                have := HM.out
                exact HJ.out j' (by omega) (by omega)
              · exact HZ.out r' j' (by omega) h2 h3)
            go_wp2_with fail
            go_roundw
            case rel => exact ⟨r + 1, by omega, by go_num, HN.out, trivial⟩
            case measure => simp [intOf]; omega
      · obtain rfl : r = c := by omega
        have HF := Lib.hid (HB.out.2 ⟨trivial, trivial, HZ.out⟩)
        go_wp2_with fail
        go_ret
        exact ⟨ret_bool HF.out.symm, HBW.out⟩
  · have HF := Lib.hid (show b = false by
      cases hbb : b
      · rfl
      · have h9 := HB.out.1 hbb
        exact absurd ⟨h9.1, h9.2.1⟩ h1)
    by_cases h2 : n = cnt
    · have h3 : ((c : Int) != (cnt : Int)) = true := by simp; omega
      subst h2
      go_wp2_with fail
      go_ret
      exact ⟨ret_bool HF.out.symm, HBW.out⟩
    · have h3 : ((n : Int) != (cnt : Int)) = true := by simp; omega
      go_wp2_with fail
      go_ret
      exact ⟨ret_bool HF.out.symm, HBW.out⟩
end Go.Proofs.Ytabfiafjcnilnaa
end

section
namespace Go.Proofs.Ytabfiafjcnilnaa
open Go.RowKit Go.WideShapes

/-- A row has n numbers, each one of 0..q - 1. -/
def rowOk (n : Nat) (q : Int) (x : List Int) : Bool := decide (x.length = n) && within 0 (q - 1) x
def rowsOk (n : Nat) (q : Int) (rss : List (List Int)) : Bool := rss.all (rowOk n q)
/-- Rows are ones for a rank. -/
def rowsB (rss : List (List Int)) (q : Int) : Bool := inB 1 rss.length 6 && (inB 1 (rss.getD 0 []).length 6 && rowsOk (rss.getD 0 []).length q rss)
theorem rowsOk_next (n : Nat) (q : Int) (rss : List (List Int)) (k : Nat) (hk : k < rss.length) (h : rowsOk n q (rss.take k) = true) (hx : rowOk n q rss[k] = true) : rowsOk n q (rss.take (k + 1)) = true := by
  rw [List.take_succ_eq_append_getElem hk]
  unfold rowsOk at *
  rw [List.all_append, h, List.all_cons, hx]
  rfl
theorem rowsOk_no (n : Nat) (q : Int) (rss : List (List Int)) (k : Nat) (hk : k < rss.length) (hx : rowOk n q rss[k] = false) : rowsOk n q rss = false := by
  unfold rowsOk
  rw [List.all_eq_false]
  exact ⟨rss[k], List.getElem_mem hk, by simp [hx]⟩

set_option maxRecDepth 100000 in
set_option maxHeartbeats 3200000 in
theorem weRows_any (q : Int) (hq : 2 ≤ q ∧ q ≤ 3) (rss : List (List Int)) (w : World) (lo : Nat) (s : Value) (vs : List Value) (hO : OwnM w lo s vs rss) (hl : rss.length ≤ 1048576) :
    Calls Try.prog 30 #[s, .int .i64 q] w fun e w' => e = .returned (.bool (rowsB rss q)) ∧ w = w' := by
  obtain ⟨a, cap, rfl, hc⟩ := hO.form
  have hvl : vs.length = rss.length := hO.len.symm
  cases h1 : inB 1 rss.length 6
  · rw [show rowsB rss q = false by simp [rowsB, h1]]
    have C1 := Lib.hid (boSide_any rss.length)
    rw [h1] at C1
    rw [hvl]
    clear hc hO hvl h1
    go_enter Try.func30, Try.ntmps30
    go_wp2_with (go_at_call 48; with_reducible refine (C1.out _).mono ?_; rintro e w' ⟨rfl, rfl⟩)
    go_ret
    exact ⟨rfl, rfl⟩
  · have hb := inB_iff.1 h1
    have h0v : 0 < vs.length := by omega
    have h0r : 0 < rss.length := by omega
    obtain ⟨g, rfl, c0⟩ := hc 0 h0v
    obtain ⟨a0, p0, hv0, hr0⟩ := (hO.row 0 h0v).reads
    rw [hv0] at c0
    clear hr0
    obtain ⟨n, hn⟩ : ∃ n, n = (rss.getD 0 []).length := ⟨_, rfl⟩
    have e0 : (rss[0]'h0r).length = n := by rw [hn, List.getD_eq_getElem?_getD, List.getElem?_eq_getElem h0r]; rfl
    rw [e0] at c0
    have C1 := Lib.hid (boSide_any rss.length)
    rw [h1] at C1
    cases h2 : inB 1 n 6
    · rw [show rowsB rss q = false by unfold rowsB; rw [← hn, h2, Bool.false_and, Bool.and_false]]
      have C2 := Lib.hid (boSide_any n)
      rw [h2] at C2
      have hlen : (0 : Int) < rss.length := by omega
      rw [hvl]
      clear hc hO hvl h1 hv0 e0 hn h2 hb
      go_enter Try.func30, Try.ntmps30
      go_wp2_with (first | (go_at_call 48; ((with_reducible refine (C1.out _).mono ?_); rintro e w' ⟨rfl, rfl⟩)) | (go_at_call 48; ((with_reducible refine (C2.out _).mono ?_); rintro e w' ⟨rfl, rfl⟩)))
      go_ret
      exact ⟨rfl, rfl⟩
    · rw [show rowsB rss q = rowsOk n q rss by unfold rowsB; rw [← hn, h1, h2, Bool.true_and, Bool.true_and]]
      have C2 := Lib.hid (boSide_any n)
      rw [h2] at C2
      have hb2 := inB_iff.1 h2
      have HN6 := Lib.hid hb2
      have hlen : (0 : Int) < rss.length := by omega
      have hlen6 : (rss.length : Int) ≤ 6 := hb.2
      have HO := Lib.hid hO
      have HV := Lib.hid hvl
      have hq1 : IntKind.i64.wrap (q - 1) = q - 1 := IntWalk.i64_in _ (by omega)
      rw [hvl]
      clear hc hO hvl h1 hv0 e0 hn h2 hb hb2 h0v h0r
      go_enter Try.func30, Try.ntmps30
      go_wp2_with (first | (go_at_call 48; ((with_reducible refine (C1.out _).mono ?_); rintro e w' ⟨rfl, rfl⟩)) | (go_at_call 48; ((with_reducible refine (C2.out _).mono ?_); rintro e w' ⟨rfl, rfl⟩)))
      go_loopw [21] (fun i wr => ∃ k : Nat, k ≤ rss.length ∧ i = .int .i64 k ∧ Hid (rowsOk n q (rss.take k) = true) ∧ w = wr) (fun i _ => rss.length - (intOf i).toNat)
      case atStart => exact ⟨0, Nat.zero_le _, rfl, (rfl : rowsOk n q (rss.take 0) = true), rfl⟩
      case round =>
        obtain ⟨k, hk, rfl, HG, hww⟩ := hrel
        subst hww
        by_cases hlt : k < rss.length
        · have hkv : k < vs.length := by have := HV.out; omega
          have ck := HO.out.cell k hkv
          obtain ⟨ak, pk, hvk, hrk⟩ := (HO.out.row k hkv).reads
          rw [hvk] at ck
          have hyes := rowsOk_next n q rss k hlt HG.out
          have hno := rowsOk_no n q rss k hlt
          generalize rss[k]'hlt = x at *
          clear hvk hkv
          by_cases hx : x.length = n
          · have hne : ((x.length : Int) != (n : Int)) = false := by simp [hx]
            have hx6 : x.length ≤ 1048576 := by have := HN6.out; omega
            have HAll := l1All_any ak pk x 0 (q - 1) w hx6 hrk
            cases hw : within 0 (q - 1) x
            · have HN := Lib.hid (hno (by simp [rowOk, hw]))
              rw [hw] at HAll
              have HA := Lib.hid HAll
              clear hyes hno hw HAll hx hrk
              go_wp2_with (go_at_call 31; with_reducible refine HA.out.mono ?_; rintro e w' ⟨rfl, rfl⟩)
              go_ret
              exact ⟨ret_bool HN.out.symm, rfl⟩
            · have HN := Lib.hid (hyes (by simp [rowOk, hw, hx]))
              rw [hw] at HAll
              have HA := Lib.hid HAll
              clear hyes hno hw HAll hx hrk
              go_wp2_with (go_at_call 31; with_reducible refine HA.out.mono ?_; rintro e w' ⟨rfl, rfl⟩)
              go_roundw
              case rel => exact ⟨k + 1, by omega, by go_num, HN.out, trivial⟩
              case measure => simp [intOf]; omega
          · have hne : ((x.length : Int) != (n : Int)) = true := by simp; omega
            have HN := Lib.hid (hno (by simp [rowOk, hx]))
            clear hyes hno hx hrk
            go_wp2_with fail
            go_ret
            exact ⟨ret_bool HN.out.symm, rfl⟩
        · obtain rfl : k = rss.length := by omega
          have hG := HG.out
          rw [List.take_length] at hG
          have HG2 := Lib.hid hG
          clear hG
          go_wp2_with fail
          go_ret
          exact ⟨ret_bool HG2.out.symm, rfl⟩
end Go.Proofs.Ytabfiafjcnilnaa
end
