/- Products of lists, in both texts. No condition but the sizes. -/
import Derived.Test.YtakdiiccdkjjcaaMu
import Derived.Test.YtakdiiccdkjjcaaI
import Derived.Test.YtakdiiccdkjjcaaG2
import Derived.IntWalk
namespace Go.Proofs.Ytakdiiccdkjjcaa
open Go.RowKit Go.WideShapes

def multB (xs ys : List Int) : LR := if facB xs && facB ys then ⟨allP xs ys xs.length, true⟩ else ⟨[], false⟩
theorem multB_len (xs ys : List Int) : (multB xs ys).ys.length ≤ 1048576 := by
  unfold multB
  split
  · rename_i h
    rw [Bool.and_eq_true] at h
    have := facB_facts h.1
    have := facB_facts h.2
    show (allP _ _ _).length ≤ _
    rw [allP_len]
    omega
  · simp

set_option maxRecDepth 100000 in
set_option maxHeartbeats 3200000 in
theorem roTimes_any (a1 a2 : Option Addr) (p1 p2 : Nat) (xs ys : List Int) (w : World) (hr1 : Reads w a1 xs.length xs) (hr2 : Reads w a2 ys.length ys) (h1 : facB xs = true) (h2 : facB ys = true) :
    Calls Try.prog 106 #[.slice a1 xs.length p1, .slice a2 ys.length p2] w fun e w' => ∃ v, e = .returned v ∧ Own w' w.heap.size v (allP xs ys xs.length) ∧ Below w.heap.size w w' := by
  obtain ⟨⟨l1, l2⟩, hf1⟩ := facB_facts h1
  obtain ⟨⟨l3, l4⟩, hf2⟩ := facB_facts h2
  obtain ⟨N, hN⟩ : ∃ N, N = xs.length + ys.length - 1 := ⟨_, rfl⟩
  have hmk := run_make_row' (P := Try.prog) 22 3 (.int .i64 0) 8 Try.underlying22 Try.infoI rfl .i64 .i64 N (by omega) (by omega)
  have hadd : IntKind.i64.wrap (((xs.length : Int) + ys.length) - 1) = N := by rw [show ((xs.length : Int) + ys.length) - 1 = N by omega]; exact IntWalk.i64_in _ (by omega)
  have L0 := (Law.start w).own (below_new _) (own_made w N _ w.heap.size rfl (Nat.le_refl _) (by omega))
  rw [show List.replicate N (0 : Int) = allP xs ys 0 by rw [hN]; rfl] at L0
  have HL := Lib.hid L0
  have HN := Lib.hid hN
  have HF1 := Lib.hid hf1
  have HF2 := Lib.hid hf2
  clear L0 hN hf1 hf2
  clear h1 h2
  go_enter Try.func106, Try.ntmps106
  go_upto_region 2 with fail
  generalize w.alloc (.cells (madeCells #[.int .i64 0] N) 3) = w5 at *
  clear hmk
  go_wp2_with fail

  go_loopw [19] (fun v wr => ∃ i : Nat, i ≤ xs.length ∧ v = .int .i64 i ∧ Law w [tOwn (.slice (some ⟨w.heap.size, 0, none⟩) N N) (allP xs ys i)] wr) (fun v _ => xs.length - (intOf v).toNat)
  case atStart => exact ⟨0, Nat.zero_le _, rfl, HL.out⟩
  case round =>
    clear HL
    obtain ⟨i, hi, rfl, L⟩ := hrel
    obtain ⟨wo, rfl⟩ : ∃ wo : World, wo = wr := ⟨_, rfl⟩
    by_cases hlt : i < xs.length
    · obtain ⟨b1, o1, rfl, hb1, hc1⟩ := reads_row (L.reads hr1) (by omega)
      have hci := hc1 i hlt
      obtain ⟨x, hxx⟩ : ∃ x, x = xs.getD i 0 := ⟨_, rfl⟩
      rw [← hxx] at hci
      have hx0 := HF1.out i
      rw [← hxx] at hx0
      have HX := Lib.hid hxx
      have HL := Lib.hid L
      clear hc1 L hxx hb1
      go_wp2_with fail
      go_loopw [26] (fun v wr => ∃ j : Nat, j ≤ ys.length ∧ v = .int .i64 j ∧ Law w [tOwn (.slice (some ⟨w.heap.size, 0, none⟩) N N) (rowP (allP xs ys i) x i ys j)] wr) (fun v _ => ys.length - (intOf v).toNat)
      case atStart => exact ⟨0, Nat.zero_le _, rfl, HL.out⟩
      case round =>
        clear HL hci
        obtain ⟨j, hj, rfl, L⟩ := hrel
        by_cases hlt2 : j < ys.length
        · obtain ⟨b2, o2, rfl, hb2, hc2⟩ := reads_row (L.reads hr2) (by omega)
          have hcj := hc2 j hlt2
          have hy0 := HF2.out j
          have hB := rowP_bd (allP xs ys i) x i ys _ (allP_bd xs ys (by omega) HF1.out HF2.out i) hx0 HF2.out j (i + j)
          have hol : (rowP (allP xs ys i) x i ys j).length = N := by rw [rowP_len, allP_len]; have := HN.out; omega
          have oK := L.ownInts
          have y1 := Own.cell (by rw [hol]; exact oK) (i + j) (by rw [hol]; have := HN.out; omega)
          have y2 := Own.free (by rw [hol]; exact oK) (i + j)
          have hm := mul_bd x (ys.getD j 0) hx0 hy0
          have hS := Law.store (ts := []) L hol (i + j) ((rowP (allP xs ys i) x i ys j).getD (i + j) 0 + x * ys.getD j 0)
          rw [show (rowP (allP xs ys i) x i ys j).set (i + j) ((rowP (allP xs ys i) x i ys j).getD (i + j) 0 + x * ys.getD j 0) = rowP (allP xs ys i) x i ys (j + 1) from rfl] at hS
          have HS := Lib.hid hS
          have hij0 : (0 : Int) ≤ (i : Int) + j := by omega
          have hij1 : ((i : Int) + j).toNat = i + j := by omega
          have hij2 : (i : Int) + j < N := by have := HN.out; omega
          generalize (rowP (allP xs ys i) x i ys j).getD (i + j) 0 = z at *
          generalize ys.getD j 0 = y at *
          obtain ⟨v, hv⟩ : ∃ v, v = x * y := ⟨_, rfl⟩
          rw [← hv] at hm HS
          have hmw : wrap64 (x * y) = v := by rw [← hv]; exact IntWalk.wrap64_in _ (by omega)
          have hzw : wrap64 (z + v) = z + v := IntWalk.wrap64_in _ (by omega)
          clear hv
          clear L hS oK hol hc2 hb2 hB hy0
          go_wp2_with fail
          go_roundw
          case rel => exact ⟨j + 1, by omega, by go_num, HS.out⟩
          case measure => simp [intOf]; omega
        · obtain rfl : j = ys.length := by omega
          rw [HX.out] at L
          rw [show rowP (allP xs ys i) (xs.getD i 0) i ys ys.length = allP xs ys (i + 1) from rfl] at L
          have HL := Lib.hid L
          clear L hlt2
          go_wp2_with fail
          go_roundw
          case rel => exact ⟨i + 1, by omega, by go_num, HL.out⟩
          case measure => simp [intOf]; omega
    · obtain rfl : i = xs.length := by omega
      have HL := Lib.hid L
      clear L hlt
      go_wp2_with fail
      go_ret
      exact ⟨_, rfl, HL.out.ownLo, HL.out.below⟩
  


set_option maxHeartbeats 800000 in
theorem canMultiply_any (a : Option Addr) (p : Nat) (xs : List Int) (w : World) (hx : xs.length ≤ 1048576) (hr : Reads w a xs.length xs) :
    Calls Try.prog 121 #[.slice a xs.length p] w fun e w' => e = .returned (.bool (facB xs)) ∧ w = w' := by
  by_cases h1 : 1 ≤ xs.length
  · by_cases h2 : xs.length ≤ 7
    · rw [show facB xs = within 0 100000 xs by rw [facB, inB_yes (by omega) (by omega), Bool.true_and]]
      have hl1 : (1 : Int) ≤ xs.length := by omega
      have hl2 : (xs.length : Int) ≤ 7 := by omega
      go_enter Try.func121, Try.ntmps121
      go_wp2_with fail
      go_loop [15] (fun i => ∃ k : Nat, k ≤ xs.length ∧ i = .int .i64 k ∧ Hid (within 0 100000 (xs.take k) = true)) (fun i => xs.length - (intOf i).toNat)
      case atStart => exact ⟨0, Nat.zero_le _, rfl, (rfl : within 0 100000 (xs.take 0) = true)⟩
      case round =>
        obtain ⟨k, hk, rfl, HW⟩ := hrel
        by_cases hlt : k < xs.length
        · obtain ⟨b, off, rfl, hb, hc⟩ := reads_row hr (by omega)
          have hck := hc k hlt
          have hyes := within_upto 0 100000 xs k hlt HW.out
          have hno := within_no 0 100000 xs k hlt
          clear hc
          generalize xs.getD k 0 = x at *
          by_cases hd1 : 0 ≤ x
          · by_cases hd2 : x ≤ 100000
            · have HN := Lib.hid (hyes ⟨hd1, hd2⟩)
              clear hyes hno
              go_wp2_with fail
              go_round
              case rel => exact ⟨k + 1, by omega, by go_num, HN.out⟩
              case measure => simp [intOf]; omega
            · have HN := Lib.hid (hno (by omega))
              clear hyes hno
              go_wp2_with fail
              go_ret
              exact ⟨ret_bool HN.out.symm, rfl⟩
          · have HN := Lib.hid (hno (by omega))
            clear hyes hno
            go_wp2_with fail
            go_ret
            exact ⟨ret_bool HN.out.symm, rfl⟩
        · go_wp2_with fail
          go_ret
          obtain rfl : k = xs.length := by omega
          have h := HW.out
          rw [List.take_length] at h
          exact ⟨ret_bool h.symm, rfl⟩
    · rw [show facB xs = false by rw [facB, inB_no (by omega), Bool.false_and]]
      have hl1 : (1 : Int) ≤ xs.length := by omega
      have hl2 : (7 : Int) < xs.length := by omega
      go_enter Try.func121, Try.ntmps121
      go_wp2_with fail
      go_ret
      exact ⟨rfl, rfl⟩
  · rw [show facB xs = false by rw [facB, inB_no (by omega), Bool.false_and]]
    have hl1 : (xs.length : Int) < 1 := by omega
    go_enter Try.func121, Try.ntmps121
    go_wp2_with fail
    go_ret
    exact ⟨rfl, rfl⟩

set_option maxRecDepth 100000 in
set_option maxHeartbeats 3200000 in
theorem implMultiply_any (xs ys : List Int) (w : World) (hx : xs.length ≤ 1048576) (hy : ys.length ≤ 1048576) (lo1 : Nat) (s1 : Value) (lo2 : Nat) (s2 : Value) (hO1 : Own w lo1 s1 xs) (hO2 : Own w lo2 s2 ys) :
    Calls Try.prog 110 #[s1, s2] w fun e w' => AnsL (multB xs ys) w e w' := by
  obtain ⟨a1, p1, rfl, hr1⟩ := hO1.reads
  obtain ⟨a2, p2, rfl, hr2⟩ := hO2.reads
  clear hO1 hO2
  cases h1 : facB xs
  · rw [show multB xs ys = ⟨[], false⟩ by simp [multB, h1]]
    have HC := Lib.hid (canMultiply_any a1 p1 xs w hx hr1)
    rw [h1] at HC
    clear h1
    go_enter Try.func110, Try.ntmps110
    go_wp2_with fail
    refine HC.out.mono ?_
    rintro e w' ⟨rfl, rfl⟩
    go_wp2_with fail
    go_ret2
    exact ⟨_, rfl, Own.nil _ _, Below.refl _ _⟩
  · cases h2 : facB ys
    · rw [show multB xs ys = ⟨[], false⟩ by simp [multB, h2]]
      have HC := Lib.hid (canMultiply_any a1 p1 xs w hx hr1)
      rw [h1] at HC
      have HD := Lib.hid (canMultiply_any a2 p2 ys w hy hr2)
      rw [h2] at HD
      clear h1 h2
      go_enter Try.func110, Try.ntmps110
      go_wp2_with fail
      refine HC.out.mono ?_
      rintro e w' ⟨rfl, rfl⟩
      go_wp2_with fail
      refine HD.out.mono ?_
      rintro e w' ⟨rfl, rfl⟩
      go_wp2_with fail
      go_ret2
      exact ⟨_, rfl, Own.nil _ _, Below.refl _ _⟩
    · rw [show multB xs ys = ⟨allP xs ys xs.length, true⟩ by simp [multB, h1, h2]]
      have HC := Lib.hid (canMultiply_any a1 p1 xs w hx hr1)
      rw [h1] at HC
      have HD := Lib.hid (canMultiply_any a2 p2 ys w hy hr2)
      rw [h2] at HD
      obtain ⟨⟨l1, l2⟩, hf1⟩ := facB_facts h1
      obtain ⟨⟨l3, l4⟩, hf2⟩ := facB_facts h2
      obtain ⟨N, hN⟩ : ∃ N, N = xs.length + ys.length - 1 := ⟨_, rfl⟩
      have hmk := run_make_row' (P := Try.prog) 22 3 (.int .i64 0) 8 Try.underlying22 Try.infoI rfl .i64 .i64 N (by omega) (by omega)
      have hadd : IntKind.i64.wrap (((xs.length : Int) + ys.length) - 1) = N := by rw [show ((xs.length : Int) + ys.length) - 1 = N by omega]; exact IntWalk.i64_in _ (by omega)
      have L0 := (Law.start w).own (below_new _) (own_made w N _ w.heap.size rfl (Nat.le_refl _) (by omega))
      rw [show List.replicate N (0 : Int) = allP xs ys 0 by rw [hN]; rfl] at L0
      have HL := Lib.hid L0
      have HN := Lib.hid hN
      have HF1 := Lib.hid hf1
      have HF2 := Lib.hid hf2
      clear L0 hN hf1 hf2
      clear h1 h2
      go_enter Try.func110, Try.ntmps110
      go_wp2_with fail
      refine HC.out.mono ?_
      rintro e w' ⟨rfl, rfl⟩
      go_wp2_with fail
      refine HD.out.mono ?_
      rintro e w' ⟨rfl, rfl⟩
      clear HC HD
      go_upto_region 4 with fail
      generalize w.alloc (.cells (madeCells #[.int .i64 0] N) 3) = w5 at *
      clear hmk
      go_wp2_with fail

      go_loopw [28] (fun v wr => ∃ i : Nat, i ≤ xs.length ∧ v = .int .i64 i ∧ Law w [tOwn (.slice (some ⟨w.heap.size, 0, none⟩) N N) (allP xs ys i)] wr) (fun v _ => xs.length - (intOf v).toNat)
      case atStart => exact ⟨0, Nat.zero_le _, rfl, HL.out⟩
      case round =>
        clear HL
        obtain ⟨i, hi, rfl, L⟩ := hrel
        obtain ⟨wo, rfl⟩ : ∃ wo : World, wo = wr := ⟨_, rfl⟩
        by_cases hlt : i < xs.length
        · obtain ⟨b1, o1, rfl, hb1, hc1⟩ := reads_row (L.reads hr1) (by omega)
          have hci := hc1 i hlt
          obtain ⟨x, hxx⟩ : ∃ x, x = xs.getD i 0 := ⟨_, rfl⟩
          rw [← hxx] at hci
          have hx0 := HF1.out i
          rw [← hxx] at hx0
          have HX := Lib.hid hxx
          have HL := Lib.hid L
          clear hc1 L hxx hb1
          go_wp2_with fail
          go_loopw [35] (fun v wr => ∃ j : Nat, j ≤ ys.length ∧ v = .int .i64 j ∧ Law w [tOwn (.slice (some ⟨w.heap.size, 0, none⟩) N N) (rowP (allP xs ys i) x i ys j)] wr) (fun v _ => ys.length - (intOf v).toNat)
          case atStart => exact ⟨0, Nat.zero_le _, rfl, HL.out⟩
          case round =>
            clear HL hci
            obtain ⟨j, hj, rfl, L⟩ := hrel
            by_cases hlt2 : j < ys.length
            · obtain ⟨b2, o2, rfl, hb2, hc2⟩ := reads_row (L.reads hr2) (by omega)
              have hcj := hc2 j hlt2
              have hy0 := HF2.out j
              have hB := rowP_bd (allP xs ys i) x i ys _ (allP_bd xs ys (by omega) HF1.out HF2.out i) hx0 HF2.out j (i + j)
              have hol : (rowP (allP xs ys i) x i ys j).length = N := by rw [rowP_len, allP_len]; have := HN.out; omega
              have oK := L.ownInts
              have y1 := Own.cell (by rw [hol]; exact oK) (i + j) (by rw [hol]; have := HN.out; omega)
              have y2 := Own.free (by rw [hol]; exact oK) (i + j)
              have hm := mul_bd x (ys.getD j 0) hx0 hy0
              have hS := Law.store (ts := []) L hol (i + j) ((rowP (allP xs ys i) x i ys j).getD (i + j) 0 + x * ys.getD j 0)
              rw [show (rowP (allP xs ys i) x i ys j).set (i + j) ((rowP (allP xs ys i) x i ys j).getD (i + j) 0 + x * ys.getD j 0) = rowP (allP xs ys i) x i ys (j + 1) from rfl] at hS
              have HS := Lib.hid hS
              have hij0 : (0 : Int) ≤ (i : Int) + j := by omega
              have hij1 : ((i : Int) + j).toNat = i + j := by omega
              have hij2 : (i : Int) + j < N := by have := HN.out; omega
              generalize (rowP (allP xs ys i) x i ys j).getD (i + j) 0 = z at *
              generalize ys.getD j 0 = y at *
              obtain ⟨v, hv⟩ : ∃ v, v = x * y := ⟨_, rfl⟩
              rw [← hv] at hm HS
              have hmw : wrap64 (x * y) = v := by rw [← hv]; exact IntWalk.wrap64_in _ (by omega)
              have hzw : wrap64 (z + v) = z + v := IntWalk.wrap64_in _ (by omega)
              clear hv
              clear L hS oK hol hc2 hb2 hB hy0
              go_wp2_with fail
              go_roundw
              case rel => exact ⟨j + 1, by omega, by go_num, HS.out⟩
              case measure => simp [intOf]; omega
            · obtain rfl : j = ys.length := by omega
              rw [HX.out] at L
              rw [show rowP (allP xs ys i) (xs.getD i 0) i ys ys.length = allP xs ys (i + 1) from rfl] at L
              have HL := Lib.hid L
              clear L hlt2
              go_wp2_with fail
              go_roundw
              case rel => exact ⟨i + 1, by omega, by go_num, HL.out⟩
              case measure => simp [intOf]; omega
        · obtain rfl : i = xs.length := by omega
          have HL := Lib.hid L
          clear L hlt
          go_wp2_with fail
          go_ret2
          exact ⟨_, rfl, HL.out.ownLo, HL.out.below⟩
      
end Go.Proofs.Ytakdiiccdkjjcaa
