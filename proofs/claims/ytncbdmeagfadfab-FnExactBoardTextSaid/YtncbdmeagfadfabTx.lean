/- The text of a board, in both texts. No condition but the sizes. -/
import Derived.Test.YtncbdmeagfadfabBy
import Derived.Test.YtncbdmeagfadfabZ
import Derived.IntWalk
namespace Go.Proofs.Ytncbdmeagfadfab
open Go.RowKit Go.WideShapes

theorem bit_val (x : Int) (j : Nat) (h : 0 ≤ x ∧ x < 64) (hj : j < 6) : bits .and .i64 (x / 2 ^ j) 1 = if x.toNat.testBit j = true then 1 else 0 := by
  obtain ⟨n, rfl⟩ := Int.eq_ofNat_of_zero_le h.1
  have hn : n < 64 := by omega
  have key : ∀ n : Fin 64, ∀ j : Fin 6, bits .and .i64 (((n : Nat) : Int) / 2 ^ (j : Nat)) 1 = if (n : Nat).testBit j = true then 1 else 0 := by decide +kernel
  exact key ⟨n, hn⟩ ⟨j, hj⟩
theorem bit_mdv (x : Int) (j : Nat) (h : 0 ≤ x ∧ x < 64) (hj : j < 6) : (x / 2 ^ j).tmod 2 = if x.toNat.testBit j = true then 1 else 0 := by
  obtain ⟨n, rfl⟩ := Int.eq_ofNat_of_zero_le h.1
  have hn : n < 64 := by omega
  have key : ∀ n : Fin 64, ∀ j : Fin 6, (((n : Nat) : Int) / 2 ^ (j : Nat)).tmod 2 = if (n : Nat).testBit j = true then 1 else 0 := by decide +kernel
  exact key ⟨n, hn⟩ ⟨j, hj⟩

theorem l1Num_small (n : Nat) (b : UInt8) (hb : b.toNat = 48 + n) (hn : n < 10) (w : World) :
    Calls Try.prog 77 #[.int .i64 n] w fun e w' => e = .returned (.string ⟨#[b]⟩) ∧ Below w.heap.size w w' := by
  have HB := Lib.hid (below_new (w := w) (.cells #[.int .u8 (48 + (n : Int))] 5))
  have hcv : (convert 42 9 (.slice (some ⟨w.heap.size, 0, none⟩) 1 1)).run Try.prog (w.alloc (.cells #[.int .u8 (48 + (n : Int))] 5)) = .ok (.string ⟨#[b]⟩) (w.alloc (.cells #[.int .u8 (48 + (n : Int))] 5)) :=
    run_convert_bytes_back _ 42 9 5 ⟨w.heap.size, 0, none⟩ 1 [b] Try.underlying42 Try.underlying5 Try.underlying9 (by
      intro j hj
      have : j = 0 := by simpa using hj
      subst this
      rw [Addr.add_lit, World.cell?_alloc_at _ _ _ _ rfl]
      simp [hb])
  clear hb
  go_enter Try.func77, Try.ntmps77
  go_wp2_with fail
  go_ret
  exact ⟨rfl, HB.out⟩

theorem strAdd (a b c : ByteArray) (h : a ++ b = c) (hs : a.size + b.size ≤ 1000) (W : World) : (Op.stringOp .add a b).run Try.prog W = .ok (.string c) W := by
  rw [run_string_add_sum W a b (by omega), h]
theorem bytes_join (l r : List UInt8) : (⟨l.toArray⟩ : ByteArray) ++ ⟨r.toArray⟩ = ⟨(l ++ r).toArray⟩ := ByteArray.mk_append_mk l r
theorem bytes_size (l : List UInt8) : (⟨l.toArray⟩ : ByteArray).size = l.length := by simp [ByteArray.size]

set_option maxRecDepth 100000 in
set_option maxHeartbeats 3200000 in
theorem boText_any (n m : Nat) (xs : List Int) (w : World) (hx : xs.length ≤ 1048576) (hg : goodB n m xs = true) (lo : Nat) (s : Value) (hO : Own w lo s xs) :
    Calls Try.prog 53 #[.agg #[.int .i64 n, .int .i64 m, s]] w fun e w' => e = .returned (.string ⟨(txR xs m n).toArray⟩) ∧ Below w.heap.size w w' := by
  have hgc := good_cell hg
  obtain ⟨⟨g1l, g1h⟩, ⟨g2l, g2h⟩, g3, _⟩ := good_facts hg
  have L0 := (Law.start w).box (.int .i64 n) (.int .i64 m) s 26
  have HO := Lib.hid hO
  obtain ⟨a, cap, hs, _⟩ := hO.reads
  subst hs
  have HL := Lib.hid L0
  have HG3 := Lib.hid g3
  have HGC := Lib.hid hgc
  clear hO L0 hg g3 hgc
  go_enter Try.func53, Try.ntmps53
  go_wp2_with fail
  go_loopw [3, 4, 5] (fun v i _ wr => ∃ k : Nat, k ≤ n ∧ i = .int .i64 k ∧ v = .string ⟨(txR xs m k).toArray⟩ ∧ Law w [tBox w.heap.size (.int .i64 n) (.int .i64 m) (.slice a xs.length cap)] wr) (fun _ i _ _ => n - (intOf i).toNat)
  case atStart => exact ⟨0, Nat.zero_le _, rfl, rfl, HL.out⟩
  case round =>
    clear HL
    obtain ⟨i, hi, rfl, rfl, L⟩ := hrel
    obtain ⟨wo, rfl⟩ : ∃ wo : World, wo = wr := ⟨_, rfl⟩
    have ⟨_, m0, m1, m2, _⟩ := L.ownBox
    have HL := Lib.hid L
    clear L
    by_cases hin : i < n
    · have hsz := txU_len xs m i 0 (by omega) (by omega) (by omega)
      have hadd : i ≠ 0 → ∀ W, (Op.stringOp .add ⟨(txR xs m i).toArray⟩ ⟨#[47]⟩).run Try.prog W = .ok (.string ⟨(txU xs m i 0).toArray⟩) W := fun h W =>
        strAdd _ _ _ (by rw [← txU_sep xs m i h]; exact bytes_join _ [47]) (by
          rw [bytes_size]
          have h2 := congrArg List.length (txU_sep xs m i h)
          rw [List.length_append] at h2
          have : (⟨#[47]⟩ : ByteArray).size = 1 := rfl
          simp at h2
          omega) W
      rcases Nat.eq_zero_or_pos i with h0 | h0
      · subst h0
        simp only [show ((0 : Nat) : Int) = 0 from rfl]
        clear hadd hsz
        go_wp2_with fail
        clear m0 m1 m2
        go_loopw [3, 5] (fun v j wr => ∃ l : Nat, l ≤ m ∧ j = .int .i64 l ∧ v = .string ⟨(txU xs m 0 l).toArray⟩ ∧ Law w [tBox w.heap.size (.int .i64 n) (.int .i64 m) (.slice a xs.length cap)] wr) (fun _ j _ => m - (intOf j).toNat)
        case atStart => exact ⟨0, Nat.zero_le _, rfl, rfl, HL.out⟩
        case round =>
          clear HL
          obtain ⟨j, hj, rfl, rfl, L⟩ := hrel
          have ⟨_, m0, m1, m2, _⟩ := L.ownBox
          have HL := Lib.hid L
          by_cases hjm : j < m
          · have hO1 := HO.out.kept L.below
            clear L
            rcases hO1.cases with ⟨_, h2⟩ | ⟨g, cp, hv, _⟩
            · have := HG3.out; subst h2; simp at this; omega
            · injection hv with ha hb hc
              subst ha
              subst hc
              have hix : 0 < xs.length := by have := HG3.out; omega
              have hcx := hO1.cell 0 hix
              have hbv := bit_mdv (xs.getD 0 0) j (HGC.out 0) (by omega)
              have hnx := txU_next xs m 0 j
              have hd : dig xs 0 j = if (xs.getD 0 0).toNat.testBit j = true then 49 else 48 := rfl
              have hsz := txU_len xs m 0 j (by omega) (by omega) (by omega)
              cases hp : (xs.getD 0 0).toNat.testBit j
              · rw [hp, if_neg (by simp)] at hbv hd
                rw [hd] at hnx
                have hadd : ∀ W, (Op.stringOp .add ⟨(txU xs m 0 j).toArray⟩ ⟨#[48]⟩).run Try.prog W = .ok (.string ⟨(txU xs m 0 (j + 1)).toArray⟩) W := fun W =>
                  strAdd _ _ _ (by rw [← hnx]; exact bytes_join _ [48]) (by rw [bytes_size]; have : (⟨#[48]⟩ : ByteArray).size = 1 := rfl; omega) W
                have hjl : (j : Int) < m := by omega
                have hj64 : (j : Int) < 64 := by omega
                generalize xs.getD 0 0 = x at *
                clear hO1 hnx hd hsz hp
                go_wp2_with fail
                refine (l1Num_small 0 48 rfl (by omega) _).mono ?_
                rintro e w2 ⟨rfl, hb⟩
                have HL2 := Lib.hid (HL.out.kept hb)
                clear hb HL m0 m1 m2 hcx
                go_wp2_with fail
                go_roundw
                case rel => exact ⟨j + 1, by omega, by go_num, rfl, HL2.out⟩
                case measure => simp [intOf]; omega
              · rw [hp, if_pos rfl] at hbv hd
                rw [hd] at hnx
                have hadd : ∀ W, (Op.stringOp .add ⟨(txU xs m 0 j).toArray⟩ ⟨#[49]⟩).run Try.prog W = .ok (.string ⟨(txU xs m 0 (j + 1)).toArray⟩) W := fun W =>
                  strAdd _ _ _ (by rw [← hnx]; exact bytes_join _ [49]) (by rw [bytes_size]; have : (⟨#[49]⟩ : ByteArray).size = 1 := rfl; omega) W
                have hjl : (j : Int) < m := by omega
                have hj64 : (j : Int) < 64 := by omega
                generalize xs.getD 0 0 = x at *
                clear hO1 hnx hd hsz hp
                go_wp2_with fail
                refine (l1Num_small 1 49 rfl (by omega) _).mono ?_
                rintro e w2 ⟨rfl, hb⟩
                have HL2 := Lib.hid (HL.out.kept hb)
                clear hb HL m0 m1 m2 hcx
                go_wp2_with fail
                go_roundw
                case rel => exact ⟨j + 1, by omega, by go_num, rfl, HL2.out⟩
                case measure => simp [intOf]; omega
          · obtain rfl : j = m := by omega
            clear L
            go_wp2_with fail
            clear m0 m1 m2
            go_roundw
            case rel => exact ⟨0 + 1, by omega, by go_num, by rw [← txU_row xs _ 0], HL.out⟩
            case measure => simp [intOf]; omega
      · have hadd := hadd (by omega)
        have hi0 : (0 : Int) < i := by omega
        clear hsz
        go_wp2_with fail
        clear m0 m1 m2 hadd
        go_loopw [3, 5] (fun v j wr => ∃ l : Nat, l ≤ m ∧ j = .int .i64 l ∧ v = .string ⟨(txU xs m i l).toArray⟩ ∧ Law w [tBox w.heap.size (.int .i64 n) (.int .i64 m) (.slice a xs.length cap)] wr) (fun _ j _ => m - (intOf j).toNat)
        case atStart => exact ⟨0, Nat.zero_le _, rfl, rfl, HL.out⟩
        case round =>
          clear HL
          obtain ⟨j, hj, rfl, rfl, L⟩ := hrel
          have ⟨_, m0, m1, m2, _⟩ := L.ownBox
          have HL := Lib.hid L
          by_cases hjm : j < m
          · have hO1 := HO.out.kept L.below
            clear L
            rcases hO1.cases with ⟨_, h2⟩ | ⟨g, cp, hv, _⟩
            · have := HG3.out; subst h2; simp at this; omega
            · injection hv with ha hb hc
              subst ha
              subst hc
              have hix : i < xs.length := by have := HG3.out; omega
              have hcx := hO1.cell i hix
              have hbv := bit_mdv (xs.getD i 0) j (HGC.out i) (by omega)
              have hnx := txU_next xs m i j
              have hd : dig xs i j = if (xs.getD i 0).toNat.testBit j = true then 49 else 48 := rfl
              have hsz := txU_len xs m i j (by omega) (by omega) (by omega)
              cases hp : (xs.getD i 0).toNat.testBit j
              · rw [hp, if_neg (by simp)] at hbv hd
                rw [hd] at hnx
                have hadd : ∀ W, (Op.stringOp .add ⟨(txU xs m i j).toArray⟩ ⟨#[48]⟩).run Try.prog W = .ok (.string ⟨(txU xs m i (j + 1)).toArray⟩) W := fun W =>
                  strAdd _ _ _ (by rw [← hnx]; exact bytes_join _ [48]) (by rw [bytes_size]; have : (⟨#[48]⟩ : ByteArray).size = 1 := rfl; omega) W
                have hjl : (j : Int) < m := by omega
                have hj64 : (j : Int) < 64 := by omega
                generalize xs.getD i 0 = x at *
                clear hO1 hnx hd hsz hp
                go_wp2_with fail
                refine (l1Num_small 0 48 rfl (by omega) _).mono ?_
                rintro e w2 ⟨rfl, hb⟩
                have HL2 := Lib.hid (HL.out.kept hb)
                clear hb HL m0 m1 m2 hcx
                go_wp2_with fail
                go_roundw
                case rel => exact ⟨j + 1, by omega, by go_num, rfl, HL2.out⟩
                case measure => simp [intOf]; omega
              · rw [hp, if_pos rfl] at hbv hd
                rw [hd] at hnx
                have hadd : ∀ W, (Op.stringOp .add ⟨(txU xs m i j).toArray⟩ ⟨#[49]⟩).run Try.prog W = .ok (.string ⟨(txU xs m i (j + 1)).toArray⟩) W := fun W =>
                  strAdd _ _ _ (by rw [← hnx]; exact bytes_join _ [49]) (by rw [bytes_size]; have : (⟨#[49]⟩ : ByteArray).size = 1 := rfl; omega) W
                have hjl : (j : Int) < m := by omega
                have hj64 : (j : Int) < 64 := by omega
                generalize xs.getD i 0 = x at *
                clear hO1 hnx hd hsz hp
                go_wp2_with fail
                refine (l1Num_small 1 49 rfl (by omega) _).mono ?_
                rintro e w2 ⟨rfl, hb⟩
                have HL2 := Lib.hid (HL.out.kept hb)
                clear hb HL m0 m1 m2 hcx
                go_wp2_with fail
                go_roundw
                case rel => exact ⟨j + 1, by omega, by go_num, rfl, HL2.out⟩
                case measure => simp [intOf]; omega
          · obtain rfl : j = m := by omega
            clear L
            go_wp2_with fail
            clear m0 m1 m2
            go_roundw
            case rel => exact ⟨i + 1, by omega, by go_num, by rw [← txU_row], HL.out⟩
            case measure => simp [intOf]; omega
    · obtain rfl : i = n := by omega
      go_wp2_with fail
      go_ret
      exact ⟨rfl, HL.out.below⟩

set_option maxHeartbeats 1600000 in
theorem specText_any (r c : Int) (xs : List Int) (w : World) (hx : xs.length ≤ 1048576) (lo : Nat) (s : Value) (hO : Own w lo s xs) :
    Calls Try.prog 28 #[.agg #[.int .i64 r, .int .i64 c, s]] w fun e w' => AnsS (textB r c xs) w e w' := by
  have L0 := (Law.start w).box (.int .i64 r) (.int .i64 c) s 26
  have hO0 := hO.kept L0.below
  obtain ⟨a, cap, rfl, hr⟩ := hO.reads
  have hr0 := L0.reads hr
  clear hO
  cases hg : goodB r c xs
  · rw [show textB r c xs = ⟨⟨#[]⟩, false⟩ by simp [textB, hg]]
    go_enter Try.func28, Try.ntmps28
    go_wp2_with fail
    refine (at_boolB (boGood_any r c a cap xs _ hx hr0) hg).mono ?_
    rintro e w1 ⟨rfl, hb⟩
    have HB := Lib.hid (L0.kept hb).below
    clear L0 hb hg hr0 hO0
    go_wp2_with fail
    go_ret2
    exact ⟨rfl, HB.out⟩
  · obtain ⟨g1, g2, _, _⟩ := good_facts hg
    obtain ⟨n, rfl⟩ := Int.eq_ofNat_of_zero_le (show 0 ≤ r by omega)
    obtain ⟨m, rfl⟩ := Int.eq_ofNat_of_zero_le (show 0 ≤ c by omega)
    rw [show textB n m xs = ⟨⟨(txR xs m n).toArray⟩, true⟩ by simp [textB, txB, hg]]
    have HC := Lib.hid (at_boolB (boGood_any n m a cap xs _ hx hr0) hg)
    have HG := Lib.hid hg
    clear hg hr0
    go_enter Try.func28, Try.ntmps28
    go_wp2_with fail
    refine HC.out.mono ?_
    rintro e w1 ⟨rfl, hb⟩
    have L1 := L0.kept hb
    have hO1 := hO0.kept hb
    have ⟨_, k0, k1, k2, _⟩ := L1.ownBox
    clear L0 hb HC hO0
    go_wp2_with fail
    refine (boText_any n m xs _ hx HG.out lo _ hO1).mono ?_
    rintro e w2 ⟨rfl, hb⟩
    have HB := Lib.hid (L1.kept hb).below
    clear L1 hb hO1 k0 k1 k2
    go_wp2_with fail
    go_ret2
    exact ⟨rfl, HB.out⟩

set_option maxRecDepth 100000 in
set_option maxHeartbeats 6400000 in
theorem implText_any (r c : Int) (xs : List Int) (w : World) (hx : xs.length ≤ 1048576) (lo : Nat) (s : Value) (hO : Own w lo s xs) :
    Calls Try.prog 29 #[.agg #[.int .i64 r, .int .i64 c, s]] w fun e w' => AnsS (textB r c xs) w e w' := by
  have L0 := (Law.start w).box (.int .i64 r) (.int .i64 c) s 26
  obtain ⟨a, cap, rfl, hr⟩ := hO.reads
  have hr0 := L0.reads hr
  clear hO
  cases hg : goodB r c xs
  · rw [show textB r c xs = ⟨⟨#[]⟩, false⟩ by simp [textB, hg]]
    go_enter Try.func29, Try.ntmps29
    go_wp2_with fail
    refine (gridOf_no r c a cap xs _ hx hr0 hg).mono ?_
    rintro e w1 ⟨rfl, hb⟩
    have HB := Lib.hid ((L0.kept hb).kept (below_new (.cells #[.int .i64 0, .int .i64 0, .int .i64 0, .int .i64 0, .int .i64 0, .int .i64 0, .int .i64 0, .int .i64 0] 56))).below
    clear L0 hb hg hr0
    go_wp2_with fail
    go_ret2
    exact ⟨rfl, HB.out⟩
  · have hgc := good_cell hg
    obtain ⟨⟨g1l, g1h⟩, ⟨g2l, g2h⟩, _, _⟩ := good_facts hg
    obtain ⟨n, rfl⟩ := Int.eq_ofNat_of_zero_le (show 0 ≤ r by omega)
    obtain ⟨m, rfl⟩ := Int.eq_ofNat_of_zero_le (show 0 ≤ c by omega)
    rw [show textB n m xs = ⟨⟨(txR xs m n).toArray⟩, true⟩ by simp [textB, txB, hg]]
    obtain ⟨M, hM, hc⟩ := gridOf_good n m a cap xs _ hx hr0 hg
    have HC := Lib.hid hc; clear hc
    have HT := Lib.hid (fun k => (hM k).symm)
    simp only [← hM] at hgc
    have HGC := Lib.hid hgc
    have hnm : n * (m + 1) ≤ 42 := by
      have : n * (m + 1) ≤ 6 * 7 := Nat.mul_le_mul (by omega) (by omega)
      omega
    have HW := Lib.hid (show wrap64 ((n : Int) * ((m : Int) + 1)) = ((n * (m + 1) : Nat) : Int) by
      rw [show ((n : Int) * ((m : Int) + 1)) = ((n * (m + 1) : Nat) : Int) by push_cast; rfl]
      exact IntWalk.wrap64_in _ (by omega))
    clear hM hg hr0 hgc
    go_enter Try.func29, Try.ntmps29
    go_wp2_with fail
    refine HC.out.mono ?_
    rintro e w1 ⟨rfl, hb⟩
    have L1 := (L0.kept hb).has (gl n m M) 56
    rw [show w1.alloc (.cells (gl n m M).toArray 56) = w1.alloc (.cells #[.int .i64 n, .int .i64 m, .int .i64 (M 0), .int .i64 (M 1), .int .i64 (M 2), .int .i64 (M 3), .int .i64 (M 4), .int .i64 (M 5)] 56) from rfl] at L1
    have HL := Lib.hid L1
    clear L0 hb HC L1
    go_upto_region 4 with fail
    generalize w1.alloc (.cells #[.int .i64 n, .int .i64 m, .int .i64 (M 0), .int .i64 (M 1), .int .i64 (M 2), .int .i64 (M 3), .int .i64 (M 4), .int .i64 (M 5)] 56) = w5 at *
    have ⟨e0, e1, _⟩ := HL.out.ownHas.eight
    obtain ⟨i0, hi, hz0, hz1, hz2⟩ := info_parts Try.infoY
    go_wp2_with (at_make; refine wpList_make_own _ rfl _ _ 42 rfl _ 5 i0 (.int .u8 0) 1 Try.underlying42 hi hz0 hz1 .i64 .i64 _ (n * (m + 1)) rfl rfl ?q1 ?q2 ?q3 (Nat.le_refl _) ?_)
    case q1 => exact HW.out
    case q2 => rw [hz2]; omega
    case q3 => unfold maxLen; omega
    intro w6 hown hg
    have L2 := HL.out.addY (bs := []) ((Below.refl _ _).grown hg (Nat.le_refl _) (by simp)) hown
    have HL2 := Lib.hid L2
    clear L2 HL hown hg e0 e1 HW hi hz0 hz1 hz2
    go_wp2_with fail
    go_loopw [6, 7, 8] (fun v i _ wr => ∃ k g cp : Nat, k ≤ n ∧ i = .int .i64 k ∧ v = .slice (some ⟨g, 0, none⟩) (txR xs m k).length cp ∧ Law w [tY (.slice (some ⟨g, 0, none⟩) (txR xs m k).length cp) (txR xs m k), tHas w1.heap.size (gl n m M) 56, tBox w.heap.size (.int .i64 n) (.int .i64 m) (.slice a xs.length cap)] wr) (fun _ i _ _ => n - (intOf i).toNat)
    case atStart => exact ⟨0, _, _, Nat.zero_le _, rfl, rfl, HL2.out⟩
    case round =>
      clear HL2
      obtain ⟨i, g, cp, hi, rfl, rfl, L⟩ := hrel
      obtain ⟨wo, rfl⟩ : ∃ wo : World, wo = wr := ⟨_, rfl⟩
      have ⟨m0, m1, _⟩ := L.tl.ownHas.eight
      by_cases hin : i < n
      · rcases Nat.eq_zero_or_pos i with h0 | h0
        · subst h0
          simp only [show ((0 : Nat) : Int) = 0 from rfl]
          have HLI := Lib.hid L
          clear L
          go_wp2_with fail
          clear m0 m1
          go_loopw [6, 8] (fun v j wr => ∃ l g cp : Nat, l ≤ m ∧ j = .int .i64 l ∧ v = .slice (some ⟨g, 0, none⟩) (txU xs m 0 l).length cp ∧ Law w [tY (.slice (some ⟨g, 0, none⟩) (txU xs m 0 l).length cp) (txU xs m 0 l), tHas w1.heap.size (gl n m M) 56, tBox w.heap.size (.int .i64 n) (.int .i64 m) (.slice a xs.length cap)] wr) (fun _ j _ => m - (intOf j).toNat)
          case atStart => exact ⟨0, _, _, Nat.zero_le _, rfl, rfl, HLI.out⟩
          case round =>
            clear HLI
            obtain ⟨j, g, cp, hj, rfl, rfl, L⟩ := hrel
            have ⟨m0, m1, _⟩ := L.tl.ownHas.eight
            by_cases hjm : j < m
            · have hcx := L.tl.ownHas.cell (2 + 0)
              rw [gl_get _ _ _ 0 (by omega)] at hcx
              have hbv := bit_val (M 0) j (HGC.out 0) (by omega)
              have hnx := txU_next xs m 0 j
              have hd : dig xs 0 j = if (xs.getD 0 0).toNat.testBit j = true then 49 else 48 := rfl
              rw [HT.out 0] at hd
              have hsz := txU_len xs m 0 j (by omega) (by omega) (by omega)
              have hj64 : (j : Int) < 64 := by omega
              cases hp : (M 0).toNat.testBit j
              · rw [hp, if_neg (by simp)] at hbv hd
                rw [hd] at hnx
                have HN := Lib.hid hnx
                have HL := Lib.hid (L.kept (below_new (.cells #[.int .u8 48] 5)))
                generalize M 0 = x at *
                clear L hnx hd hp
                go_wp2_with (at_builtin; refine wp_appendY rfl _ _ rfl 48 48 rfl HL.out wr.heap.size rfl rfl ?c1 (by omega) _ HN.out ?_)
                case c1 => rw [World.cell?_alloc_at _ _ _ _ rfl]; rfl
                intro g2 cp2 w3 L3
                have HL3 := Lib.hid L3
                clear L3 HL m0 m1 hcx
                go_wp2_with fail
                go_roundw
                case rel => exact ⟨j + 1, _, _, by omega, by go_num, rfl, HL3.out⟩
                case measure => simp [intOf]; omega
              · rw [hp, if_pos rfl] at hbv hd
                rw [hd] at hnx
                have HN := Lib.hid hnx
                have HL := Lib.hid (L.kept (below_new (.cells #[.int .u8 49] 5)))
                generalize M 0 = x at *
                clear L hnx hd hp
                go_wp2_with (at_builtin; refine wp_appendY rfl _ _ rfl 49 49 rfl HL.out wr.heap.size rfl rfl ?c1 (by omega) _ HN.out ?_)
                case c1 => rw [World.cell?_alloc_at _ _ _ _ rfl]; rfl
                intro g2 cp2 w3 L3
                have HL3 := Lib.hid L3
                clear L3 HL m0 m1 hcx
                go_wp2_with fail
                go_roundw
                case rel => exact ⟨j + 1, _, _, by omega, by go_num, rfl, HL3.out⟩
                case measure => simp [intOf]; omega
            · obtain rfl : j = m := by omega
              have HL := Lib.hid L
              clear L
              go_wp2_with fail
              clear m0 m1
              go_roundw
              case rel => exact ⟨0 + 1, _, _, by omega, by go_num, by rw [← txU_row xs _ 0], by rw [← txU_row xs _ 0]; exact HL.out⟩
              case measure => simp [intOf]; omega
        · have HN := Lib.hid (txU_sep xs m i (by omega))
          have hi0 : (0 : Int) < i := by omega
          have hsz : (txR xs m i).length ≤ 100 := by
            have h := txR_len xs m i
            have h2 : i * (m + 1) ≤ 6 * 7 := Nat.mul_le_mul (by omega) (by omega)
            omega
          have HL := Lib.hid (L.kept (below_new (.cells #[.int .u8 47] 5)))
          clear L
          go_wp2_with (at_builtin; refine wp_appendY rfl _ _ rfl 47 47 rfl HL.out wo.heap.size rfl rfl ?c1 (by omega) _ HN.out ?_)
          case c1 => rw [World.cell?_alloc_at _ _ _ _ rfl]; rfl
          intro g2 cp2 w3 L3
          have HLI := Lib.hid L3
          clear HN L3 HL m0 m1
          have ⟨m0, m1, _⟩ := HLI.out.tl.ownHas.eight
          go_wp2_with fail
          clear m0 m1
          go_loopw [6, 8] (fun v j wr => ∃ l g cp : Nat, l ≤ m ∧ j = .int .i64 l ∧ v = .slice (some ⟨g, 0, none⟩) (txU xs m i l).length cp ∧ Law w [tY (.slice (some ⟨g, 0, none⟩) (txU xs m i l).length cp) (txU xs m i l), tHas w1.heap.size (gl n m M) 56, tBox w.heap.size (.int .i64 n) (.int .i64 m) (.slice a xs.length cap)] wr) (fun _ j _ => m - (intOf j).toNat)
          case atStart => exact ⟨0, _, _, Nat.zero_le _, rfl, rfl, HLI.out⟩
          case round =>
            clear HLI
            obtain ⟨j, g, cp, hj, rfl, rfl, L⟩ := hrel
            have ⟨m0, m1, _⟩ := L.tl.ownHas.eight
            by_cases hjm : j < m
            · have hcx := L.tl.ownHas.cell (2 + i)
              rw [gl_get _ _ _ i (by omega)] at hcx
              have hbv := bit_val (M i) j (HGC.out i) (by omega)
              have hnx := txU_next xs m i j
              have hd : dig xs i j = if (xs.getD i 0).toNat.testBit j = true then 49 else 48 := rfl
              rw [HT.out i] at hd
              have hsz := txU_len xs m i j (by omega) (by omega) (by omega)
              have hj64 : (j : Int) < 64 := by omega
              cases hp : (M i).toNat.testBit j
              · rw [hp, if_neg (by simp)] at hbv hd
                rw [hd] at hnx
                have HN := Lib.hid hnx
                have HL := Lib.hid (L.kept (below_new (.cells #[.int .u8 48] 5)))
                generalize M i = x at *
                clear L hnx hd hp
                go_wp2_with (at_builtin; refine wp_appendY rfl _ _ rfl 48 48 rfl HL.out wr.heap.size rfl rfl ?c1 (by omega) _ HN.out ?_)
                case c1 => rw [World.cell?_alloc_at _ _ _ _ rfl]; rfl
                intro g2 cp2 w3 L3
                have HL3 := Lib.hid L3
                clear L3 HL m0 m1 hcx
                go_wp2_with fail
                go_roundw
                case rel => exact ⟨j + 1, _, _, by omega, by go_num, rfl, HL3.out⟩
                case measure => simp [intOf]; omega
              · rw [hp, if_pos rfl] at hbv hd
                rw [hd] at hnx
                have HN := Lib.hid hnx
                have HL := Lib.hid (L.kept (below_new (.cells #[.int .u8 49] 5)))
                generalize M i = x at *
                clear L hnx hd hp
                go_wp2_with (at_builtin; refine wp_appendY rfl _ _ rfl 49 49 rfl HL.out wr.heap.size rfl rfl ?c1 (by omega) _ HN.out ?_)
                case c1 => rw [World.cell?_alloc_at _ _ _ _ rfl]; rfl
                intro g2 cp2 w3 L3
                have HL3 := Lib.hid L3
                clear L3 HL m0 m1 hcx
                go_wp2_with fail
                go_roundw
                case rel => exact ⟨j + 1, _, _, by omega, by go_num, rfl, HL3.out⟩
                case measure => simp [intOf]; omega
            · obtain rfl : j = m := by omega
              have HL := Lib.hid L
              clear L
              go_wp2_with fail
              clear m0 m1
              go_roundw
              case rel => exact ⟨i + 1, _, _, by omega, by go_num, by rw [← txU_row], by rw [← txU_row]; exact HL.out⟩
              case measure => simp [intOf]; omega
      · obtain rfl : i = n := by omega
        have hcv : (convert 42 9 (.slice (some ⟨g, 0, none⟩) (txR xs m i).length cp)).run Try.prog wo = .ok (.string ⟨(txR xs m i).toArray⟩) wo :=
          run_convert_bytes_back _ 42 9 5 ⟨g, 0, none⟩ cp (txR xs m i) Try.underlying42 Try.underlying5 Try.underlying9 (fun j hj => by rw [Addr.add_lit, Nat.zero_add]; exact L.ownY.cell j hj)
        have HB := Lib.hid L.below
        clear L
        go_wp2_with fail
        go_ret2
        exact ⟨rfl, HB.out⟩

end Go.Proofs.Ytncbdmeagfadfab
