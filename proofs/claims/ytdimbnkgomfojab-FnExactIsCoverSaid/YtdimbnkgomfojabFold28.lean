import Derived.Test.YtdimbnkgomfojabFold25
import Derived.Test.YtdimbnkgomfojabFold12
import Derived.Test.YtdimbnkgomfojabFold6
import Derived.Test.YtdimbnkgomfojabFold20

section
namespace Go.Proofs.Ytdimbnkgomfojab
open Go.RowKit

set_option maxRecDepth 100000 in
set_option maxHeartbeats 1600000 in
theorem l1Rising_any (a : Option Addr) (cap : Nat) (xs : List Int) (lo hi : Int) (w : World) (hx : xs.length ≤ 1048576) (hr : Reads w a xs.length xs) : Calls Try.prog 68 #[.slice a xs.length cap, .int .i64 lo, .int .i64 hi] w fun e w' => e = .returned (.bool (riseB xs lo hi)) ∧ w = w' := by
  have HB : Hid (riseB xs lo hi = riseU xs lo hi xs.length) := Lib.hid rfl
  go_enter Try.func68, Try.ntmps68
  go_wp2_with fail
  go_loop [11] (fun i => ∃ k : Nat, k ≤ xs.length ∧ i = .int .i64 k ∧ Hid (riseU xs lo hi k = true)) (fun i => xs.length - (intOf i).toNat)
  case atStart => exact ⟨0, Nat.zero_le _, rfl, Lib.hid rfl⟩
  case round =>
    obtain ⟨k, hk, rfl, HW⟩ := hrel
    by_cases hlt : k < xs.length
    · obtain ⟨b, off, rfl, hb, hc⟩ := reads_row hr (by omega)
      have hck := hc k hlt
      have hs := riseU_succ xs lo hi k
      rw [HW.out, Bool.true_and] at hs
      have hno := riseU_no xs lo hi k xs.length
      by_cases hd : lo ≤ xs.getD k 0 ∧ xs.getD k 0 ≤ hi
      · rw [inB_yes hd.1 hd.2, Bool.true_and] at hs hno
        by_cases hk0 : k = 0
        · have HN : Hid (riseU xs lo hi (k + 1) = true) := Lib.hid (by rw [hs]; simp [hk0])
          have hk1 : ¬ (0 : Int) < k := by omega
          clear hs hno hc hk0
          generalize xs.getD k 0 = x at *
          have HD := Lib.hid (inB_yes hd.1 hd.2)
          clear hd
          go_wp2_with (go_at_call 93; refine (l1In_any _ _ _ _).mono ?_; rintro e w' ⟨rfl, rfl⟩; rw [HD.out])
          go_round
          case rel => exact ⟨k + 1, by omega, by go_num, HN⟩
          case measure => simp [intOf]; omega
        · have hkp := hc (k - 1) (by omega)
          have hk1 : (0 : Int) < k := by omega
          have hkw : IntKind.i64.wrap ((k : Int) - 1) = (k : Int) - 1 := IntWalk.i64_in _ (by omega)
          have hkz : (0 : Int) ≤ (k : Int) - 1 := by omega
          have hkl : (k : Int) - 1 < xs.length := by omega
          have hkt : ((k : Int) - 1).toNat = k - 1 := by omega
          rw [show decide (k = 0) = false by simp [hk0], Bool.false_or] at hs hno
          clear hc
          generalize xs.getD k 0 = x at *
          generalize xs.getD (k - 1) 0 = y at *
          by_cases hyx : y < x
          · have HN : Hid (riseU xs lo hi (k + 1) = true) := Lib.hid (by rw [hs]; simp [hyx])
            clear hs hno
            have HD := Lib.hid (inB_yes hd.1 hd.2)
            clear hd
            go_wp2_with (go_at_call 93; refine (l1In_any _ _ _ _).mono ?_; rintro e w' ⟨rfl, rfl⟩; rw [HD.out])
            go_round
            case rel => exact ⟨k + 1, by omega, by go_num, HN⟩
            case measure => simp [intOf]; omega
          · have HN : Hid (riseU xs lo hi xs.length = false) := Lib.hid (hno (by simp [hyx]) hlt)
            clear hs hno
            have HD := Lib.hid (inB_yes hd.1 hd.2)
            clear hd
            go_wp2_with (go_at_call 93; refine (l1In_any _ _ _ _).mono ?_; rintro e w' ⟨rfl, rfl⟩; rw [HD.out])
            go_ret
            exact ⟨ret_bool (by rw [HB.out, HN.out]), rfl⟩
      · rw [inB_no hd, Bool.false_and] at hs hno
        have HN : Hid (riseU xs lo hi xs.length = false) := Lib.hid (hno rfl hlt)
        clear hs hno hc
        generalize xs.getD k 0 = x at *
        have HD := Lib.hid (inB_no hd)
        clear hd
        go_wp2_with (go_at_call 93; refine (l1In_any _ _ _ _).mono ?_; rintro e w' ⟨rfl, rfl⟩; rw [HD.out])
        go_ret
        exact ⟨ret_bool (by rw [HB.out, HN.out]), rfl⟩
    · obtain rfl : k = xs.length := by omega
      go_wp2_with fail
      go_ret
      exact ⟨ret_bool (by rw [HB.out, HW.out]), rfl⟩

set_option maxRecDepth 100000 in
set_option maxHeartbeats 1600000 in
theorem areIndices_any (a : Option Addr) (cap : Nat) (xs : List Int) (c : Int) (w : World) (hx : xs.length ≤ 1048576) (hr : Reads w a xs.length xs) : Calls Try.prog 71 #[.slice a xs.length cap, .int .i64 c] w fun e w' => e = .returned (.bool (riseB xs 0 (c - 1))) ∧ w = w' := by
  have HB : Hid (riseB xs 0 (c - 1) = riseU xs 0 (c - 1) xs.length) := Lib.hid rfl
  go_enter Try.func71, Try.ntmps71
  go_wp2_with fail
  go_loop [9] (fun i => ∃ k : Nat, k ≤ xs.length ∧ i = .int .i64 k ∧ Hid (riseU xs 0 (c - 1) k = true)) (fun i => xs.length - (intOf i).toNat)
  case atStart => exact ⟨0, Nat.zero_le _, rfl, Lib.hid rfl⟩
  case round =>
    obtain ⟨k, hk, rfl, HW⟩ := hrel
    by_cases hlt : k < xs.length
    · obtain ⟨b, off, rfl, hb, hc⟩ := reads_row hr (by omega)
      have hck := hc k hlt
      have hs := riseU_succ xs 0 (c - 1) k
      rw [HW.out, Bool.true_and] at hs
      have hno := riseU_no xs 0 (c - 1) k xs.length
      by_cases hd : 0 ≤ xs.getD k 0 ∧ xs.getD k 0 ≤ (c - 1)
      · rw [inB_yes hd.1 hd.2, Bool.true_and] at hs hno
        by_cases hk0 : k = 0
        · have HN : Hid (riseU xs 0 (c - 1) (k + 1) = true) := Lib.hid (by rw [hs]; simp [hk0])
          have hk1 : ¬ (0 : Int) < k := by omega
          clear hs hno hc hk0
          generalize xs.getD k 0 = x at *
          obtain ⟨hd1, hd2⟩ := hd
          have hd3 : x < c := by omega
          go_wp2_with fail
          go_round
          case rel => exact ⟨k + 1, by omega, by go_num, HN⟩
          case measure => simp [intOf]; omega
        · have hkp := hc (k - 1) (by omega)
          have hk1 : (0 : Int) < k := by omega
          have hkw : IntKind.i64.wrap ((k : Int) - 1) = (k : Int) - 1 := IntWalk.i64_in _ (by omega)
          have hkz : (0 : Int) ≤ (k : Int) - 1 := by omega
          have hkl : (k : Int) - 1 < xs.length := by omega
          have hkt : ((k : Int) - 1).toNat = k - 1 := by omega
          rw [show decide (k = 0) = false by simp [hk0], Bool.false_or] at hs hno
          clear hc
          generalize xs.getD k 0 = x at *
          generalize xs.getD (k - 1) 0 = y at *
          by_cases hyx : y < x
          · have HN : Hid (riseU xs 0 (c - 1) (k + 1) = true) := Lib.hid (by rw [hs]; simp [hyx])
            clear hs hno
            obtain ⟨hd1, hd2⟩ := hd
            have hd3 : x < c := by omega
            go_wp2_with fail
            go_round
            case rel => exact ⟨k + 1, by omega, by go_num, HN⟩
            case measure => simp [intOf]; omega
          · have HN : Hid (riseU xs 0 (c - 1) xs.length = false) := Lib.hid (hno (by simp [hyx]) hlt)
            clear hs hno
            obtain ⟨hd1, hd2⟩ := hd
            have hd3 : x < c := by omega
            go_wp2_with fail
            go_ret
            exact ⟨ret_bool (by rw [HB.out, HN.out]), rfl⟩
      · rw [inB_no hd, Bool.false_and] at hs hno
        have HN : Hid (riseU xs 0 (c - 1) xs.length = false) := Lib.hid (hno rfl hlt)
        clear hs hno hc
        generalize xs.getD k 0 = x at *
        by_cases hx0 : x < 0
        · go_wp2_with fail
          go_ret
          exact ⟨ret_bool (by rw [HB.out, HN.out]), rfl⟩
        · have hxc : c ≤ x := by omega
          have hx1 : 0 ≤ x := by omega
          clear hd
          go_wp2_with fail
          go_ret
          exact ⟨ret_bool (by rw [HB.out, HN.out]), rfl⟩
    · obtain rfl : k = xs.length := by omega
      go_wp2_with fail
      go_ret
      exact ⟨ret_bool (by rw [HB.out, HW.out]), rfl⟩

end Go.Proofs.Ytdimbnkgomfojab
end

section
namespace Go.Proofs.Ytdimbnkgomfojab
open Go.RowKit Go.WideShapes

/-- Has one of the first k rows a cell in the column? -/
def fndU (xs R : List Int) (o : Bool) (c k : Nat) : Bool := (List.range k).any fun r => (hasI R (r : Int) != o) && (xs.getD r 0).toNat.testBit c
theorem fndU_succ (xs R : List Int) (o : Bool) (c k : Nat) : fndU xs R o c (k + 1) = (fndU xs R o c k || ((hasI R (k : Int) != o) && (xs.getD k 0).toNat.testBit c)) := by
  unfold fndU
  rw [List.range_succ, List.any_append]
  simp
def colSU (xs : List Int) (n : Nat) (R : List Int) (o : Bool) (k : Nat) : List Int := ((List.range k).filter fun c => fndU xs R o c n).map fun (c : Nat) => (c : Int)
theorem colSU_no (xs : List Int) (n : Nat) (R : List Int) (o : Bool) (k : Nat) (h : fndU xs R o k n = false) : colSU xs n R o (k + 1) = colSU xs n R o k := by
  unfold colSU
  rw [List.range_succ, List.filter_append]
  simp [h]
theorem colSU_yes (xs : List Int) (n : Nat) (R : List Int) (o : Bool) (k : Nat) (h : fndU xs R o k n = true) : colSU xs n R o (k + 1) = colSU xs n R o k ++ [(k : Int)] := by
  unfold colSU
  rw [List.range_succ, List.filter_append, List.map_append]
  simp [h]
theorem colSU_len (xs : List Int) (n : Nat) (R : List Int) (o : Bool) (k : Nat) : (colSU xs n R o k).length ≤ k := by
  unfold colSU
  rw [List.length_map]
  have := List.length_filter_le (fun c => fndU xs R o c n) (List.range k)
  simpa using this
theorem colS_len (xs : List Int) (n m : Nat) (R : List Int) (o : Bool) : (colS xs n m R o).length ≤ m := colSU_len xs n R o m

set_option maxRecDepth 100000 in
set_option maxHeartbeats 3200000 in
theorem lcColumns_any (n m : Nat) (xs R : List Int) (o : Bool) (a2 : Option Addr) (p2 : Nat) (w : World) (hx : xs.length ≤ 1048576) (hRl : R.length ≤ 1048576) (hn : n ≤ 6) (hm : m ≤ 6) (hlen : xs.length = n) (hgc : ∀ k, 0 ≤ xs.getD k 0 ∧ xs.getD k 0 < 64) (lo : Nat) (s : Value) (hO : Own w lo s xs) (hr : Reads w a2 R.length R) :
    Calls Try.prog 77 #[.agg #[.int .i64 n, .int .i64 m, s], .slice a2 R.length p2, .bool o] w fun e w' => ∃ v, e = .returned v ∧ Own w' w.heap.size v (colS xs n m R o) ∧ Below w.heap.size w w' := by
  have L0 := (Law.start w).box (.int .i64 n) (.int .i64 m) s 28
  have HO := Lib.hid hO
  obtain ⟨a, cap, rfl, _⟩ := hO.reads
  have HR := Lib.hid hr
  have HLEN := Lib.hid hlen
  have HGC := Lib.hid hgc
  have HF : Hid (colS xs n m R o = colSU xs n R o m) := Lib.hid rfl
  have HL0 := Lib.hid (L0.own (Below.refl _ _) (Own.nil _ _))
  clear hO hr hlen hgc L0
  go_enter Try.func77, Try.ntmps77
  go_upto_region 1 with fail
  generalize w.alloc (.cells #[.int .i64 n, .int .i64 m, .slice a xs.length cap] 28) = w5 at *
  go_wp2_with fail
  go_loopw [7, 8] (fun v i wr => ∃ k : Nat, k ≤ m ∧ i = .int .i64 k ∧ Law w [tOwn v (colSU xs n R o k), tBox w.heap.size (.int .i64 n) (.int .i64 m) (.slice a xs.length cap)] wr) (fun _ i _ => m - (intOf i).toNat)
  case atStart => exact ⟨0, Nat.zero_le _, rfl, HL0.out⟩
  case round =>
    clear HL0
    obtain ⟨k, hk, rfl, L⟩ := hrel
    obtain ⟨_, k0, k1, k2, _⟩ := L.tl.ownBox
    by_cases hkm : k < m
    · have hkm' : (k : Int) < m := by omega
      have HL := Lib.hid L
      clear L
      go_wp2_with fail
      clear k0 k1 k2
      go_loopw [9, 10] (fun f j wr => ∃ r : Nat, r ≤ n ∧ j = .int .i64 r ∧ f = .bool (fndU xs R o k r) ∧ Law w [tOwn u7 (colSU xs n R o k), tBox w.heap.size (.int .i64 n) (.int .i64 m) (.slice a xs.length cap)] wr) (fun _ j _ => n - (intOf j).toNat)
      case atStart => exact ⟨0, Nat.zero_le _, rfl, rfl, HL.out⟩
      case round =>
        clear HL
        obtain ⟨r, hrn, rfl, rfl, L⟩ := hrel
        obtain ⟨_, k0, k1, k2, _⟩ := L.tl.ownBox
        have hsucc := fndU_succ xs R o k r
        have HL := Lib.hid L
        clear L
        by_cases hr : r < n
        · have hr' : (r : Int) < n := by omega
          cases hf : fndU xs R o k r
          · rw [hf, Bool.false_or] at hsucc
            have HHS := Lib.hid (fun W h => l1Has_any a2 R.length p2 R (r : Int) W hRl rfl h)
            cases hh : (hasI R (r : Int) != o)
            · rw [hh, Bool.false_and] at hsucc
              have HX := Lib.hid hsucc
              have hr1 := HL.out.reads HR.out
              obtain ⟨hv, hhv⟩ : ∃ hv, hv = hasI R (r : Int) := ⟨_, rfl⟩
              rw [← hhv] at hh HHS
              clear hsucc hf hhv
              have hvo : hv = o := by cases hv <;> cases o <;> simp_all
              rw [hvo] at HHS
              clear hh hvo
              have hoo : (o != o) = false := by cases o <;> rfl
              go_wp2_with fail
              refine (HHS.out _ hr1).mono ?_
              rintro e w' ⟨rfl, rfl⟩
              clear hr1
              go_wp2_with fail
              go_roundw
              case rel => exact ⟨r + 1, by omega, by go_num, by rw [HX.out], HL.out⟩
              case measure => simp [intOf]; omega
            · rw [hh, Bool.true_and] at hsucc
              have HX := Lib.hid hsucc
              have hr1 := HL.out.reads HR.out
              have HBH := Lib.hid (fun W (h : Own W lo (.slice a xs.length cap) xs) => boHas_any n m xs r k W (by have := HLEN.out; omega) hx (by omega) (HGC.out r) lo _ h)
              have hO1 := HO.out.kept HL.out.below
              obtain ⟨hv, hhv⟩ : ∃ hv, hv = hasI R (r : Int) := ⟨_, rfl⟩
              rw [← hhv] at hh HHS
              generalize (xs.getD r 0).toNat.testBit k = bv at *
              clear hsucc hf hhv
              have hvo : hv = !o := by cases hv <;> cases o <;> simp_all
              rw [hvo] at HHS
              clear hh hvo
              have hoo : ((!o) != o) = true := by cases o <;> rfl
              go_wp2_with fail
              refine (HHS.out _ hr1).mono ?_
              rintro e w' ⟨rfl, rfl⟩
              go_wp2_with fail
              refine (HBH.out _ hO1).mono ?_
              rintro e w2 ⟨rfl, hb⟩
              have HL2 := Lib.hid (HL.out.kept hb)
              clear hb hr1 hO1 HL k0 k1 k2
              go_wp2_with fail
              go_roundw
              case rel => exact ⟨r + 1, by omega, by go_num, by rw [HX.out], HL2.out⟩
              case measure => simp [intOf]; omega
          · rw [hf, Bool.true_or] at hsucc
            have HX := Lib.hid hsucc
            clear hsucc hf
            go_wp2_with fail
            go_roundw
            case rel => exact ⟨r + 1, by omega, by go_num, by rw [HX.out], HL.out⟩
            case measure => simp [intOf]; omega
        · obtain rfl : r = n := by omega
          have hr' : ¬ (r : Int) < r := by omega
          have hno := colSU_no xs r R o k
          have hyes := colSU_yes xs r R o k
          have hln := colSU_len xs r R o k
          clear hsucc
          cases hf : fndU xs R o k r
          · have HX := Lib.hid (hno hf)
            clear hno hyes hf
            go_wp2_with fail
            go_roundw
            case rel => exact ⟨k + 1, by omega, by go_num, by rw [HX.out]; exact HL.out⟩
            case measure => simp [intOf]; omega
          · have HX := Lib.hid (hyes hf).symm
            replace HL := Lib.hid (HL.out.kept (below_new (.cells #[.int .i64 (k : Int)] 3)))
            have HC1 := Lib.hid (show (wr.alloc (.cells #[.int .i64 (k : Int)] 3)).cell? ⟨wr.heap.size, 0, none⟩ = some (.int .i64 (k : Int)) by simp)
            have hl2 : (colSU xs r R o k).length + 1 ≤ 1048576 := by omega
            clear hno hyes hf
            go_wp2_with (at_builtin; refine wp_appendI rfl _ _ rfl (k : Int) HL.out wr.heap.size rfl rfl HC1.out hl2 _ HX.out ?_)
            intro g2 cp w3 L3
            have HL3 := Lib.hid L3
            clear L3 HL
            go_wp2_with fail
            go_roundw
            case rel => exact ⟨k + 1, by omega, by go_num, HL3.out⟩
            case measure => simp [intOf]; omega
    · obtain rfl : k = m := by omega
      have hkm' : ¬ (k : Int) < k := by omega
      have HL := Lib.hid L
      clear L
      go_wp2_with fail
      go_ret
      exact ⟨_, rfl, by rw [HF.out]; exact HL.out.ownLo, HL.out.below⟩

end Go.Proofs.Ytdimbnkgomfojab
end
