/- Heights of columns and file numbers, in the specification. No condition but the sizes. -/
import Derived.Test.YtakdiiccdkjjcacZd
import Derived.Test.YtakdiiccdkjjcacH
import Derived.Test.YtakdiiccdkjjcacAp
import Derived.Test.YtakdiiccdkjjcacRa
namespace Go.Proofs.Ytakdiiccdkjjcac
open Go.RowKit Go.WideShapes

/-- How many of the first rows have a cell in the column. -/
def colN (xs : List Int) (c : Nat) : Nat → Nat
  | 0 => 0
  | r + 1 => colN xs c r + (if (xs.getD r 0).toNat.testBit c then 1 else 0)
theorem colN_le (xs : List Int) (c r : Nat) : colN xs c r ≤ r := by
  induction r with
  | zero => exact Nat.le_refl _
  | succ r ih => rw [colN]; split <;> omega
def hgt (xs : List Int) (n c : Nat) : Nat := colN xs c n
def hgtL (xs : List Int) (n m : Nat) : List Int := lstL m (hgt xs n)
theorem hgtL_len (xs : List Int) (n m : Nat) : (hgtL xs n m).length = m := lstL_len _ _
theorem hgtL_get (xs : List Int) (n m k : Nat) (h : k < m) : (hgtL xs n m).getD k 0 = (hgt xs n k : Nat) := lstL_get _ _ _ h
theorem hgtL_bd (xs : List Int) (n m : Nat) (hn : n ≤ 6) (i : Nat) : 0 ≤ (hgtL xs n m).getD i 0 ∧ (hgtL xs n m).getD i 0 ≤ 11 := by
  by_cases h : i < m
  · rw [hgtL_get _ _ _ _ h]
    have := colN_le xs i n
    unfold hgt
    omega
  · rw [List.getD_eq_getElem?_getD, List.getElem?_eq_none (by rw [hgtL_len]; omega)]
    simp
theorem lstL_snoc (f : Nat → Nat) (k : Nat) : lstL k f ++ [(f k : Int)] = lstL (k + 1) f := by simp [lstL, List.range_succ]

set_option maxRecDepth 100000 in
set_option maxHeartbeats 3200000 in
theorem fiHeights_any (n m : Nat) (xs : List Int) (w : World) (hx : xs.length ≤ 1048576) (hn : n ≤ 6) (hm : m ≤ 6) (hlen : xs.length = n) (hgc : ∀ k, 0 ≤ xs.getD k 0 ∧ xs.getD k 0 < 64) (lo : Nat) (s : Value) (hO : Own w lo s xs) :
    Calls Try.prog 67 #[.agg #[.int .i64 n, .int .i64 m, s]] w fun e w' => ∃ v, e = .returned v ∧ Own w' w.heap.size v (hgtL xs n m) ∧ Below w.heap.size w w' := by
  have L0 := (Law.start w).box (.int .i64 n) (.int .i64 m) s 28
  have HO := Lib.hid hO
  obtain ⟨a, cap, rfl, _⟩ := hO.reads
  have HLEN := Lib.hid hlen
  have HGC := Lib.hid hgc
  have HL0 := Lib.hid (L0.own (Below.refl _ _) (Own.nil _ _))
  clear hO hlen hgc L0
  go_enter Try.func67, Try.ntmps67
  go_upto_region 1 with fail
  generalize w.alloc (.cells #[.int .i64 n, .int .i64 m, .slice a xs.length cap] 28) = w5 at *
  go_wp2_with fail
  go_loopw [3, 4] (fun v i wr => ∃ k : Nat, k ≤ m ∧ i = .int .i64 k ∧ Law w [tOwn v (hgtL xs n k), tBox w.heap.size (.int .i64 n) (.int .i64 m) (.slice a xs.length cap)] wr) (fun _ i _ => m - (intOf i).toNat)
  case atStart => exact ⟨0, Nat.zero_le _, rfl, HL0.out⟩
  case round =>
    clear HL0
    obtain ⟨k, hk, rfl, L⟩ := hrel
    obtain ⟨_, k0, k1, k2, _⟩ := L.tl.ownBox
    by_cases hkm : k < m
    · have hkm' : (k : Int) < m := by omega
      have HL := Lib.hid L
      clear L
      go_wp2_with fail
      clear k0 k1 k2
      go_loopw [5, 6] (fun f j wr => ∃ r : Nat, r ≤ n ∧ j = .int .i64 r ∧ f = .int .i64 (colN xs k r : Nat) ∧ Law w [tOwn u3 (hgtL xs n k), tBox w.heap.size (.int .i64 n) (.int .i64 m) (.slice a xs.length cap)] wr) (fun _ j _ => n - (intOf j).toNat)
      case atStart => exact ⟨0, Nat.zero_le _, rfl, rfl, HL.out⟩
      case round =>
        clear HL
        obtain ⟨r, hrn, rfl, rfl, L⟩ := hrel
        obtain ⟨_, k0, k1, k2, _⟩ := L.tl.ownBox
        have hsucc : colN xs k (r + 1) = colN xs k r + (if (xs.getD r 0).toNat.testBit k then 1 else 0) := rfl
        have hcb := colN_le xs k r
        have HL := Lib.hid L
        clear L
        by_cases hr : r < n
        · have hr' : (r : Int) < n := by omega
          have hO1 := HO.out.kept HL.out.below
          have HBH := Lib.hid (boHas_any n m xs r k wr (by have := HLEN.out; omega) hx (by omega) (HGC.out r) lo _ hO1)
          cases hb1 : (xs.getD r 0).toNat.testBit k
          all_goals
            rw [hb1] at hsucc HBH
            have HX := Lib.hid hsucc
            clear hsucc hb1 hO1
            generalize colN xs k r = z at *
            go_wp2_with fail
            refine HBH.out.mono ?_
            rintro e w2 ⟨rfl, hb⟩
            have HL2 := Lib.hid (HL.out.kept hb)
            clear hb HL k0 k1 k2
            go_wp2_with fail
            go_roundw
            case rel => exact ⟨r + 1, by omega, by go_num, by rw [HX.out]; simp, HL2.out⟩
            case measure => simp [intOf]; omega
        · obtain rfl : r = n := by omega
          have hr' : ¬ (r : Int) < r := by omega
          have HX := Lib.hid (show hgtL xs r k ++ [((colN xs k r : Nat) : Int)] = hgtL xs r (k + 1) from lstL_snoc _ _)
          have hln := hgtL_len xs r k
          have hl2 : (hgtL xs r k).length + 1 ≤ 1048576 := by omega
          clear hsucc hln
          generalize colN xs k r = z at *
          replace HL := Lib.hid (HL.out.kept (below_new (.cells #[.int .i64 (z : Int)] 3)))
          have HC1 := Lib.hid (show (wr.alloc (.cells #[.int .i64 (z : Int)] 3)).cell? ⟨wr.heap.size, 0, none⟩ = some (.int .i64 (z : Int)) by simp)
          go_wp2_with (at_builtin; refine wp_appendI rfl _ _ rfl (z : Int) HL.out wr.heap.size rfl rfl HC1.out hl2 _ HX.out ?_)
          intro g2 cp w3 L3
          have HL3 := Lib.hid L3
          clear L3 HL
          go_wp2_with fail
          go_roundw
          case rel => exact ⟨k + 1, by omega, by go_num, HL3.out⟩
          case measure => simp [intOf]; omega
    · obtain rfl : k = m := by omega
      have hkm' : ¬ (k : Int) < k := by omega
      have HL := Lib.hid L
      clear L
      go_wp2_with fail
      go_ret
      exact ⟨_, rfl, HL.out.ownLo, HL.out.below⟩
end Go.Proofs.Ytakdiiccdkjjcac
