/- Sides of lengths, in both texts. No condition but the sizes. -/
import Derived.Test.YthkghbnmdebhpaaFs
import Derived.Test.YthkghbnmdebhpaaFn
import Derived.Test.YthkghbnmdebhpaaAp
namespace Go.Proofs.Ythkghbnmdebhpaa
open Go.RowKit Go.WideShapes

def sideR (xs : List Int) : LR := if lenB xs then ⟨sideL xs, true⟩ else ⟨[], false⟩
theorem sideR_len (xs : List Int) : (sideR xs).ys.length ≤ 1048576 := by
  unfold sideR
  split
  · rename_i h
    have := len_facts h
    show (sideL xs).length ≤ _
    rw [sideL, lstI_len]
    omega
  · simp

set_option maxRecDepth 100000 in
set_option maxHeartbeats 1600000 in
theorem specSide_any (xs : List Int) (w : World) (hx : xs.length ≤ 1048576) (lo : Nat) (s : Value) (hO : Own w lo s xs) :
    Calls Try.prog 46 #[s] w fun e w' => AnsL (sideR xs) w e w' := by
  obtain ⟨a, p, rfl, hr⟩ := hO.reads
  clear hO
  cases hg : lenB xs
  · rw [show sideR xs = ⟨[], false⟩ by simp [sideR, hg]]
    have HC := Lib.hid (at_boolB (feGood_any a p xs w hx hr) hg)
    clear hg
    go_enter Try.func46, Try.ntmps46
    go_wp2_with fail
    refine HC.out.mono ?_
    rintro e w2 ⟨rfl, hb⟩
    go_wp2_with fail
    go_ret2
    exact ⟨_, rfl, Own.nil _ _, hb⟩
  · rw [show sideR xs = ⟨sideL xs, true⟩ by simp [sideR, hg]]
    obtain ⟨l1, l2, l3, _⟩ := len_facts hg
    have HC := Lib.hid (at_boolB (feGood_any a p xs w hx hr) hg)
    clear hg
    obtain ⟨n, hn⟩ : ∃ n, n = xs.length := ⟨_, rfl⟩
    rw [show sideL xs = lstI n (fun i => sideN xs ((n : Int) - 1 - i) n) by rw [hn]; rfl]
    rw [← hn] at l1 l2 hr HC ⊢
    have hk4 : IntKind.i64.wrap ((n : Int) - 1) = (n : Int) - 1 := IntWalk.i64_in _ (by omega)
    clear hn
    go_enter Try.func46, Try.ntmps46
    go_wp2_with fail
    refine HC.out.mono ?_
    rintro e w2 ⟨rfl, hb⟩
    have HB := Lib.hid hb
    clear hb HC
    go_wp2_with fail
    go_loopw [4, 6] (fun o i wr => ∃ k : Nat, k ≤ n ∧ i = .int .i64 k ∧ Law w [tOwn o (lstI k (fun i => sideN xs ((n : Int) - 1 - i) n))] wr) (fun _ i _ => n - (intOf i).toNat)
    case atStart => exact ⟨0, Nat.zero_le _, rfl, by simpa [lstI] using (Law.start w).own HB.out (Own.nil w2 _)⟩
    case round =>
      obtain ⟨k, hk, rfl, L⟩ := hrel
      obtain ⟨wo, rfl⟩ : ∃ wo : World, wo = wr := ⟨_, rfl⟩
      by_cases hlt : k < n
      · have hr2 := L.reads hr
        obtain ⟨t, ht⟩ : ∃ t, t = (n : Int) - 1 - k := ⟨_, rfl⟩
        have hk5 : IntKind.i64.wrap ((n : Int) - 1 - k) = t := by rw [ht]; exact IntWalk.i64_in _ (by omega)
        have hsn := lstI_snoc k (fun i => sideN xs ((n : Int) - 1 - i) n)
        simp only [← ht] at hsn
        have HL := Lib.hid L
        have HS := Lib.hid hsn
        clear L hsn
        go_wp2_with fail
        go_loop [7, 22] (fun c i => ∃ j : Nat, j ≤ n ∧ i = .int .i64 j ∧ c = .int .i64 (sideN xs t j)) (fun _ i => n - (intOf i).toNat)
        case atStart => exact ⟨0, Nat.zero_le _, rfl, rfl⟩
        case round =>
          obtain ⟨j, hj, rfl, rfl⟩ := hrel
          by_cases hjn : j < n
          · obtain ⟨b, off, rfl, hbl, hc⟩ := reads_row hr2 (by omega)
            have hcj := hc j hjn
            have hbd := sideN_bd xs t j
            have hno := sideN_no xs t j
            have hyes := sideN_yes xs t j
            have hw1 : IntKind.i64.wrap (sideN xs t j + 1) = sideN xs t j + 1 := IntWalk.i64_in _ (by omega)
            clear hc hbl
            generalize xs.getD j 0 = y at *
            generalize sideN xs t j = z at *
            by_cases hty : t < y
            · have HE := Lib.hid (hyes hty)
              clear hno hyes hbd ht
              go_wp2_with fail
              go_round
              case rel => exact ⟨j + 1, by omega, by go_num, by rw [HE.out]⟩
              case measure => simp [intOf]; omega
            · have HE := Lib.hid (hno hty)
              clear hno hyes hbd ht
              go_wp2_with fail
              go_round
              case rel => exact ⟨j + 1, by omega, by go_num, by rw [HE.out]⟩
              case measure => simp [intOf]; omega
          · obtain rfl : j = n := by omega
            obtain ⟨z, hz⟩ : ∃ z, z = sideN xs t j := ⟨_, rfl⟩
            have hl : (lstI k (fun i => sideN xs ((j : Int) - 1 - i) j)).length = k := lstI_len _ _
            have L2 := HL.out.kept (below_new (.cells #[.int .i64 z] 3))
            have HL2 := Lib.hid L2
            have HX := Lib.hid (show (wo.alloc (.cells #[.int .i64 z] 3)).cell? ⟨wo.heap.size, 0, none⟩ = some (.int .i64 z) by rw [World.cell?_alloc_at _ _ _ _ rfl]; rfl)
            rw [← hz] at HS ⊢
            have HK := Lib.hid hl
            clear L2 HL hl hz ht
            go_wp2_with (at_builtin; refine wp_appendI rfl _ _ rfl z HL2.out wo.heap.size rfl rfl HX.out (by rw [HK.out]; omega) _ HS.out ?_)
            intro g1 cap1 w3 L3
            have HL3 := Lib.hid L3
            clear L3 HL2 HX
            go_wp2_with fail
            go_roundw
            case rel => exact ⟨k + 1, by omega, by go_num, HL3.out⟩
            case measure => simp [intOf]; omega
      · obtain rfl : k = n := by omega
        have HL := Lib.hid L
        clear L
        go_wp2_with fail
        go_ret2
        exact ⟨_, rfl, HL.out.ownLo, HL.out.below⟩

/-- The program's list: i numbers done, j rounds in the next one. -/
def sideM (xs : List Int) (n i j q : Nat) : Int := if q < i then sideN xs ((n : Int) - 1 - q) n else if q = i then sideN xs ((n : Int) - 1 - i) j else 0
theorem sideM_next (xs : List Int) (n i q : Nat) : sideM xs n i n q = sideM xs n (i + 1) 0 q := by
  unfold sideM
  by_cases h1 : q < i
  · rw [if_pos h1, if_pos (by omega)]
  · rw [if_neg h1]
    by_cases h2 : q = i
    · rw [if_pos h2, if_pos (by omega), h2]
    · rw [if_neg h2, if_neg (by omega)]
      by_cases h3 : q = i + 1
      · rw [if_pos h3]; rfl
      · rw [if_neg h3]
theorem sideM_zero (xs : List Int) (n q : Nat) : sideM xs n 0 0 q = 0 := by
  unfold sideM
  rw [if_neg (by omega)]
  split <;> rfl
theorem sideM_at (xs : List Int) (n i j : Nat) : sideM xs n i j i = sideN xs ((n : Int) - 1 - i) j := by
  unfold sideM
  rw [if_neg (by omega), if_pos rfl]
theorem sideM_ne (xs : List Int) (n i j j' q : Nat) (h : q ≠ i) : sideM xs n i j q = sideM xs n i j' q := by
  unfold sideM
  rw [if_neg h, if_neg h]
theorem sideM_full (xs : List Int) (n q : Nat) (h : q < n) : sideM xs n n 0 q = sideN xs ((n : Int) - 1 - q) n := by
  unfold sideM
  rw [if_pos h]

set_option maxRecDepth 100000 in
set_option maxHeartbeats 3200000 in
theorem implSide_any (xs : List Int) (w : World) (hx : xs.length ≤ 1048576) (lo : Nat) (s : Value) (hO : Own w lo s xs) :
    Calls Try.prog 47 #[s] w fun e w' => AnsL (sideR xs) w e w' := by
  obtain ⟨a, p, rfl, hr⟩ := hO.reads
  clear hO
  cases hg : lenB xs
  · rw [show sideR xs = ⟨[], false⟩ by simp [sideR, hg]]
    have HC := Lib.hid (lengthsOf_no a p xs w hx hr hg)
    clear hg
    go_enter Try.func47, Try.ntmps47
    go_wp2_with fail
    refine HC.out.mono ?_
    rintro e w2 ⟨rfl, hb⟩
    go_wp2_with fail
    go_ret2
    exact ⟨_, rfl, Own.nil _ _, below_on hb (below_new _)⟩
  · rw [show sideR xs = ⟨sideL xs, true⟩ by simp [sideR, hg]]
    obtain ⟨l1, l2, _⟩ := len_facts hg
    have hc := lengthsOf_yes a p xs w hx hr hg
    clear hg hr
    obtain ⟨n, hn⟩ : ∃ n, n = xs.length := ⟨_, rfl⟩
    rw [show sideL xs = lstI n (fun i => sideN xs ((n : Int) - 1 - i) n) by rw [hn]; rfl]
    rw [← hn] at l1 l2 hc ⊢
    have hk4 : IntKind.i64.wrap ((n : Int) - 1) = (n : Int) - 1 := IntWalk.i64_in _ (by omega)
    have hmk := run_make_row' (P := Try.prog) 22 3 (.int .i64 0) 8 Try.underlying22 Try.infoI rfl .i64 .i64 n (by omega) (by omega)
    obtain ⟨M, hM⟩ : ∃ M : Nat → Int, M = fun k => xs.getD k 0 := ⟨_, rfl⟩
    rw [← hM] at hc
    have HC := Lib.hid hc
    have HM := Lib.hid hM
    clear hn hM hc
    go_enter Try.func47, Try.ntmps47
    go_wp2_with fail
    refine HC.out.mono ?_
    rintro e w2 ⟨rfl, hb⟩
    have L2 := ((Law.start w).kept hb).has (sl n M) 49
    rw [show w2.alloc (.cells (sl n M).toArray 49) = w2.alloc (.cells #[.int .i64 n, .int .i64 (M 0), .int .i64 (M 1), .int .i64 (M 2), .int .i64 (M 3), .int .i64 (M 4), .int .i64 (M 5)] 49) from rfl] at L2
    have HL2 := Lib.hid L2
    clear hb L2 HC
    go_upto_region 2 with fail
    generalize w2.alloc _ = w5 at *
    obtain ⟨b, hbb⟩ : ∃ b, b = w2.heap.size := ⟨_, rfl⟩
    rw [← hbb] at HL2 ⊢
    clear hbb
    have ⟨e0, _⟩ := HL2.out.ownHas.seven
    go_upto_region 5 with fail
    have L3 := HL2.out.own (below_new _) (own_made w5 n _ w5.heap.size rfl (Nat.le_refl _) (by omega))
    rw [lstI_zero, lstI_congr n (fun _ => 0) (sideM xs n 0 0) (fun k _ => (sideM_zero xs n k).symm)] at L3
    have HL3 := Lib.hid L3
    clear e0 L3 HL2
    generalize w5.alloc (.cells (madeCells #[.int .i64 0] n) 3) = w6 at *
    obtain ⟨g, hgg⟩ : ∃ g, g = w5.heap.size := ⟨_, rfl⟩
    rw [← hgg] at HL3 ⊢
    clear hgg hmk
    have ⟨e0, _⟩ := HL3.out.tl.ownHas.seven
    go_wp2_with fail
    clear e0
    go_loopw [21] (fun i wr => ∃ k : Nat, k ≤ n ∧ i = .int .i64 k ∧ Law w [tOwn (.slice (some ⟨g, 0, none⟩) n n) (lstI n (sideM xs n k 0)), tHas b (sl n M) 49] wr) (fun i _ => n - (intOf i).toNat)
    case atStart => exact ⟨0, Nat.zero_le _, rfl, HL3.out⟩
    case round =>
      clear HL3
      obtain ⟨k, hk, rfl, L⟩ := hrel
      obtain ⟨wo, rfl⟩ : ∃ wo : World, wo = wr := ⟨_, rfl⟩
      have ⟨e0, _⟩ := L.tl.ownHas.seven
      by_cases hlt : k < n
      · obtain ⟨t, ht⟩ : ∃ t, t = (n : Int) - 1 - k := ⟨_, rfl⟩
        have hk5 : IntKind.i64.wrap ((n : Int) - 1 - k) = t := by rw [ht]; exact IntWalk.i64_in _ (by omega)
        have HL := Lib.hid L
        have HT := Lib.hid ht
        clear L ht
        go_wp2_with fail
        go_loopw [26] (fun i wr => ∃ j : Nat, j ≤ n ∧ i = .int .i64 j ∧ Law w [tOwn (.slice (some ⟨g, 0, none⟩) n n) (lstI n (sideM xs n k j)), tHas b (sl n M) 49] wr) (fun i _ => n - (intOf i).toNat)
        case atStart => exact ⟨0, Nat.zero_le _, rfl, HL.out⟩
        case round =>
          clear HL e0
          obtain ⟨j, hj, rfl, L⟩ := hrel
          obtain ⟨e0, e1, e2, e3, e4, e5, e6, ef⟩ := L.tl.ownHas.seven
          by_cases hjn : j < n
          · have hcx := L.tl.ownHas.cell (1 + j)
            rw [sl_get _ _ j (by omega), show M j = xs.getD j 0 by rw [HM.out]] at hcx
            have o := L.ownInts
            have c1 := Own.cell (by rw [lstI_len]; exact o) k (by rw [lstI_len]; exact hlt)
            have c2 := Own.free (by rw [lstI_len]; exact o) k
            rw [lstI_get _ _ k hlt, sideM_at, ← HT.out] at c1
            have hbd := sideN_bd xs t j
            have hno := sideN_no xs t j
            have hyes := sideN_yes xs t j
            have hw1 : IntKind.i64.wrap (sideN xs t j + 1) = sideN xs t j + 1 := IntWalk.i64_in _ (by omega)
            by_cases hty : t < xs.getD j 0
            · have HS := Lib.hid (show ∀ m, Law w [tOwn (.slice (some ⟨g, 0, none⟩) n n) (lstI n (sideM xs n k (j + 1))), tHas b (sl n M) 49] ((wr.drewN m).setCell ⟨g, k, none⟩ (.int .i64 (sideN xs t j + 1))) from fun m => by
                have hS := Law.store (ts := []) (L.kept (below_drewN (Below.refl _ _) m)) (lstI_len _ _) k (sideN xs t j + 1)
                rw [lstI_set n _ (sideM xs n k (j + 1)) k _ (by rw [sideM_at, ← HT.out, hyes hty]) (fun q _ hq => sideM_ne xs n k _ _ q hq)] at hS
                exact hS)
              have hty2 : (n : Int) - 1 - k < xs.getD j 0 := by have := HT.out; omega
              generalize xs.getD j 0 = y at *
              generalize sideN xs t j = z at *
              clear hno hyes hbd L o
              go_wp2_with fail
              go_quiet (fail)
              go_wp2_with fail
              go_roundw
              case rel => exact ⟨j + 1, by omega, by go_num, HS.out _⟩
              case measure => simp [intOf]; omega
            · rw [lstI_congr n (sideM xs n k j) (sideM xs n k (j + 1)) (fun q hq => by
                by_cases e : q = k
                · rw [e, sideM_at, sideM_at, ← HT.out, hno hty]
                · exact sideM_ne xs n k _ _ q e)] at L
              have HL := Lib.hid L
              have hty2 : ¬ (n : Int) - 1 - k < xs.getD j 0 := by have := HT.out; omega
              generalize xs.getD j 0 = y at *
              generalize sideN xs t j = z at *
              clear hno hyes hbd L o
              go_wp2_with fail
              go_quiet (fail)
              go_wp2_with fail
              go_roundw
              case rel => exact ⟨j + 1, by omega, by go_num, HL.out.kept (below_drewN (Below.refl _ _) _)⟩
              case measure => simp [intOf]; omega
          · obtain rfl : j = n := by omega
            rw [lstI_congr j (sideM xs j k j) (sideM xs j (k + 1) 0) (fun q _ => sideM_next xs j k q)] at L
            have HL := Lib.hid L
            clear L
            go_wp2_with fail
            go_roundw
            case rel => exact ⟨k + 1, by omega, by go_num, HL.out⟩
            case measure => simp [intOf]; omega
      · obtain rfl : k = n := by omega
        rw [lstI_congr k (sideM xs k k 0) (fun i => sideN xs ((k : Int) - 1 - i) k) (fun q hq => sideM_full xs k q hq)] at L
        have HL := Lib.hid L
        clear L
        go_wp2_with fail
        go_ret2
        exact ⟨_, rfl, HL.out.ownLo, HL.out.below⟩
end Go.Proofs.Ythkghbnmdebhpaa
