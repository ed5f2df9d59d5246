import Derived.Test.YtakdiiccdkjjcacFold13
namespace Go.Proofs.Ytakdiiccdkjjcac
open Go.RowKit Go.WideShapes

def cntB (r c : Int) (xs : List Int) : LR := if goodB r c xs then ⟨cntL xs r.toNat, true⟩ else ⟨[], false⟩
theorem cntL_len (xs : List Int) (n : Nat) (h : n ≤ 6) : (cntL xs n).length = n := by simp [cntL]; omega
theorem cntB_len (r c : Int) (xs : List Int) : (cntB r c xs).ys.length ≤ 1048576 := by
  unfold cntB
  split
  · rename_i h
    have := good_facts h
    show (cntL xs r.toNat).length ≤ _
    rw [cntL_len _ _ (by omega)]
    omega
  · simp


theorem pop_list (M : Nat → Int) (xs : List Int) (n k : Nat) (hn : n ≤ 6) (hM : ∀ k, M k = xs.getD k 0) (hk : k < n) : (over (cntL xs n) (List.replicate n 0) k).set k (pop (M k)) = over (cntL xs n) (List.replicate n 0) (k + 1) := by
  refine over_set _ _ k n (cntL_len xs n hn) (by simp) hk _ ?_
  rw [hM]
  have := cells_n n (fun k => pop (xs.getD k 0)) (cntL xs n) (cntL_len xs n hn) hn
  unfold cntL
  have h6 : ([0, 1, 2, 3, 4, 5] : List Nat)[k]? = some k := by
    have : k = 0 ∨ k = 1 ∨ k = 2 ∨ k = 3 ∨ k = 4 ∨ k = 5 := by omega
    rcases this with rfl | rfl | rfl | rfl | rfl | rfl <;> rfl
  rw [List.getD_eq_getElem?_getD, List.getElem?_map, List.getElem?_take, if_pos hk, h6]
  rfl

set_option maxRecDepth 100000 in
set_option maxHeartbeats 6400000 in
theorem implRowCounts_any (r c : Int) (xs : List Int) (w : World) (hx : xs.length ≤ 1048576) (lo : Nat) (s : Value) (hO : Own w lo s xs) :
    Calls Try.prog 128 #[.agg #[.int .i64 r, .int .i64 c, s]] w fun e w' => AnsL (cntB r c xs) w e w' := by
  have L0 := (Law.start w).box (.int .i64 r) (.int .i64 c) s 28
  obtain ⟨a, cap, rfl, hr⟩ := hO.reads
  have hr0 := L0.reads hr
  clear hO
  cases hg : goodB r c xs
  · rw [show cntB r c xs = ⟨[], false⟩ by simp [cntB, hg]]
    go_enter Try.func128, Try.ntmps128
    go_wp2_with fail
    refine (gridOf_no r c a cap xs _ hx hr0 hg).mono ?_
    rintro e w1 ⟨rfl, hb⟩
    have HB := Lib.hid ((L0.kept hb).kept (below_new (.cells #[.int .i64 0, .int .i64 0, .int .i64 0, .int .i64 0, .int .i64 0, .int .i64 0, .int .i64 0, .int .i64 0] 83))).below
    clear L0 hb hg hr0
    go_wp2_with fail
    go_ret2
    exact ⟨_, rfl, Own.nil _ _, HB.out⟩
  · have hgc := good_cell hg
    obtain ⟨⟨g1l, g1h⟩, ⟨g2l, g2h⟩, _, _⟩ := good_facts hg
    obtain ⟨n, rfl⟩ := Int.eq_ofNat_of_zero_le (show 0 ≤ r by omega)
    obtain ⟨m, rfl⟩ := Int.eq_ofNat_of_zero_le (show 0 ≤ c by omega)
    rw [show cntB n m xs = ⟨cntL xs n, true⟩ by simp [cntB, hg]]
    have hmk := run_make_row' (P := Try.prog) 22 3 (.int .i64 0) 8 Try.underlying22 Try.infoI rfl .i64 .i64 n (by omega) (by omega)
    obtain ⟨M, hM, hc⟩ := gridOf_good n m a cap xs _ hx hr0 hg
    have HC := Lib.hid hc; clear hc
    simp only [← hM] at hgc
    have HP := Lib.hid (fun k (hk : k < n) => pop_list M xs n k (by omega) hM hk)
    have HZ := Lib.hid (cntL_len xs n (by omega))
    have HGC := Lib.hid hgc
    clear hM hg hr0 hgc
    go_enter Try.func128, Try.ntmps128
    go_wp2_with fail
    refine HC.out.mono ?_
    rintro e w1 ⟨rfl, hb⟩
    have L1 := (L0.kept hb).has (gl n m M) 83
    rw [show w1.alloc (.cells (gl n m M).toArray 83) = w1.alloc (.cells #[.int .i64 n, .int .i64 m, .int .i64 (M 0), .int .i64 (M 1), .int .i64 (M 2), .int .i64 (M 3), .int .i64 (M 4), .int .i64 (M 5)] 83) from rfl] at L1
    have HL := Lib.hid L1
    clear L0 hb HC L1
    go_upto_region 4 with fail
    generalize w1.alloc (.cells #[.int .i64 n, .int .i64 m, .int .i64 (M 0), .int .i64 (M 1), .int .i64 (M 2), .int .i64 (M 3), .int .i64 (M 4), .int .i64 (M 5)] 83) = w5 at *
    have ⟨e0, _⟩ := HL.out.ownHas.eight
    have L2 := HL.out.own' (below_new _) (own_made w5 n _ w5.heap.size rfl (Nat.le_refl _) (by omega)) (over_zero (cntL xs n) (List.replicate n 0))
    have HL2 := Lib.hid L2
    clear L2 HL
    go_wp2_with fail
    clear e0
    go_loopw [20] (fun i wr => ∃ k : Nat, k ≤ n ∧ i = .int .i64 k ∧ Law w [tOwn (.slice (some ⟨w5.heap.size, 0, none⟩) n n) (over (cntL xs n) (List.replicate n 0) k), tHas w1.heap.size (gl n m M) 83, tBox w.heap.size (.int .i64 n) (.int .i64 m) (.slice a xs.length cap)] wr) (fun i _ => n - (intOf i).toNat)
    case atStart => exact ⟨0, Nat.zero_le _, rfl, HL2.out⟩
    case round =>
      clear HL2
      obtain ⟨k, hk, rfl, L⟩ := hrel
      by_cases hlt : k < n
      · have hcx := L.tl.ownHas.cell (2 + k)
        rw [gl_get _ _ _ k (by omega)] at hcx
        obtain ⟨h0, h1⟩ := HGC.out k
        obtain ⟨y, hy⟩ := Int.eq_ofNat_of_zero_le h0
        have hol := over_len (cntL xs n) (List.replicate n 0) k n HZ.out (by simp) hk
        have hOk := L.ownInts
        have hcz := Own.cell (by rw [hol]; exact hOk) k (by omega)
        have hfz := Own.free (by rw [hol]; exact hOk) k
        have hS := Law.store (ts := []) L hol k (pop (M k))
        rw [HP.out k hlt, hy] at hS
        have HS := Lib.hid hS
        rw [hy] at hcx h1
        have hyl : y < 64 := by omega
        have hkn : (k : Int) < n := by omega
        generalize (over (cntL xs n) (List.replicate n 0) k).getD k 0 = z at *
        clear L hS hOk hol hy h0
        go_wp2_with fail
        refine (ones_any y _ hyl).mono ?_
        rintro e w' ⟨rfl, rfl⟩
        generalize pop y = q at *
        go_wp2_with fail
        go_roundw
        case rel => exact ⟨k + 1, by omega, by go_num, HS.out⟩
        case measure => simp [intOf]; omega
      · obtain rfl : k = n := by omega
        have HF := Lib.hid (show Own wr w.heap.size (.slice (some ⟨w5.heap.size, 0, none⟩) k k) (cntL xs k) by
          have := L.ownLo
          rw [over_full _ _ k HZ.out (by simp)] at this
          exact this)
        have HB := Lib.hid L.below
        clear L
        go_wp2_with fail
        go_ret2
        exact ⟨_, rfl, HF.out, HB.out⟩

end Go.Proofs.Ytakdiiccdkjjcac
