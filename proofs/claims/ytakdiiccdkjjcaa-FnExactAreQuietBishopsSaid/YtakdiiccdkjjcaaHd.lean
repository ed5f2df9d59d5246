/- Rook numbers of rows, in the program: the walk. No condition but the sizes. -/
import Derived.Test.YtakdiiccdkjjcaaHc
namespace Go.Proofs.Ytakdiiccdkjjcaa
open Go.RowKit Go.WideShapes

set_option maxRecDepth 100000 in
set_option maxHeartbeats 12800000 in
theorem numbersOfRows_any (n m : Nat) (xs : List Int) (a : Option Addr) (p : Nat) (w : World) (hlen : xs.length = n) (hn : n ≤ 12) (hm : m ≤ 12) (hgc : ∀ k, k < n → 0 ≤ xs.getD k 0 ∧ xs.getD k 0 < 4096) (hr : Reads w a n xs) :
    Calls Try.prog 120 #[.slice a n p, .int .i64 m] w fun e w' => ∃ g p, e = .returned (.slice (some ⟨g, 0, none⟩) (min n m + 1) p) ∧ Own w' w.heap.size (.slice (some ⟨g, 0, none⟩) (min n m + 1) p) (lstL (min n m + 1) (wR m (bt xs) n 0 0)) ∧ Below w.heap.size w w' := by
  have hN0 := Nat.two_pow_pos m
  have hN1 : 2 ^ m ≤ 2 ^ 12 := Nat.pow_le_pow_right (by omega) hm
  have hpw := pow_wrap m hm
  obtain ⟨N, hN⟩ : ∃ N, N = 2 ^ m := ⟨_, rfl⟩
  rw [← hN] at hN0 hN1 hpw
  have hN4 : N ≤ 4096 := hN1
  have HN := Lib.hid hN
  have hm64 : (m : Int) < 64 := by omega
  have hm00 : (0 : Int) ≤ m := by omega
  have hN9 : (0 : Int) < N := by omega
  have HR := Lib.hid hr
  have HGC := Lib.hid hgc
  have HLE := Lib.hid hlen
  obtain ⟨q, hq⟩ : ∃ q, q = min n m := ⟨_, rfl⟩
  have hql : q ≤ 12 := by omega
  rw [← hq]
  have hmk : ∀ w, (Instr.makeSlice 22 (.int .i64 ((q : Int) + 1)) (.int .i64 ((q : Int) + 1))).run Try.prog w = .ok (.slice (some ⟨w.heap.size, 0, none⟩) (q + 1) (q + 1)) (w.alloc (.cells (madeCells #[.int .i64 0] (q + 1)) 3)) := by
    intro w
    have := run_make_row' (P := Try.prog) 22 3 (.int .i64 0) 8 Try.underlying22 Try.infoI rfl .i64 .i64 (q + 1) (by omega) (by omega) w
    rw [show ((q : Int) + 1) = ((q + 1 : Nat) : Int) by push_cast; rfl]
    exact this
  have HMK := Lib.hid hmk
  have hmkN : ∀ w, (Instr.makeSlice 22 (.int .i64 (wrap64 (2 ^ m))) (.int .i64 (wrap64 (2 ^ m)))).run Try.prog w = .ok (.slice (some ⟨w.heap.size, 0, none⟩) N N) (w.alloc (.cells (madeCells #[.int .i64 0] N) 3)) := by
    intro w
    rw [hpw]
    exact run_make_row' (P := Try.prog) 22 3 (.int .i64 0) 8 Try.underlying22 Try.infoI rfl .i64 .i64 N (by omega) (by omega) w
  have L1 := (Law.start w).own (below_new _) (own_made w N _ w.heap.size rfl (Nat.le_refl _) (by omega))
  have HL1 := Lib.hid L1
  have HQ := Lib.hid hq
  clear hq hmk L1 hr hgc hlen hN hN1 hpw
  go_enter Try.func120, Try.ntmps120
  go_upto_region 2 with fail
  generalize w.alloc (.cells (madeCells #[.int .i64 0] N) 3) = w5 at *
  clear hmkN
  have hOk := HL1.out.ownInts
  have hcz := Own.cell (by rw [List.length_replicate]; exact hOk) 0 (by rw [List.length_replicate]; exact hN0)
  have hfz := Own.free (by rw [List.length_replicate]; exact hOk) 0
  have hS := Law.store (ts := []) HL1.out (by simp) 0 1
  rw [lstL_start m N (bt xs)] at hS
  obtain ⟨g, hgg⟩ : ∃ g, g = w.heap.size := ⟨_, rfl⟩
  rw [← hgg] at hS hcz hfz ⊢
  rw [← hgg] at HL1
  have HG := Lib.hid hgg
  have HS := Lib.hid (show Law w [tOwn (.slice (some ⟨g, 0, none⟩) N N) (lstL N (wS m (bt xs) 0))] (w5.setCell ⟨g, 0, none⟩ (.int .i64 1)) from hS)
  clear hS hOk HL1 hgg
  have hn00 : (n : Int) ≤ 12 := by omega
  go_wp2_with fail
  go_loopw [20] (fun i wr => ∃ r : Nat, r ≤ n ∧ i = .int .i64 r ∧ Law w [tOwn (.slice (some ⟨g, 0, none⟩) N N) (lstL N (wS m (bt xs) r))] wr) (fun i _ => n - (intOf i).toNat)
  case atStart => exact ⟨0, Nat.zero_le _, rfl, HS.out⟩
  case round =>
    clear HS hcz hfz
    obtain ⟨r, hrn0, rfl, L⟩ := hrel
    obtain ⟨wo, rfl⟩ : ∃ wo : World, wo = wr := ⟨_, rfl⟩
    have HL := Lib.hid L
    by_cases hrn : r < n
    · obtain ⟨b1, o1, rfl, hb1, hc1⟩ := reads_row (L.reads HR.out) (by omega)
      have hcr := hc1 r hrn
      have hgr := HGC.out r hrn
      obtain ⟨x, hx⟩ := Int.eq_ofNat_of_zero_le hgr.1
      have hx4 : x < 4096 := by omega
      have hxB : ∀ c, bt xs r c = x.testBit c := fun c => by show (xs.getD r 0).toNat.testBit c = _; rw [hx, Int.toNat_natCast]
      have HXB := Lib.hid hxB
      rw [hx] at hcr
      have hwN : IntKind.i64.wrap ((N : Int) - 1) = ((N - 1 : Nat) : Int) := by rw [show ((N : Int) - 1) = ((N - 1 : Nat) : Int) by omega]; exact IntWalk.i64_in _ (by omega)
      have hwN2 : wrap64 ((N : Int) - 1) = ((N - 1 : Nat) : Int) := by rw [show ((N : Int) - 1) = ((N - 1 : Nat) : Int) by omega]; exact IntWalk.wrap64_in _ (by omega)
      clear hc1 hb1 hx hxB L hgr
      go_wp2_with fail
      go_loopw [8] (fun i wr => HcSet w m N g (bt xs) r i wr) (fun i _ => (intOf i + 1).toNat)
      case atStart =>
        refine .inl ⟨N - 1, by omega, by first | rfl | (congr 1; omega), ?_⟩
        rw [lstL_congr N (midW m (bt xs) r (N - 1 + 1) 0) (wS m (bt xs) r) (fun k hk => midG_start m (bt xs) r (N - 1 + 1) k (by omega))]
        exact HL.out
      case round =>
        clear HL hcr hwN hwN2
        obtain ⟨wo2, rfl⟩ : ∃ wo : World, wo = wr := ⟨_, rfl⟩
        rcases hrel with ⟨s, hs, rfl, L⟩ | ⟨rfl, L⟩
        · have HL := Lib.hid L
          have hs0 : (0 : Int) ≤ s := by omega
          clear L
          go_wp2_with fail
          go_loopw [9] (fun i wr => ∃ c : Nat, c ≤ m ∧ i = .int .i64 c ∧ Law w [tOwn (.slice (some ⟨g, 0, none⟩) N N) (lstL N (midW m (bt xs) r (s + 1) c))] wr) (fun i _ => m - (intOf i).toNat)
          case atStart => exact ⟨0, Nat.zero_le _, rfl, HL.out⟩
          case round =>
            clear HL
            obtain ⟨c, hc, rfl, L⟩ := hrel
            obtain ⟨wo3, rfl⟩ : ∃ wo : World, wo = wr := ⟨_, rfl⟩
            by_cases hcm : c < m
            · have hb1 := bit_on x c hx4
              have hb2 := bit_no s c (by omega)
              have hc64 : (c : Int) < 64 := by omega
              cases hB : x.testBit c
              · rw [lstL_congr N (midW m (bt xs) r (s + 1) c) (midW m (bt xs) r (s + 1) (c + 1)) (fun k hk => (midG_skip m (bt xs) r s c k (.inl (by rw [HXB.out]; exact hB))).symm)] at L
                have HL := Lib.hid L
                rw [hB] at hb1
                clear L hb2 hB
                go_wp2_with fail
                go_roundw
                case rel => exact ⟨c + 1, by omega, by go_num, HL.out⟩
                case measure => simp [intOf]; omega
              · cases ht : s.testBit c
                · rw [hB] at hb1
                  rw [ht] at hb2
                  simp only [Bool.not_false] at hb2
                  have hput := midG_put m (bt xs) r s c hcm (by rw [HXB.out]; exact hB) ht
                  have hself := midG_self m (bt xs) r s c
                  have hxN : s ||| 2 ^ c < N := by rw [HN.out]; exact Nat.or_lt_two_pow (by rw [← HN.out]; exact hs) (Nat.pow_lt_pow_right (by omega) hcm)
                  have ho := L.ownInts
                  have y1 := Own.cell (by rw [lstL_len]; exact ho) (s ||| 2 ^ c) (by rw [lstL_len]; exact hxN)
                  have y2 := Own.cell (by rw [lstL_len]; exact ho) s (by rw [lstL_len]; exact hs)
                  have y3 := Own.free (by rw [lstL_len]; exact ho) (s ||| 2 ^ c)
                  rw [lstL_get N _ _ hxN] at y1
                  rw [lstL_get N _ _ hs, hself] at y2
                  have hS := Law.store (ts := []) L (lstL_len _ _) (s ||| 2 ^ c) ((midW m (bt xs) r (s + 1) c (s ||| 2 ^ c) + wS m (bt xs) r s : Nat) : Int)
                  rw [lstL_set N _ (midW m (bt xs) r (s + 1) (c + 1)) (s ||| 2 ^ c) _ (by rw [hput]) (fun k _ hne => midG_skip m (bt xs) r s c k (.inr (.inr hne)))] at hS
                  have hS' := hS.drew
                  have HS := Lib.hid hS'
                  have hor := or_set s c (by omega) (by omega)
                  have hbd1 := midG_le m hm (bt xs) r (s + 1) c (s ||| 2 ^ c)
                  have hbd2 := wSG_le m hm (bt xs) r s
                  have hp1 : 13 ^ (r + 1) ≤ 23298085122481 := pow13 (r + 1) (by omega)
                  have hp2 := pow13 r (by omega)
                  generalize (s ||| 2 ^ c) = x1 at *
                  generalize midW m (bt xs) r (s + 1) c x1 = y at *
                  generalize wS m (bt xs) r s = z at *
                  have hs1 := add_big y z (by omega) (by omega)
                  have hx0 : (0 : Int) ≤ x1 := by omega
                  have hx1 : (x1 : Int) < N := by omega
                  have hs1' : (s : Int) < N := by omega
                  clear hS hS' L ho hput hself hbd1 hbd2 hp1 hp2 hB ht
                  go_wp2_with fail
                  go_region
                  go_wp2_with fail
                  go_roundw
                  case rel => exact ⟨c + 1, by omega, by go_num, HS.out⟩
                  case measure => simp [intOf]; omega
                · rw [lstL_congr N (midW m (bt xs) r (s + 1) c) (midW m (bt xs) r (s + 1) (c + 1)) (fun k hk => (midG_skip m (bt xs) r s c k (.inr (.inl ht))).symm)] at L
                  rw [hB] at hb1
                  rw [ht] at hb2
                  simp only [Bool.not_true] at hb2
                  have HL := Lib.hid L
                  clear L hB ht
                  go_wp2_with fail
                  go_roundw
                  case rel => exact ⟨c + 1, by omega, by go_num, HL.out⟩
                  case measure => simp [intOf]; omega
            · obtain rfl : c = m := by omega
              have HL := Lib.hid (show Law w [tOwn (.slice (some ⟨g, 0, none⟩) N N) (lstL N (midW c (bt xs) r s 0))] wo3 by
                rw [lstL_congr N (midW c (bt xs) r s 0) (midW c (bt xs) r (s + 1) c) (fun k hk => (midW_next c (bt xs) r s k).symm)]
                exact L)
              clear L
              cases s with
              | zero =>
                go_wp2_with fail
                go_roundw
                case rel => exact .inr ⟨rfl, HL.out⟩
                case measure => simp [intOf]
              | succ s =>
                have hw : IntKind.i64.wrap (((s + 1 : Nat) : Int) - 1) = s := by rw [show ((s + 1 : Nat) : Int) - 1 = s by omega]; exact IntWalk.i64_in _ (by omega)
                go_wp2_with fail
                go_roundw
                case rel => exact .inl ⟨s, by omega, rfl, HL.out⟩
                case measure => simp [intOf]; omega
        · rw [lstL_congr N (midW m (bt xs) r 0 0) (wS m (bt xs) (r + 1)) (fun k hk => midW_end m (bt xs) r k)] at L
          have HL := Lib.hid L
          clear L
          go_wp2_with fail
          go_roundw
          case rel => exact ⟨r + 1, by omega, by go_num, HL.out⟩
          case measure => simp [intOf]; omega
    · have hrn2 : r = n := by omega
      subst hrn2
      clear hrn
      have hmkx : ∀ x : Nat, q = x → ∀ w, (Instr.makeSlice 22 (.int .i64 ((x : Int) + 1)) (.int .i64 ((x : Int) + 1))).run Try.prog w = .ok (.slice (some ⟨w.heap.size, 0, none⟩) (q + 1) (q + 1)) (w.alloc (.cells (madeCells #[.int .i64 0] (q + 1)) 3)) := by
        intro x hx
        subst hx
        exact HMK.out
      have L1 := HL.out.own (below_new _) (own_made wo (q + 1) _ wo.heap.size rfl (Nat.le_refl _) (by omega))
      have HL1 := Lib.hid L1
      clear L1 HL L
      rcases (by have := HQ.out; omega : (m < r ∧ q = m) ∨ (r ≤ m ∧ q = r)) with ⟨h1, h2⟩ | ⟨h1, h2⟩
      all_goals
        have hmk := hmkx _ h2
        clear h2 hmkx
        go_upto_region 16 with fail
        generalize wo.alloc (.cells (madeCells #[.int .i64 0] (q + 1)) 3) = w5 at *
        rw [lstL_zero, lstL_congr (q + 1) (fun _ => 0) (sumG m (bt xs) r 0) (fun _ _ => rfl)] at HL1
        obtain ⟨g1, hgg⟩ : ∃ g1, g1 = wo.heap.size := ⟨_, rfl⟩
        rw [← hgg] at HL1 ⊢
        clear hgg hmk
        go_wp2_with fail
        go_loopw [70] (fun i wr => ∃ k : Nat, k ≤ N ∧ i = .int .i64 k ∧ Law w [tOwn (.slice (some ⟨g1, 0, none⟩) (q + 1) (q + 1)) (lstL (q + 1) (sumG m (bt xs) r k)), tOwn (.slice (some ⟨g, 0, none⟩) N N) (lstL N (wS m (bt xs) r))] wr) (fun i _ => N - (intOf i).toNat)
        case atStart => exact ⟨0, Nat.zero_le _, rfl, HL1.out⟩
        case round =>
          clear HL1
          obtain ⟨k, hk, rfl, L⟩ := hrel
          by_cases hlt : k < N
          · have o2 := L.tl.ownInts
            have ix := Own.cell (by rw [lstL_len]; exact o2) k (by rw [lstL_len]; exact hlt)
            rw [lstL_get N _ _ hlt] at ix
            have hoff := wSG_off m (bt xs) r k
            have hbd := wSG_le m hm (bt xs) r k
            have hp7 := pow13 r hn
            by_cases hx0 : wS m (bt xs) r k = 0
            · rw [hx0, show ((0 : Nat) : Int) = 0 from rfl] at ix
              rw [lstL_congr (q + 1) (sumG m (bt xs) r k) (sumG m (bt xs) r (k + 1)) (fun j _ => by rw [sumG_succ, hx0]; split <;> rfl)] at L
              have HL := Lib.hid L
              clear L hx0 hoff hbd hp7 o2
              go_wp2_with fail
              go_roundw
              case rel => exact ⟨k + 1, by omega, by go_num, HL.out⟩
              case measure => simp [intOf]; omega
            · obtain ⟨hc1, hc2⟩ := hoff hx0
              have hc3 := cntG_le m k
              have hcq : cntG m k < q + 1 := by have := HQ.out; omega
              have hcs := sumG_le m hm (bt xs) r hn k (cntG m k)
              have o1 := L.ownInts
              have y1 := Own.cell (by rw [lstL_len]; exact o1) (cntG m k) (by rw [lstL_len]; exact hcq)
              have y2 := Own.free (by rw [lstL_len]; exact o1) (cntG m k)
              rw [lstL_get _ _ _ hcq] at y1
              have hS := Law.store (ts := []) L (lstL_len _ _) (cntG m k) ((sumG m (bt xs) r k (cntG m k) + wS m (bt xs) r k : Nat) : Int)
              rw [lstL_set (q + 1) _ (sumG m (bt xs) r (k + 1)) (cntG m k) _ (by rw [sumG_succ, if_pos rfl]) (fun j _ hj => by rw [sumG_succ, if_neg (fun e => hj e.symm)]; rfl)] at hS
              have HS := Lib.hid hS
              have hpo : cntG 12 k = cntG m k := by
                have := cntG_more m k hc2 (12 - m)
                rwa [show m + (12 - m) = 12 by omega] at this
              have HO := Lib.hid (fun W => onesG_any k W (by omega))
              rw [hpo] at HO
              clear hpo
              generalize sumG m (bt xs) r k (cntG m k) = y at *
              generalize wS m (bt xs) r k = x at *
              generalize cntG m k = j at *
              have hs1 := add_big y x (Nat.le_trans hcs (by omega)) (by omega)
              have hxp : 0 < (x : Int) := by omega
              have hk0 : (0 : Int) ≤ k := by omega
              have hk1 : (k : Int) < N := by omega
              have hjq : (j : Int) < (q : Int) + 1 := by omega
              clear L hS o1 o2 hx0 hoff hbd hp7 hc1 hc2 hc3 hcs
              go_wp2_with fail
              refine (HO.out _).mono ?_
              rintro e w' ⟨rfl, rfl⟩
              go_wp2_with fail
              go_roundw
              case rel => exact ⟨k + 1, by omega, by go_num, HS.out⟩
              case measure => simp [intOf]; omega
          · obtain rfl : k = N := by omega
            rw [HN.out, lstL_congr (q + 1) (sumG m (bt xs) r (2 ^ m)) (wR m (bt xs) r 0 0) (fun j _ => setsG_sum m (bt xs) r j)] at L
            have HL := Lib.hid L
            clear L
            go_wp2_with fail
            go_ret
            exact ⟨_, _, rfl, HL.out.ownLo, HL.out.below⟩
end Go.Proofs.Ytakdiiccdkjjcaa
