/- Rook numbers, in the program. No condition but the sizes. -/
import Derived.Test.YthkghbnmdebhpabRc
import Derived.Test.YthkghbnmdebhpabI
import Derived.Test.YthkghbnmdebhpabRw
namespace Go.Proofs.Ythkghbnmdebhpab
open Go.RowKit Go.WideShapes

theorem ix64 (cs : List Value) (k : Nat) (hk : k < 64) (v : Value) (hc : cs[k]? = some v) (W : World) : (Instr.index 103 (.agg cs.toArray) (.int .i64 k)).run Try.prog W = .ok v W := by
  simp [Instr.index, run_underlying Try.underlying103, asIntOf, go_sem, hk, hc]
/-- The cells of an array of numbers. -/
def cW (L : Nat) (g : Nat → Nat) : List Value := (lstL L g).map (Value.int .i64)
theorem cW_get (L : Nat) (g : Nat → Nat) (k : Nat) (h : k < L) : (cW L g)[k]? = some (.int .i64 (g k : Int)) := by simp [cW, lstL, h]
theorem cW_congr (L : Nat) (g g' : Nat → Nat) (h : ∀ k, k < L → g k = g' k) : cW L g = cW L g' := by unfold cW; rw [lstL_congr L g g' h]
theorem cW_set (L : Nat) (g g' : Nat → Nat) (i : Nat) (x : Int) (hx : (g' i : Int) = x) (ho : ∀ k, k < L → k ≠ i → g' k = g k) : (cW L g).set i (.int .i64 x) = cW L g' := by
  unfold cW
  rw [← List.map_set, lstL_set L g g' i x hx ho]
abbrev start64 : Array Value := #[.int .i64 1, .int .i64 0, .int .i64 0, .int .i64 0, .int .i64 0, .int .i64 0, .int .i64 0, .int .i64 0, .int .i64 0, .int .i64 0, .int .i64 0, .int .i64 0, .int .i64 0, .int .i64 0, .int .i64 0, .int .i64 0, .int .i64 0, .int .i64 0, .int .i64 0, .int .i64 0, .int .i64 0, .int .i64 0, .int .i64 0, .int .i64 0, .int .i64 0, .int .i64 0, .int .i64 0, .int .i64 0, .int .i64 0, .int .i64 0, .int .i64 0, .int .i64 0, .int .i64 0, .int .i64 0, .int .i64 0, .int .i64 0, .int .i64 0, .int .i64 0, .int .i64 0, .int .i64 0, .int .i64 0, .int .i64 0, .int .i64 0, .int .i64 0, .int .i64 0, .int .i64 0, .int .i64 0, .int .i64 0, .int .i64 0, .int .i64 0, .int .i64 0, .int .i64 0, .int .i64 0, .int .i64 0, .int .i64 0, .int .i64 0, .int .i64 0, .int .i64 0, .int .i64 0, .int .i64 0, .int .i64 0, .int .i64 0, .int .i64 0, .int .i64 0]
theorem start64_eq (m : Nat) (B : Nat → Nat → Bool) : (cW 64 (wS m B 0)).toArray = start64 := by kernel_rfl

theorem bit_off (s c : Nat) (hs : s < 64) (hc : c < 6) : (bits .and .i64 ((s : Int) / 2 ^ c) 1 == 0) = !s.testBit c := by
  have key : ∀ t : Fin 64, ∀ c : Fin 6, (bits .and .i64 (((t : Nat) : Int) / 2 ^ (c : Nat)) 1 == 0) = !(t : Nat).testBit c := by decide +kernel
  exact key ⟨s, hs⟩ ⟨c, hc⟩

/-- A grid's cells, as a test. -/
abbrev bM (M : Nat → Int) (a b : Nat) : Bool := (M a).toNat.testBit b

/-- Sets of j columns among the first k sets, summed up. -/
def sumS (m : Nat) (B : Nat → Nat → Bool) (r k j : Nat) : Nat := sumN (fun s => if cnt6 s = j then wS m B r s else 0) k
theorem sumS_succ (m : Nat) (B : Nat → Nat → Bool) (r k j : Nat) : sumS m B r (k + 1) j = sumS m B r k j + if cnt6 k = j then wS m B r k else 0 := rfl
theorem sumS_le (m : Nat) (hm : m ≤ 6) (B : Nat → Nat → Bool) (r : Nat) (hr : r ≤ 6) (k j : Nat) : sumS m B r k j ≤ k * 117649 :=
  sumN_le _ _ _ (fun s _ => by
    show (if _ then _ else _) ≤ _
    split
    · exact Nat.le_trans (wS_le m hm B r s) (pow7 r hr)
    · omega)
theorem pop_cnt (k : Nat) : pop k = (cnt6 k : Int) := by simp [pop, cnt6]

/-- The head of the loop over sets. -/
def RdSet (w : World) (n m : Nat) (M : Nat → Int) (r : Nat) (i : Value) (wr : World) : Prop :=
  (∃ s : Nat, s < 64 ∧ i = .int .i64 s ∧ Law w [tHas (w.heap.size + 1) (cW 64 (midW m (bM M) r (s + 1) 0)) 103, tHas w.heap.size (gl n m M) 58] wr) ∨
  (i = .int .i64 (-1) ∧ Law w [tHas (w.heap.size + 1) (cW 64 (midW m (bM M) r 0 0)) 103, tHas w.heap.size (gl n m M) 58] wr)

set_option maxRecDepth 100000 in
set_option maxHeartbeats 12800000 in
theorem rookNumbers_any (n m : Nat) (M : Nat → Int) (w : World) (hn : n ≤ 6) (hm : m ≤ 6) (hgc : ∀ k, k < 6 → 0 ≤ M k ∧ M k < 64) :
    Calls Try.prog 87 #[gv n m M] w fun e w' => ∃ g p, e = .returned (.slice (some ⟨g, 0, none⟩) (min n m + 1) p) ∧ Own w' w.heap.size (.slice (some ⟨g, 0, none⟩) (min n m + 1) p) (lstL (min n m + 1) (wR m (bM M) n 0 0)) ∧ Below w.heap.size w w' := by
  have L0 := ((Law.start w).has (gl n m M) 58).has (cW 64 (wS m (bM M) 0)) 103
  rw [start64_eq] at L0
  simp only [World.size_alloc] at L0
  have HL0 := Lib.hid L0
  clear L0
  have HGC := Lib.hid hgc
  clear hgc
  obtain ⟨q, hq⟩ : ∃ q, q = min n m := ⟨_, rfl⟩
  have hql : q ≤ 6 := by omega
  rw [← hq]
  have hmk : ∀ w, (Instr.makeSlice 22 (.int .i64 ((q : Int) + 1)) (.int .i64 ((q : Int) + 1))).run Try.prog w = .ok (.slice (some ⟨w.heap.size, 0, none⟩) (q + 1) (q + 1)) (w.alloc (.cells (madeCells #[.int .i64 0] (q + 1)) 3)) := by
    intro w
    have := run_make_row' (P := Try.prog) 22 3 (.int .i64 0) 8 Try.underlying22 Try.infoI rfl .i64 .i64 (q + 1) (by omega) (by omega) w
    rw [show ((q : Int) + 1) = ((q + 1 : Nat) : Int) by push_cast; rfl]
    exact this
  have HQ := Lib.hid hq
  clear hq
  go_enter Try.func87, Try.ntmps87
  go_wp2_with fail
  go_loopw [4] (fun i wr => ∃ r : Nat, r ≤ n ∧ i = .int .i64 r ∧ Law w [tHas (w.heap.size + 1) (cW 64 (wS m (bM M) r)) 103, tHas w.heap.size (gl n m M) 58] wr) (fun i _ => n - (intOf i).toNat)
  case atStart => exact ⟨0, Nat.zero_le _, rfl, HL0.out⟩
  case round =>
    clear HL0
    obtain ⟨r, hr, rfl, L⟩ := hrel
    obtain ⟨wo, rfl⟩ : ∃ wo : World, wo = wr := ⟨_, rfl⟩
    have HL := Lib.hid L
    have ⟨e0, e1, _⟩ := L.tl.ownHas.eight
    clear L
    by_cases hrn : r < n
    · go_wp2_with fail
      go_loopw [5] (fun i wr => RdSet w n m M r i wr) (fun i _ => (intOf i + 1).toNat)
      case atStart =>
        refine .inl ⟨63, by omega, rfl, ?_⟩
        rw [cW_congr 64 (midW m (bM M) r (63 + 1) 0) (wS m (bM M) r) (fun k hk => midW_start m (bM M) r k hk)]
        exact HL.out
      case round =>
        clear HL e0 e1
        obtain ⟨wo2, rfl⟩ : ∃ wo : World, wo = wr := ⟨_, rfl⟩
        rcases hrel with ⟨s, hs, rfl, L⟩ | ⟨rfl, L⟩
        · have HL := Lib.hid L
          have hs0 : (0 : Int) ≤ s := by omega
          clear L
          go_wp2_with fail
          go_loopw [6] (fun i wr => ∃ c : Nat, c ≤ m ∧ i = .int .i64 c ∧ Law w [tHas (w.heap.size + 1) (cW 64 (midW m (bM M) r (s + 1) c)) 103, tHas w.heap.size (gl n m M) 58] wr) (fun i _ => m - (intOf i).toNat)
          case atStart => exact ⟨0, Nat.zero_le _, rfl, HL.out⟩
          case round =>
            clear HL
            obtain ⟨c, hc, rfl, L⟩ := hrel
            obtain ⟨wo3, rfl⟩ : ∃ wo : World, wo = wr := ⟨_, rfl⟩
            have HL := Lib.hid L
            have ⟨e0, e1, e2, e3, e4, e5, e6, e7, _⟩ := L.tl.ownHas.eight
            clear L
            by_cases hcm : c < m
            · have hb := bit_off s c hs (by omega)
              go_wp2_with fail
              refine (at_any n m M r c _ (by omega) (by omega) (HGC.out r (by omega))).mono ?_
              rintro e w2 ⟨rfl, hbl⟩
              have L2 := HL.out.kept hbl
              clear hbl HL e0 e1 e2 e3 e4 e5 e6 e7
              cases hB : (M r).toNat.testBit c
              · rw [cW_congr 64 (midW m (bM M) r (s + 1) c) (midW m (bM M) r (s + 1) (c + 1)) (fun k hk => (midW_skip m hm (bM M) r s c k hk hcm (.inl hB)).symm)] at L2
                have HL := Lib.hid L2
                clear L2 hb hB
                go_wp2_with fail
                go_roundw
                case rel => exact ⟨c + 1, by omega, by go_num, HL.out⟩
                case measure => simp [intOf]; omega
              · cases ht : s.testBit c
                · rw [ht] at hb
                  simp only [Bool.not_false] at hb
                  obtain ⟨_, hx⟩ := cnt6_put s c hs (by omega) ht
                  have hput := midW_put m hm (bM M) r s c hs hcm hB ht
                  have hself := midW_self m hm (bM M) r s c hs
                  have ho := L2.ownHas
                  have y1 := ho.cell (s ||| 2 ^ c)
                  have y2 := ho.cell s
                  have y3 := ho.free (s ||| 2 ^ c)
                  rw [cW_get 64 _ _ hx] at y1
                  rw [cW_get 64 _ _ hs, hself] at y2
                  have hS := Law.setHas (ts := []) L2 (s ||| 2 ^ c) (.int .i64 ((midW m (bM M) r (s + 1) c (s ||| 2 ^ c) + wS m (bM M) r s : Nat) : Int))
                  rw [cW_set 64 _ (midW m (bM M) r (s + 1) (c + 1)) (s ||| 2 ^ c) _ (by rw [hput]) (fun k hk hne => midW_skip m hm (bM M) r s c k hk hcm (.inr (.inr hne)))] at hS
                  have hS' := hS.drew
                  have HS := Lib.hid hS'
                  have hor := or_nat s c hs (by omega)
                  have hbd1 := midW_le m hm (bM M) r (s + 1) c (s ||| 2 ^ c)
                  have hbd2 := wS_le m hm (bM M) r s
                  have hp1 := pow7 (r + 1) (by omega)
                  have hp2 := pow7 r (by omega)
                  generalize (s ||| 2 ^ c) = x at *
                  generalize midW m (bM M) r (s + 1) c x = y at *
                  generalize wS m (bM M) r s = z at *
                  have hs1 := add_in y z (by omega) (by omega)
                  have hx0 : (0 : Int) ≤ x := by omega
                  have hx1 : (x : Int) < 64 := by omega
                  have hs1' : (s : Int) < 64 := by omega
                  clear hS hS' L2 ho hput hself hbd1 hbd2 hp1 hp2 hB ht
                  go_wp2_with fail
                  go_region
                  go_wp2_with fail
                  go_roundw
                  case rel => exact ⟨c + 1, by omega, by go_num, HS.out⟩
                  case measure => simp [intOf]; omega
                · rw [cW_congr 64 (midW m (bM M) r (s + 1) c) (midW m (bM M) r (s + 1) (c + 1)) (fun k hk => (midW_skip m hm (bM M) r s c k hk hcm (.inr (.inl ht))).symm)] at L2
                  rw [ht] at hb
                  simp only [Bool.not_true] at hb
                  have HL := Lib.hid L2
                  clear L2 hB ht
                  go_wp2_with fail
                  go_roundw
                  case rel => exact ⟨c + 1, by omega, by go_num, HL.out⟩
                  case measure => simp [intOf]; omega
            · obtain rfl : c = m := by omega
              have HL := Lib.hid (show Law w [tHas (w.heap.size + 1) (cW 64 (midW c (bM M) r s 0)) 103, tHas w.heap.size (gl n c M) 58] wo3 by
                rw [cW_congr 64 (midW c (bM M) r s 0) (midW c (bM M) r (s + 1) c) (fun k hk => (midW_next c (bM M) r s k).symm)]
                exact HL.out)
              cases s with
              | zero =>
                go_wp2_with fail
                go_roundw
                case rel => exact .inr ⟨rfl, HL.out⟩
                case measure => simp [intOf]
              | succ s =>
                have hw : IntKind.i64.wrap (((s + 1 : Nat) : Int) - 1) = s := by rw [show ((s + 1 : Nat) : Int) - 1 = s by omega]; exact IntWalk.i64_in _ (by omega)
                go_wp2_with fail
                go_roundw
                case rel => exact .inl ⟨s, by omega, rfl, HL.out⟩
                case measure => simp [intOf]; omega
        · rw [cW_congr 64 (midW m (bM M) r 0 0) (wS m (bM M) (r + 1)) (fun k hk => midW_end m (bM M) r k)] at L
          have HL := Lib.hid L
          clear L
          go_wp2_with fail
          go_roundw
          case rel => exact ⟨r + 1, by omega, by go_num, HL.out⟩
          case measure => simp [intOf]; omega
    · have hrn2 : r = n := by omega
      subst hrn2
      clear hrn
      have hmkx : ∀ x : Nat, q = x → ∀ w, (Instr.makeSlice 22 (.int .i64 ((x : Int) + 1)) (.int .i64 ((x : Int) + 1))).run Try.prog w = .ok (.slice (some ⟨w.heap.size, 0, none⟩) (q + 1) (q + 1)) (w.alloc (.cells (madeCells #[.int .i64 0] (q + 1)) 3)) := by
        intro x hx
        subst hx
        exact hmk
      have L1 := HL.out.own (below_new _) (own_made wo (q + 1) _ wo.heap.size rfl (Nat.le_refl _) (by omega))
      have HL1 := Lib.hid L1
      clear L1 HL hmk
      rcases (by have := HQ.out; omega : (m < r ∧ q = m) ∨ (r ≤ m ∧ q = r)) with ⟨h1, h2⟩ | ⟨h1, h2⟩
      all_goals
        have hmk := hmkx _ h2
        clear h2 hmkx
        go_upto_region 15 with fail
        generalize wo.alloc (.cells (madeCells #[.int .i64 0] (q + 1)) 3) = w5 at *
        have hrow := HL1.out.tl.ownHas.row
        go_wp2_with (refine wpList_load_row rfl 103 _ rfl _ rfl _ _ _ _ hrow Try.underlying103 rfl (by kernel_rfl) ?_)
        rw [lstL_zero, lstL_congr (q + 1) (fun _ => 0) (sumS m (bM M) r 0) (fun _ _ => rfl)] at HL1
        obtain ⟨g, hgg⟩ : ∃ g, g = wo.heap.size := ⟨_, rfl⟩
        rw [← hgg] at HL1 ⊢
        clear hgg hrow hmk
        go_loopw [57] (fun i wr => ∃ k : Nat, k ≤ 64 ∧ i = .int .i64 k ∧ Law w [tOwn (.slice (some ⟨g, 0, none⟩) (q + 1) (q + 1)) (lstL (q + 1) (sumS m (bM M) r k)), tHas (w.heap.size + 1) (cW 64 (wS m (bM M) r)) 103, tHas w.heap.size (gl r m M) 58] wr) (fun i _ => 64 - (intOf i).toNat)
        case atStart => exact ⟨0, Nat.zero_le _, rfl, HL1.out⟩
        case round =>
          clear HL1
          obtain ⟨k, hk, rfl, L⟩ := hrel
          by_cases hlt : k < 64
          · have ix := ix64 (cW 64 (wS m (bM M) r)) k hlt _ (cW_get 64 _ k hlt)
            have hoff := wS_off m hm (bM M) r k hlt
            have hbd := wS_le m hm (bM M) r k
            have hp7 := pow7 r hn
            by_cases hx0 : wS m (bM M) r k = 0
            · rw [hx0, show ((0 : Nat) : Int) = 0 from rfl] at ix
              rw [lstL_congr (q + 1) (sumS m (bM M) r k) (sumS m (bM M) r (k + 1)) (fun j _ => by rw [sumS_succ, hx0]; split <;> rfl)] at L
              have HL := Lib.hid L
              clear L hx0 hoff hbd hp7
              go_wp2_with fail
              go_roundw
              case rel => exact ⟨k + 1, by omega, by go_num, HL.out⟩
              case measure => simp [intOf]; omega
            · obtain ⟨hc1, hc2⟩ := hoff hx0
              have hc3 := cnt6_le k m hm hc2
              have hcq : cnt6 k < q + 1 := by have := HQ.out; omega
              have hcs := sumS_le m hm (bM M) r hn k (cnt6 k)
              have o1 := L.ownInts
              have y1 := Own.cell (by rw [lstL_len]; exact o1) (cnt6 k) (by rw [lstL_len]; exact hcq)
              have y2 := Own.free (by rw [lstL_len]; exact o1) (cnt6 k)
              rw [lstL_get _ _ _ hcq] at y1
              have hS := Law.store (ts := []) L (lstL_len _ _) (cnt6 k) ((sumS m (bM M) r k (cnt6 k) + wS m (bM M) r k : Nat) : Int)
              rw [lstL_set (q + 1) _ (sumS m (bM M) r (k + 1)) (cnt6 k) _ (by rw [sumS_succ, if_pos rfl]) (fun j _ hj => by rw [sumS_succ, if_neg (fun e => hj e.symm)]; rfl)] at hS
              have HS := Lib.hid hS
              have hpo : pop k = (cnt6 k : Int) := pop_cnt k
              have HO := Lib.hid (fun W => ones_any k W hlt)
              rw [hpo] at HO
              clear hpo
              generalize sumS m (bM M) r k (cnt6 k) = y at *
              generalize wS m (bM M) r k = x at *
              generalize cnt6 k = j at *
              have hs1 := add_in y x (by omega) (by omega)
              have hxp : 0 < (x : Int) := by omega
              have hk0 : (0 : Int) ≤ k := by omega
              have hk1 : (k : Int) < 64 := by omega
              have hjq : (j : Int) < (q : Int) + 1 := by omega
              clear L hS o1 hx0 hoff hbd hp7 hc1 hc2 hc3 hcs
              go_wp2_with fail
              refine (HO.out _).mono ?_
              rintro e w' ⟨rfl, rfl⟩
              go_wp2_with fail
              go_roundw
              case rel => exact ⟨k + 1, by omega, by go_num, HS.out⟩
              case measure => simp [intOf]; omega
          · obtain rfl : k = 64 := by omega
            rw [lstL_congr (q + 1) (sumS m (bM M) r 64) (wR m (bM M) r 0 0) (fun j _ => sets_sum m hm (bM M) r j)] at L
            have HL := Lib.hid L
            clear L
            go_wp2_with fail
            go_ret
            exact ⟨_, _, rfl, HL.out.ownLo, HL.out.below⟩

end Go.Proofs.Ythkghbnmdebhpab
