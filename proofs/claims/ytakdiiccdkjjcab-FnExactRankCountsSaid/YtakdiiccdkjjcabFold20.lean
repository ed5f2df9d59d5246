import Derived.Test.YtakdiiccdkjjcabFold8
import Derived.Test.YtakdiiccdkjjcabFold9
import Derived.Test.YtakdiiccdkjjcabFold11
import Derived.Test.YtakdiiccdkjjcabFold13
import Derived.Test.YtakdiiccdkjjcabFold19
namespace Go.Proofs.Ytakdiiccdkjjcab
open Go.RowKit Go.WideShapes

/-- Behind the row i and the numbers of rooks from k on. -/
def midV (xs : List Int) (i k j : Nat) : List Int := if k ≤ j then wts xs (i + 1) j else wts xs i j
/-- How many places of a rook are added. -/
def plcN (m : Int) (q : Nat) : Nat := if q = 0 then 0 else (m - q + 1).toNat
/-- The row in the making. -/
def rowT (m : Int) (W : Nat → List Int) (q t : Nat) : List Int := if m < q then [] else behL (W q) (preW W q) (m - q).toNat t
theorem rowT_full (m : Int) (W : Nat → List Int) (q : Nat) : rowT m W q (plcN m q) = rowW m W q := by
  unfold rowT rowW plcN
  split
  · rfl
  · cases q with
    | zero => rw [preW, behL_nil, behL_nil]
    | succ q => rw [if_neg (by omega), show (m - ((q + 1 : Nat) : Int) + 1).toNat = (m - ((q + 1 : Nat) : Int)).toNat + 1 by omega]
theorem rowT_can (m : Int) (W : Nat → List Int) (h : ∀ k, CanL (W k)) (q t : Nat) : CanL (rowT m W q t) := by
  unfold rowT
  split
  · exact CanL.nil
  · exact behL_can (h q) (preW_can h q) _ _
theorem rowT_bd (m : Int) (W : Nat → List Int) (h : ∀ k, CanL (W k)) (hb : ∀ k e, (W k).getD e 0 ≤ 262144) (q t : Nat) (ht : t ≤ 7) (e : Nat) : 0 ≤ (rowT m W q t).getD e 0 ∧ (rowT m W q t).getD e 0 ≤ 1000000000 := by
  refine ⟨(rowT_can m W h q t).pos e, ?_⟩
  unfold rowT
  split
  · simp
  · have := behL_bd (W q) (preW W q) (m - q).toNat t 262144 (hb q) (preW_bd (by decide) hb q) (by decide) e
    have c : ((t : Int) + 1) * 262144 ≤ 8 * 262144 := Int.mul_le_mul_of_nonneg_right (by omega) (by decide)
    omega
theorem rowT_len (m : Int) (W : Nat → List Int) (hb : ∀ k, (W k).length ≤ 100) (hm : m ≤ 6) (q t : Nat) (ht : t ≤ plcN m q) : (rowT m W q t).length ≤ 1000 := by
  unfold rowT
  split
  · simp
  · have : t ≤ (m - q).toNat + 1 := by unfold plcN at ht; split at ht <;> omega
    have := behL_len (W q) (preW W q) (m - q).toNat t 100 (hb q) (preW_len hb q) this
    omega
theorem rowT_succ (m : Int) (W : Nat → List Int) (q t : Nat) (h : q ≤ m) : rowT m W q (t + 1) = addL (rowT m W q t) (upL t (preW W q)) := by
  unfold rowT
  rw [if_neg (by omega), if_neg (by omega), behL]
theorem rowT_zero (m : Int) (W : Nat → List Int) (q : Nat) (h : q ≤ m) : rowT m W q 0 = addL [] (upL (m - q).toNat (W q)) := by
  unfold rowT
  rw [if_neg (by omega), behL, nil_addL]
theorem rowT_short (m : Int) (W : Nat → List Int) (q t : Nat) (h : m < q) : rowT m W q t = [] := if_pos h
theorem midV_start (xs : List Int) (i n j : Nat) (h : j < n + 1) : midV xs i (n + 1) j = wts xs i j := if_neg (by omega)
theorem midV_end (xs : List Int) (i j : Nat) : midV xs i 0 j = wts xs (i + 1) j := if_pos (by omega)
theorem midV_at (xs : List Int) (i k j : Nat) (h : j < k) : midV xs i k j = wts xs i j := if_neg (by omega)
theorem midV_done (xs : List Int) (i q : Nat) : midV xs i q q = wts xs (i + 1) q := if_pos (by omega)
theorem midV_next (xs : List Int) (i q j : Nat) (h : j ≠ q) : midV xs i q j = midV xs i (q + 1) j := by
  unfold midV
  by_cases h1 : q ≤ j
  · rw [if_pos h1, if_pos (by omega)]
  · rw [if_neg h1, if_neg (by omega)]

theorem pFacts (p n : Nat) (m : Int) (h1 : ((p + 1 : Nat) : Int) < (n : Int) + 1) (h2 : ((p + 1 : Nat) : Int) ≤ m) (hn : n ≤ 6) : wrap64 (p : Int) = p ∧ wrap64 ((p : Int) + 1 - 1) = p ∧ 0 ≤ (p : Int) ∧ (p : Int) < (n : Int) + 1 ∧ m ≥ (p : Int) + 1 := by
  have h3 : wrap64 (p : Int) = p := IntWalk.wrap64_in _ (by omega)
  refine ⟨h3, ?_, by omega, by omega, by omega⟩
  rw [show (p : Int) + 1 - 1 = p by omega]
  exact h3

set_option maxRecDepth 100000 in
set_option maxHeartbeats 12800000 in
theorem weAll_any (xs : List Int) (a : Option Addr) (c : Nat) (w : World) (h1 : 1 ≤ xs.length) (h6 : xs.length ≤ 6) (hx : ∀ k, 0 ≤ xs.getD k 0 ∧ xs.getD k 0 ≤ 6) (hr : Reads w a xs.length xs) :
    Calls Try.prog 87 #[.slice a xs.length c] w fun e w' => ∃ g vs, e = .returned (.slice (some ⟨g, 0, none⟩) (xs.length + 1) (xs.length + 1)) ∧ OwnM w' w.heap.size (.slice (some ⟨g, 0, none⟩) (xs.length + 1) (xs.length + 1)) vs (lstR (xs.length + 1) (wts xs xs.length)) ∧ Below w.heap.size w w' := by
  obtain ⟨i0, hi, hz0, hz1, hz2⟩ := info_parts Try.infoL
  have HR := Lib.hid hr
  have HY := Lib.hid hx
  obtain ⟨n, hn⟩ : ∃ n, n = xs.length := ⟨_, rfl⟩
  rw [← hn] at h1 h6 HR ⊢
  have HN := Lib.hid hn
  have HW := Lib.hid (fun i (hi : i ≤ 6) => And.intro (fun k => wts_can xs i k) (And.intro (fun k e => (wts_in xs (fun k => (hx k).2) i k e hi).2) (fun k => wts_len xs (fun k => (hx k).2) i k)))
  clear hr hx hn
  go_enter Try.func87, Try.ntmps87
  have hw1 : wrap64 ((n : Int) + 1) = ((n + 1 : Nat) : Int) := by rw [show ((n + 1 : Nat) : Int) = (n : Int) + 1 by omega]; exact IntWalk.wrap64_in _ (by omega)
  go_wp2_with (at_make; refine wpList_make_full _ rfl _ _ 37 rfl w.heap.size 22 i0 (.slice none 0 0) 1 Try.underlying37 hi hz0 hz1 .i64 .i64 _ _ (n + 1) rfl rfl rfl rfl ?b1 ?b2 ?b3 ?_)
  case b1 => rw [hz2]; omega
  case b2 => unfold maxLen; omega
  case b3 => exact Nat.le_refl _
  intro w2 hown hg2
  have L1 := (Law.start w).addM ((Below.refl _ _).grown hg2 (Nat.le_refl _) (by simp)) (own_madeM hown)
  rw [lstR_nil] at L1
  obtain ⟨g, hgg⟩ : ∃ g, g = w.heap.size := ⟨_, rfl⟩
  rw [← hgg] at L1 ⊢
  -- the first row
  have hone : Own (w2.alloc (.cells #[.int .i64 1] 3)) w2.heap.size (.slice (some ⟨w2.heap.size, 0, none⟩) 1 1) [1] :=
    ⟨by simp, .inr ⟨w2.heap.size, 1, #[.int .i64 1], rfl, Nat.le_refl _, heap_alloc_new w2 _, Nat.le_refl _, by unfold maxLen; omega, by simp, by simp⟩⟩
  have L2 := (L1.own (below_new _) hone)
  have hM2 := L2.tl.ownM
  have hvl : (List.replicate (n + 1) (Value.slice none 0 0)).length = n + 1 := by simp
  have hc0 := World.ownsRow.cellAt (by have := hM2.outer; rw [hvl] at this; exact this) 0 (by omega)
  have hfz := World.ownsRow.frozenAt (by have := hM2.outer; rw [hvl] at this; exact this) 0
  simp only [List.getElem?_replicate, Nat.succ_pos, if_true] at hc0 hfz
  have L3 := L2.putM hvl 0 (by omega)
  rw [lstR_set (n + 1) (fun _ => []) (wts xs 0) 0 [1] (by simp [wts]) (fun k _ hk => by simp [wts, hk])] at L3
  have HL3 := Lib.hid (And.intro L3 (show ((List.replicate (n + 1) (Value.slice none 0 0)).set 0 (.slice (some ⟨w2.heap.size, 0, none⟩) 1 1)).length = n + 1 by simp))
  clear L1 L2 L3 hM2 hone hown hg2
  generalize (List.replicate (n + 1) (Value.slice none 0 0)).set 0 (.slice (some ⟨w2.heap.size, 0, none⟩) 1 1) = vs0 at *
  have HG := Lib.hid hgg
  clear hgg hvl hi hz0 hz1 hz2 hw1
  have hn1 : (0 : Int) < ((n + 1 : Nat) : Int) := by omega
  go_upto_region 3 with fail
  generalize ((w2.alloc (.cells #[.int .i64 1] 3)).setCell ⟨g, 0, none⟩ (.slice (some ⟨w2.heap.size, 0, none⟩) 1 1)) = w5 at *
  clear hc0 hfz
  go_wp2_with fail
  go_loopw [18] (fun i wr => ∃ (i' : Nat) (vs : List Value), i' ≤ n ∧ i = .int .i64 i' ∧ Hid (Law w [tM (.slice (some ⟨g, 0, none⟩) (n + 1) (n + 1)) vs (lstR (n + 1) (wts xs i'))] wr ∧ vs.length = n + 1)) (fun i _ => n - (intOf i).toNat)
  case atStart => exact ⟨0, vs0, Nat.zero_le _, rfl, HL3⟩
  case round =>
    clear HL3
    obtain ⟨i, vs, hi, rfl, HL⟩ := hrel
    by_cases hlt : i < n
    · have HL' : Hid (Law w [tM (.slice (some ⟨g, 0, none⟩) (n + 1) (n + 1)) vs (lstR (n + 1) (midV xs i (n + 1)))] wr ∧ vs.length = n + 1) := Lib.hid (by
        rw [lstR_congr (n + 1) (midV xs i (n + 1)) (wts xs i) (fun k hk => midV_start xs i n k hk)]
        exact HL.out)
      obtain ⟨b, off, ha, hb0, hcc⟩ := reads_row (HL.out.1.reads HR.out) (by omega)
      subst ha
      have hce := hcc i hlt
      have hy := HY.out i
      have HW' := Lib.hid (HW.out i (by omega))
      have hwx : Hid (∀ q, rowT (xs.getD i 0) (wts xs i) q (plcN (xs.getD i 0) q) = wts xs (i + 1) q) := Lib.hid (fun q => by rw [rowT_full, wts_succ])
      clear HL hcc
      generalize xs.getD i 0 = m at *
      go_wp2_with fail
      go_loopw [6] (fun kk wr => ∃ (k : Nat) (vs : List Value), k ≤ n + 1 ∧ kk = .int .i64 ((k : Int) - 1) ∧ Hid (Law w [tM (.slice (some ⟨g, 0, none⟩) (n + 1) (n + 1)) vs (lstR (n + 1) (midV xs i k))] wr ∧ vs.length = n + 1)) (fun kk _ => (intOf kk + 1).toNat)
      case atStart => exact ⟨n + 1, vs, Nat.le_refl _, by go_num, HL'⟩
      case round =>
        clear HL'
        obtain ⟨k, vs, hk, rfl, HL⟩ := hrel
        by_cases hp : 0 < k
        · obtain ⟨q, rfl⟩ : ∃ q, k = q + 1 := ⟨k - 1, by omega⟩
          rw [show ((q + 1 : Nat) : Int) - 1 = (q : Int) by omega]
          have hvl := HL.out.2
          have HVL := Lib.hid hvl
          have hlen := HL.out.1.ownM.len
          have c1 : wr.cell? ⟨g, q, none⟩ = some (vs[q]'(by omega)) := by rw [World.ownsRow.cellAt (by have := HL.out.1.ownM.outer; rw [hvl] at this; exact this) q (by omega)]; simp
          have r1 := HL.out.1.ownM.row q (by omega)
          rw [lstR_get, midV_at xs i (q + 1) q (by omega)] at r1
          obtain ⟨a1, p1, hv1, rd1⟩ := r1.reads
          rw [hv1] at c1
          have hq0 : (0 : Int) ≤ q := by omega
          have hq1 : (q : Int) < (n : Int) + 1 := by omega
          have hq2 : wrap64 ((q : Int) - 1) = (q : Int) - 1 := IntWalk.wrap64_in _ (by omega)
          have hmq : wrap64 (m - q) = m - q := IntWalk.wrap64_in _ (by omega)
          have hmq1 : wrap64 (m - q + 1) = m - q + 1 := IntWalk.wrap64_in _ (by omega)
          have hmq2 : IntKind.i64.wrap (m - q) = m - q := IntWalk.i64_in _ (by omega)
          have hmq3 : IntKind.i64.wrap (m - q + 1) = m - q + 1 := IntWalk.i64_in _ (by omega)
          clear r1 hv1 hvl hlen
          by_cases hqm : (q : Int) ≤ m
          · have hge : m ≥ (q : Int) := hqm
            obtain ⟨s, hs⟩ := Int.eq_ofNat_of_zero_le (show 0 ≤ m - q by omega)
            have HS := Lib.hid hs
            have hwa := weAdd_any [] (wts xs i q) (.slice none 0 0) a1 p1 s wr (by simp) (by have := HW'.out.2.2 q; omega) (by omega) (HW'.out.1 q) (by simp) (fun e => ⟨(HW'.out.1 q).pos e, by have := HW'.out.2.1 q e; omega⟩) (.inl ⟨rfl, rfl⟩) rd1
            rw [show addL [] (upL s (wts xs i q)) = rowT m (wts xs i) q 0 by rw [rowT_zero m _ q hqm, hs]; rfl, ← hs] at hwa
            have HWA := Lib.hid hwa
            clear hwa rd1 hs
            generalize (wts xs i q).length = z1 at *
            go_wp2_with fail
            refine HWA.out.mono ?_
            rintro e w3 ⟨v, rfl, hO, hb⟩
            have HLv := Lib.hid (HL.out.1.own hb hO)
            clear hO hb HWA HL c1
            by_cases hqz : q = 0
            · subst hqz
              have HX : Hid (Law w [tOwn v (wts xs (i + 1) 0), tM (.slice (some ⟨g, 0, none⟩) (n + 1) (n + 1)) vs (lstR (n + 1) (midV xs i (0 + 1)))] w3) := Lib.hid (by
                rw [← hwx.out 0, show plcN m 0 = 0 from rfl]
                exact HLv.out)
              clear HLv
              rw [show ((0 : Nat) : Int) = 0 from rfl] at hq0 hq1 hq2 hmq hmq1 hmq2 hmq3 ⊢
              go_wp2_with fail
              go_loopw [7, 8] (fun y t wr => y = v ∧ t = .int .i64 0 ∧ w3 = wr) (fun _ _ _ => 0)
              case atStart => exact ⟨rfl, rfl, rfl⟩
              case round =>
                obtain ⟨rfl, rfl, hww⟩ := hrel
                subst hww
                obtain ⟨a8, c8, hv8, _⟩ := HX.out.ownInts.reads
                generalize (wts xs (i + 1) 0).length = z8 at hv8
                subst hv8
                have c9 := World.ownsRow.cellAt (by have := HX.out.tl.ownM.outer; rw [HVL.out] at this; exact this) (0) (by omega)
                have f9 := World.ownsRow.frozenAt (by have := HX.out.tl.ownM.outer; rw [HVL.out] at this; exact this) (0)
                have c91 : w3.cell? ⟨g, 0, none⟩ = some (vs[0]'(by have := HVL.out; omega)) := by rw [c9]; simp
                clear c9
                have L3 := HX.out.putM HVL.out (0) (by omega)
                rw [lstR_set (n + 1) (midV xs i (0 + 1)) (midV xs i (0)) (0) (wts xs (i + 1) (0)) (midV_done xs i (0)) (fun k _ hk => midV_next xs i (0) k hk)] at L3
                have HS5 := Lib.hid (And.intro L3 (show (vs.set (0) (.slice a8 z8 c8)).length = n + 1 by rw [List.length_set]; exact HVL.out))
                clear L3 HX
                go_wp2_with fail
                go_roundw
                case rel => exact ⟨0, _, by omega, by go_num, HS5⟩
                case measure => simp [intOf] <;> omega

            · obtain ⟨p, rfl⟩ : ∃ p, q = p + 1 := ⟨q - 1, by omega⟩
              have hq3 : (0 : Int) < (p : Int) + 1 := by omega
              have HT := Lib.hid (show (plcN m (p + 1) : Int) = m - ((p : Int) + 1) + 1 by unfold plcN; rw [if_neg (by omega)]; omega)
              have HXX := Lib.hid (hwx.out (p + 1))
              obtain ⟨hp0, hp1, hp2, hp3, hp4⟩ := pFacts p n m hq1 hqm h6
              rw [show ((p + 1 : Nat) : Int) = (p : Int) + 1 by omega] at hq0 hq1 hq2 ⊢
              clear hmq hmq1 hmq2 hmq3
              clear hqz hge hqm
              go_wp2_with fail
              go_loopw [7, 8] (fun y t wr => ∃ t' : Nat, Hid (t' ≤ plcN m (p + 1)) ∧ t = .int .i64 t' ∧ Law w [tOwn y (rowT m (wts xs i) (p + 1) t'), tM (.slice (some ⟨g, 0, none⟩) (n + 1) (n + 1)) vs (lstR (n + 1) (midV xs i (p + 1 + 1)))] wr) (fun _ t _ => plcN m (p + 1) - (intOf t).toNat)
              case atStart => exact ⟨0, Lib.hid (Nat.zero_le _), rfl, HLv.out⟩
              case round =>
                clear HLv
                obtain ⟨t, HTT, rfl, L⟩ := hrel
                have HWF := Lib.hid (And.intro hq2 (And.intro hp0 hp1))
                clear hq2 hp0 hp1
                by_cases hlt3 : (t : Int) < m - ((p : Int) + 1) + 1
                · have hlen := L.tl.ownM.len
                  have hvl := HVL.out
                  have c2 : wr.cell? ⟨g, p, none⟩ = some (vs[p]'(by omega)) := by rw [World.ownsRow.cellAt (by have := L.tl.ownM.outer; rw [hvl] at this; exact this) p (by omega)]; simp
                  have r2 := L.tl.ownM.row p (by omega)
                  rw [lstR_get, midV_at xs i (p + 1 + 1) p (by omega)] at r2
                  obtain ⟨a2, p2, hv2, rd3⟩ := r2.reads
                  rw [hv2] at c2
                  have hwa := weAdd_any (rowT m (wts xs i) (p + 1) t) (wts xs i p) u7 a2 p2 t wr (rowT_len m _ (fun k => by have := HW'.out.2.2 k; omega) hy.2 (p + 1) t HTT.out) (by have := HW'.out.2.2 p; omega) (by omega) (HW'.out.1 p) (fun e => rowT_bd m _ HW'.out.1 HW'.out.2.1 (p + 1) t (by omega) e) (fun e => ⟨(HW'.out.1 p).pos e, by have := HW'.out.2.1 p e; omega⟩) L.ownInts.src rd3
                  rw [show addL (rowT m (wts xs i) (p + 1) t) (upL t (wts xs i p)) = rowT m (wts xs i) (p + 1) (t + 1) by rw [rowT_succ m _ (p + 1) t (by omega)]; rfl] at hwa
                  have HWA2 := Lib.hid hwa
                  have HL5 := Lib.hid L
                  have HT2 : Hid (t + 1 ≤ plcN m (p + 1)) := Lib.hid (by have := HT.out; omega)
                  have HT1 := Lib.hid (show wrap64 ((t : Int) + 1) = (t : Int) + 1 from IntWalk.wrap64_in _ (by omega))
                  generalize (wts xs i p).length = z2 at *
                  clear r2 hv2 rd3 hwa L hvl hlen
                  obtain ⟨hq2, hp0, hp1⟩ := HWF.out
                  have ht1 := HT1.out
                  go_wp2_with fail
                  refine HWA2.out.mono ?_
                  rintro e w7 ⟨v7, rfl, hO, hb⟩
                  have HL7 := Lib.hid ((HL5.out.tl.own hb hO))
                  clear hO hb HWA2 HL5 c2
                  go_wp2_with fail
                  go_roundw
                  case rel => exact ⟨t + 1, HT2, by go_num, HL7.out⟩
                  case measure => simp only [intOf]; have := HT2.out; omega
                · have ht : t = plcN m (p + 1) := by have := HT.out; have := HTT.out; omega
                  rw [ht, HXX.out] at L
                  have HX := Lib.hid L
                  clear L HTT HXX
                  clear ht
                  obtain ⟨a8, c8, hv8, _⟩ := HX.out.ownInts.reads
                  generalize (wts xs (i + 1) (p + 1)).length = z8 at hv8
                  subst hv8
                  have c9 := World.ownsRow.cellAt (by have := HX.out.tl.ownM.outer; rw [HVL.out] at this; exact this) (p + 1) (by omega)
                  have f9 := World.ownsRow.frozenAt (by have := HX.out.tl.ownM.outer; rw [HVL.out] at this; exact this) (p + 1)
                  have c91 : wr.cell? ⟨g, p + 1, none⟩ = some (vs[p + 1]'(by have := HVL.out; omega)) := by rw [c9]; simp
                  clear c9
                  have L3 := HX.out.putM HVL.out (p + 1) (by omega)
                  rw [lstR_set (n + 1) (midV xs i (p + 1 + 1)) (midV xs i (p + 1)) (p + 1) (wts xs (i + 1) (p + 1)) (midV_done xs i (p + 1)) (fun k _ hk => midV_next xs i (p + 1) k hk)] at L3
                  have HS5 := Lib.hid (And.intro L3 (show (vs.set (p + 1) (.slice a8 z8 c8)).length = n + 1 by rw [List.length_set]; exact HVL.out))
                  clear L3 HX
                  obtain ⟨hq2, hp0, hp1⟩ := HWF.out
                  go_wp2_with fail
                  go_roundw
                  case rel => exact ⟨p + 1, _, by omega, by go_num, HS5⟩
                  case measure => simp [intOf] <;> omega

          · have hwq : wts xs (i + 1) q = [] := (hwx.out q).symm.trans (rowT_short m _ q _ (by omega))
            have hq4 : 0 < q := by omega
            have hq5 : (0 : Int) < (q : Int) := by omega
            have hq6 : ¬ m ≥ (q : Int) := hqm
            have hq7 : ¬ (0 : Int) < m - q + 1 := by omega
            have L9 := HL.out.1.own (Below.refl _ _) (Own.nil wr wr.heap.size)
            have HX : Hid (Law w [tOwn (.slice none 0 0) (wts xs (i + 1) q), tM (.slice (some ⟨g, 0, none⟩) (n + 1) (n + 1)) vs (lstR (n + 1) (midV xs i (q + 1)))] wr) := Lib.hid (by rw [hwq]; exact L9)
            clear HL L9 hwq rd1 c1 hqm
            go_wp2_with fail
            go_loopw [7, 8] (fun y t wr' => y = .slice none 0 0 ∧ t = .int .i64 0 ∧ wr = wr') (fun _ _ _ => 0)
            case atStart => exact ⟨rfl, rfl, rfl⟩
            case round =>
              obtain ⟨rfl, rfl, hww⟩ := hrel
              subst hww
              obtain ⟨a8, c8, hv8, _⟩ := HX.out.ownInts.reads
              generalize (wts xs (i + 1) (q)).length = z8 at hv8
              injection hv8 with q1 q2 q3
              subst q1
              subst q2
              subst q3
              have c9 := World.ownsRow.cellAt (by have := HX.out.tl.ownM.outer; rw [HVL.out] at this; exact this) (q) (by omega)
              have f9 := World.ownsRow.frozenAt (by have := HX.out.tl.ownM.outer; rw [HVL.out] at this; exact this) (q)
              have c91 : wr.cell? ⟨g, q, none⟩ = some (vs[q]'(by have := HVL.out; omega)) := by rw [c9]; simp
              clear c9
              have L3 := HX.out.putM HVL.out (q) (by omega)
              rw [lstR_set (n + 1) (midV xs i (q + 1)) (midV xs i (q)) (q) (wts xs (i + 1) (q)) (midV_done xs i (q)) (fun k _ hk => midV_next xs i (q) k hk)] at L3
              have HS5 := Lib.hid (And.intro L3 (show (vs.set (q) (.slice none 0 0)).length = n + 1 by rw [List.length_set]; exact HVL.out))
              clear L3 HX
              go_wp2_with fail
              go_roundw
              case rel => exact ⟨q, _, by omega, by go_num, HS5⟩
              case measure => simp [intOf] <;> omega

        · obtain rfl : k = 0 := by omega
          have HL2 : Hid (Law w [tM (.slice (some ⟨g, 0, none⟩) (n + 1) (n + 1)) vs (lstR (n + 1) (wts xs (i + 1)))] wr ∧ vs.length = n + 1) := Lib.hid (by
            rw [← lstR_congr (n + 1) (midV xs i 0) (wts xs (i + 1)) (fun k _ => midV_end xs i k)]
            exact HL.out)
          rw [show ((0 : Nat) : Int) - 1 = -1 by omega]
          clear HL
          go_wp2_with fail
          go_roundw
          case rel => exact ⟨i + 1, vs, by omega, by go_num, HL2⟩
          case measure => simp [intOf]; omega
    · obtain rfl : i = n := by omega
      go_wp2_with fail
      go_ret
      exact ⟨g, vs, rfl, HL.out.1.ownMLo, HL.out.1.below⟩
end Go.Proofs.Ytakdiiccdkjjcab
