/- Queens that reach all places, in both texts. No condition but the sizes. -/
import Derived.Test.YtmhlpaenfknofabUm
import Derived.Test.YtmhlpaenfknofabUe
import Derived.Test.YtmhlpaenfknofabM4
import Derived.Lib.QuietBelow
import Derived.Deep.RegionLaw
namespace Go.Proofs.Ytmhlpaenfknofab
open Go.RowKit Go.WideShapes Go.ChangeShapes Go.ChangeAt Go.Joins

theorem Law.put8Q {w0 w : World} {ts ts' : List Thing} {b : Nat} {v0 v1 v2 v3 v4 v5 v6 v7 : Value} {t : TypeId} (h : Law w0 (ts ++ tHas b [v0, v1, v2, v3, v4, v5, v6, v7] t :: ts') w) (F : Nat → Int) : Law w0 (ts ++ tHas b (sl8 F) t :: ts') ((((((((w.setCell ⟨b, 0, none⟩ (.int .i64 (F 0))).setCell ⟨b, 1, none⟩ (.int .i64 (F 1))).setCell ⟨b, 2, none⟩ (.int .i64 (F 2))).setCell ⟨b, 3, none⟩ (.int .i64 (F 3))).setCell ⟨b, 4, none⟩ (.int .i64 (F 4))).setCell ⟨b, 5, none⟩ (.int .i64 (F 5))).setCell ⟨b, 6, none⟩ (.int .i64 (F 6))).setCell ⟨b, 7, none⟩ (.int .i64 (F 7))) := by
  have h0 := Law.setHas h 0 (.int .i64 (F 0))
  have h1 := Law.setHas h0 1 (.int .i64 (F 1))
  have h2 := Law.setHas h1 2 (.int .i64 (F 2))
  have h3 := Law.setHas h2 3 (.int .i64 (F 3))
  have h4 := Law.setHas h3 4 (.int .i64 (F 4))
  have h5 := Law.setHas h4 5 (.int .i64 (F 5))
  have h6 := Law.setHas h5 6 (.int .i64 (F 6))
  exact Law.setHas h6 7 (.int .i64 (F 7))
theorem ownM_keptQ {w w' : World} {lo : Nat} {v : Value} {vs : List Value} {rss : List (List Int)} (h : OwnM w lo v vs rss) (hb : Below w.heap.size w w') : OwnM w' lo v vs rss := by
  refine h.stay (row := none) ⟨hb.os, hb.tape, hb.output, hb.size, fun k hk _ => hb.block k hk⟩ ?_ (fun u _ => ?_)
  · cases v.ownBlock <;> simp
  · cases u.ownBlock <;> simp
theorem rowQ_at {W : World} {lo : Nat} {a : Option Addr} {cap : Nat} {vs : List Value} {rss : List (List Int)} (h : OwnM W lo (.slice a rss.length cap) vs rss) (k : Nat) (hk : k < rss.length) :
    ∃ g, a = some ⟨g, 0, none⟩ ∧ ∃ ax px, W.cell? ⟨g, k, none⟩ = some (.slice ax rss[k].length px) ∧ Reads W ax rss[k].length rss[k] := by
  have hl := h.len
  have hkv : k < vs.length := by omega
  have hrow := h.row k hkv
  obtain ⟨a', cap', hv, hc⟩ := h.form
  obtain ⟨g, ha, c0⟩ := hc k hkv
  injection hv with e1 e2 e3
  obtain ⟨ax, px, hvx, hr⟩ := hrow.reads
  rw [hvx] at c0
  exact ⟨g, by rw [e1, ha], ax, px, c0, hr⟩

/-- Is this a place? -/
def plB (n : Int) (x : List Int) : Bool := decide (x.length = 2) && within 0 (n - 1) x
/-- What a queen at a place reaches. -/
def rchI (x : List Int) (i j : Nat) : Bool := qQ ((i : Int) - x.getD 0 0) ((j : Int) - x.getD 1 0)
def uniR (L : List (List Int)) : Nat → Nat → Bool := fun i j => L.any fun x => rchI x i j
theorem uniR_take (L : List (List Int)) (k : Nat) (hk : k < L.length) : uniR (L.take (k + 1)) = fun i j => uniR (L.take k) i j || rchI L[k] i j := by
  funext i j
  unfold uniR
  rw [List.take_succ_eq_append_getElem hk, List.any_append]
  simp
theorem plB_two {n : Int} {x : List Int} (h : plB n x = true) : ∃ r c : Nat, x = [(r : Int), (c : Int)] ∧ (r : Int) < n ∧ (c : Int) < n := by
  unfold plB within at h
  rw [Bool.and_eq_true, decide_eq_true_eq, List.all_eq_true] at h
  match x, h.1 with
  | [a, b], _ =>
    have h1 := h.2 a (by simp)
    have h2 := h.2 b (by simp)
    rw [decide_eq_true_eq] at h1 h2
    exact ⟨a.toNat, b.toNat, by rw [Int.toNat_of_nonneg h1.1, Int.toNat_of_nonneg h2.1], by omega, by omega⟩
def watR (n : Int) (L : List (List Int)) : R2 := if inB 1 n 8 && (decide ((L.length : Int) ≤ n) && L.all (plB n)) then ⟨seeAll n.toNat (uniR L), true⟩ else ⟨false, false⟩
theorem watR_no (n : Int) (L : List (List Int)) (k : Nat) (hk : k < L.length) (h : plB n L[k] = false) : watR n L = ⟨false, false⟩ := by
  unfold watR
  rw [if_neg]
  rw [Bool.and_eq_true, Bool.and_eq_true, List.all_eq_true]
  rintro ⟨_, _, h2⟩
  have := h2 L[k] (List.getElem_mem hk)
  rw [h] at this
  cases this
theorem all_takeQ (L : List (List Int)) (p : List Int → Bool) (k : Nat) (hk : k < L.length) (h : (L.take k).all p = true) (h2 : p L[k] = true) : (L.take (k + 1)).all p = true := by
  rw [List.take_succ_eq_append_getElem hk, List.all_append, h]
  simp [h2]

set_option maxRecDepth 100000 in
set_option maxHeartbeats 12800000 in
theorem implWat_any (n : Int) (L : List (List Int)) (w : World) (hl : L.length + total L ≤ 1048576) (lo : Nat) (s : Value) (vs : List Value) (hO : OwnM w lo s vs L) :
    Calls Try.prog 21 #[.int .i64 n, s] w fun e w' => AnsOO (watR n L) w e w' := by
  obtain ⟨av, pv, rfl⟩ := ownM_shapeQ hO
  have HQ := Lib.hid (isQueenSide_any n w)
  have HO := Lib.hid hO
  have HLL := Lib.hid hl
  clear hO hl
  by_cases hq : 1 ≤ n ∧ n ≤ 8
  · rw [inB_yes hq.1 hq.2] at HQ
    obtain ⟨m, rfl⟩ := Int.eq_ofNat_of_zero_le (show 0 ≤ n by omega)
    obtain ⟨q1, q8⟩ := hq
    by_cases hle : (L.length : Int) ≤ m
    · have hle3 : ¬ m < L.length := by omega
      have hle4 : ¬ (m : Int) < L.length := by omega
      have HNO := Lib.hid (fun k hk h => watR_no m L k hk h)
      have HYES := Lib.hid (fun (h : L.all (plB m) = true) => show watR m L = ⟨seeAll m (uniR L), true⟩ by simp [watR, inB_yes q1 q8, hle, h])
      have HUT := Lib.hid (uniR_take L)
      have HAL := Lib.hid (all_takeQ L (plB m))
      have HRC := Lib.hid (fun (r c : Nat) (hr : r < 8) (hc : c < 8) W => reach_any m r c W (by omega) hr hc)
      have HWS := Lib.hid (fun (R S : Nat → Nat → Bool) W => withS_any (sgF m R) (sgF m S) (sgF m (fun a b => R a b || S a b)) W (fun i _ => (sgF_or m (by omega) R S i).symm))
      have HAP := Lib.hid (fun W => allPlaces_any m W (by omega))
      have HE8 := Lib.hid (fun R => eq8_all m (by omega) R)
      have L0 := (Law.start w).has (sl8 (fun _ => 0)) 60
      rw [show w.alloc (.cells (sl8 (fun _ => 0)).toArray 60) = w.alloc (.cells #[.int .i64 0, .int .i64 0, .int .i64 0, .int .i64 0, .int .i64 0, .int .i64 0, .int .i64 0, .int .i64 0] 60) from rfl] at L0
      have HL := Lib.hid L0
      clear L0
      obtain ⟨R, hR⟩ : ∃ R, R = watR m L := ⟨_, rfl⟩
      rw [← hR]
      have HR := Lib.hid hR
      clear hR
      go_enter Try.func21, Try.ntmps21
      go_wp2_with (go_at_call 44; ((with_reducible refine HQ.out.mono ?_); rintro e wQ ⟨rfl, hw⟩; subst wQ))
      generalize w.alloc _ = w1 at *
      go_loopw [20] (fun i wr => ∃ k : Nat, k ≤ L.length ∧ i = .int .i64 k ∧ Hid ((L.take k).all (plB m) = true) ∧ Hid (Law w [tHas w.heap.size (sl8 (sgF m (uniR (L.take k)))) 60] wr)) (fun i _ => L.length - (intOf i).toNat)
      case atStart => exact ⟨0, Nat.zero_le _, rfl, Lib.hid rfl, by rw [show uniR (L.take 0) = fun _ _ => false from rfl, sgF_none]; exact HL⟩
      case round =>
        clear HL
        obtain ⟨k, hk, rfl, HA, HL⟩ := hrel
        obtain ⟨wo, rfl⟩ : ∃ wo : World, wo = wr := ⟨_, rfl⟩
        by_cases hlt : k < L.length
        · obtain ⟨g, rfl, ax, px, c0, hr⟩ := rowQ_at (ownM_keptQ HO.out HL.out.below) k hlt
          have HNK := Lib.hid (HNO.out k hlt)
          have HUK := Lib.hid (HUT.out k hlt)
          have HAK := Lib.hid (HAL.out k hlt HA.out)
          generalize L[k] = x at *
          by_cases hx2 : x.length = 2
          · obtain ⟨i, j, rfl⟩ : ∃ i j, x = [i, j] := by
              match x, hx2 with
              | [i, j], _ => exact ⟨i, j, rfl⟩
            obtain ⟨b, off, rfl, _, hcx⟩ := reads_row hr (by simp)
            have p0 : wo.cell? ⟨b, off, none⟩ = some (.int .i64 i) := hcx 0 (by simp)
            have p1 : wo.cell? ⟨b, off + 1, none⟩ = some (.int .i64 j) := hcx 1 (by simp)
            simp only [List.length_cons, List.length_nil, Nat.zero_add, Nat.reduceAdd] at c0
            clear hcx hr hx2
            by_cases k1 : i < 0
            · obtain rfl : R = ⟨false, false⟩ := HR.out.trans (HNK.out (by simp [plB, within]; omega))
              have HB := Lib.hid HL.out.below
              clear HL HNK HUK HAK
              go_wp2_with fail
              go_ret2
              exact ⟨rfl, HB.out⟩
            · by_cases k2 : (m : Int) ≤ i
              · obtain rfl : R = ⟨false, false⟩ := HR.out.trans (HNK.out (by simp [plB, within]; omega))
                have HB := Lib.hid HL.out.below
                clear HL HNK HUK HAK
                go_wp2_with fail
                go_ret2
                exact ⟨rfl, HB.out⟩
              · by_cases k3 : j < 0
                · obtain rfl : R = ⟨false, false⟩ := HR.out.trans (HNK.out (by simp [plB, within]; omega))
                  have HB := Lib.hid HL.out.below
                  clear HL HNK HUK HAK
                  go_wp2_with fail
                  go_ret2
                  exact ⟨rfl, HB.out⟩
                · by_cases k4 : (m : Int) ≤ j
                  · obtain rfl : R = ⟨false, false⟩ := HR.out.trans (HNK.out (by simp [plB, within]; omega))
                    have HB := Lib.hid HL.out.below
                    clear HL HNK HUK HAK
                    go_wp2_with fail
                    go_ret2
                    exact ⟨rfl, HB.out⟩
                  · obtain ⟨r, rfl⟩ := Int.eq_ofNat_of_zero_le (show 0 ≤ i by omega)
                    obtain ⟨c, rfl⟩ := Int.eq_ofNat_of_zero_le (show 0 ≤ j by omega)
                    have HAN := Lib.hid (HAK.out (by simp [plB, within]; omega))
                    have HRW := Lib.hid (HRC.out r c (by omega) (by omega))
                    have HWW := Lib.hid (HWS.out (uniR (L.take k)) (rchB r c))
                    have huk := HUK.out
                    rw [show rchI [(r : Int), (c : Int)] = rchB r c from rfl] at huk
                    rw [← huk] at HWW
                    clear HUK huk HNK HAK
                    generalize sgF m (uniR (L.take k)) = F at *
                    generalize sgF m (rchB r c) = G at *
                    obtain ⟨e0, e1, e2, e3, e4, e5, e6, e7, _⟩ := HL.out.ownHas.eight
                    obtain ⟨S, hS⟩ : ∃ S, S = sgF m (uniR (L.take (k + 1))) := ⟨_, rfl⟩
                    rw [← hS] at HWW
                    have HSS := Lib.hid hS
                    clear hS
                    have off0 : (0 : Int) ≤ r := by omega
                    go_wp2_with fail
                    go_region_law (first
                      | (go_simp; go_at_call 49; ((with_reducible refine (HRW.out _).mono ?_); rintro e w8 ⟨rfl, hb8⟩; have HL8 := Lib.hid (HL.out.drew.kept hb8); obtain ⟨g0, g1, g2, g3, g4, g5, g6, g7, gf⟩ := HL8.out.ownHas.eight; clear hb8))
                      | (go_simp; go_at_call 48; ((with_reducible refine (HWW.out _).mono ?_); rintro e w9 ⟨rfl, hb9⟩; have HL9 := Lib.hid (HL8.out.kept hb9); obtain ⟨j0, j1, j2, j3, j4, j5, j6, j7, jf⟩ := HL9.out.ownHas.eight; clear hb9))
                      | fail)
                    all_goals
                      have HSN := Lib.hid (Law.put8Q (ts := []) HL9.out S)
                      clear HL HL8 HL9 e0 e1 e2 e3 e4 e5 e6 e7 g0 g1 g2 g3 g4 g5 g6 g7 gf j0 j1 j2 j3 j4 j5 j6 j7 jf p0 p1 c0
                      go_wp2_with fail
                      go_roundw
                      case rel => first | exact ⟨k + 1, by omega, by go_num, HAN, by rw [← HSS.out]; exact HSN⟩ | ((repeat apply Exists.intro); exact ⟨⟨k + 1, by omega, by go_num, HAN, by rw [← HSS.out]; exact HSN⟩, rfl⟩)
                      case measure => simp [intOf]; omega
          · have hno : plB m x = false := by simp [plB, hx2]
            obtain rfl : R = ⟨false, false⟩ := HR.out.trans (HNK.out hno)
            have hx4 : ((x.length : Int) != 2) = true := by rw [bne_iff_ne]; omega
            have HB := Lib.hid HL.out.below
            clear HL hr HNK HUK HAK hno
            generalize x.length = xl at *
            go_wp2_with fail
            go_ret2
            exact ⟨rfl, HB.out⟩
        · obtain rfl : k = L.length := by omega
          have hA := HA.out
          have hL := HL.out
          rw [List.take_length] at hA hL
          have hRR := HR.out.trans (HYES.out hA)
          obtain ⟨y, hy⟩ : ∃ y, y = seeAll m (uniR L) := ⟨_, rfl⟩
          rw [← hy] at hRR
          obtain rfl : R = ⟨y, true⟩ := hRR
          have heq := fun W => equal8 (sgF m (uniR L)) (sgF m allT) W
          rw [HE8.out (uniR L), ← hy] at heq
          clear hy
          generalize sgF m (uniR L) = F at *
          generalize sgF m allT = G at *
          obtain ⟨e0, e1, e2, e3, e4, e5, e6, e7, _⟩ := hL.ownHas.eight
          have HB := Lib.hid hL.below
          have f0 := cell_regrown e0
          have f1 := cell_regrown e1
          have f2 := cell_regrown e2
          have f3 := cell_regrown e3
          have f4 := cell_regrown e4
          have f5 := cell_regrown e5
          have f6 := cell_regrown e6
          have f7 := cell_regrown e7
          have HI := Lib.hid (fun d os => Calls.regrown_of (w := wo) (d := d) (os := os) (HAP.out _))
          clear HL hA hL e0 e1 e2 e3 e4 e5 e6 e7
          go_wp2_with fail
          refine wp_region_quiet_below (by kernel_rfl) (by kernel_rfl) ?_
          repeat (go_big_quiet_step ((go_at_call 50; exact HI.out _ _)))
          refine wpQuiet_nil ?_
          intro _ hw'
          obtain ⟨⟨dq, osq⟩, hw''⟩ := hw'
          subst hw''
          have HB2 := Lib.hid (below_on (w0 := w) HB.out (below_regrown wo dq osq))
          clear f0 f1 f2 f3 f4 f5 f6 f7 heq
          go_wp2_with fail
          go_ret2
          exact ⟨rfl, HB2.out⟩
    · rw [show watR m L = ⟨false, false⟩ by simp [watR, hle]]
      have hgt : (m : Int) < (L.length : Int) := by omega
      clear hle HO HLL
      generalize L.length = l at *
      go_enter Try.func21, Try.ntmps21
      go_wp2_with (go_at_call 44; ((with_reducible refine HQ.out.mono ?_); rintro e wQ ⟨rfl, hw⟩; subst wQ))
      go_ret2
      exact ⟨rfl, Below.refl _ _⟩
  · rw [inB_no hq] at HQ
    rw [show watR n L = ⟨false, false⟩ by simp [watR, inB_no hq]]
    clear hq HO HLL
    generalize L.length = l at *
    go_enter Try.func21, Try.ntmps21
    go_wp2_with (go_at_call 44; ((with_reducible refine HQ.out.mono ?_); rintro e wQ ⟨rfl, hw⟩; subst wQ))
    go_ret2
    exact ⟨rfl, Below.refl _ _⟩

end Go.Proofs.Ytmhlpaenfknofab
