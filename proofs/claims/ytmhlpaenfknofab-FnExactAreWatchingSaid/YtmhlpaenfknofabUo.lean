/- Queens that reach all places, in the specification. No condition but the sizes. -/
import Derived.Test.YtmhlpaenfknofabUn
import Derived.Test.YtmhlpaenfknofabUd
namespace Go.Proofs.Ytmhlpaenfknofab
open Go.RowKit Go.WideShapes Go.ChangeShapes Go.ChangeAt Go.Joins

theorem rch_abs (x y : Int) (i j : Nat) : (absQ (x - i) == 0 || (absQ (y - j) == 0 || absQ (x - i) == absQ (y - j))) = rchI [x, y] i j := by
  unfold rchI qQ bQ
  simp only [List.getD_cons_zero, List.getD_cons_succ]
  rw [Bool.eq_iff_iff]
  simp only [Bool.or_eq_true, beq_iff_eq]
  unfold absQ
  split <;> split <;> omega
theorem any_take (L : List (List Int)) (k i j : Nat) (hk : k < L.length) : uniR (L.take (k + 1)) i j = (uniR (L.take k) i j || rchI L[k] i j) := congrFun (congrFun (uniR_take L k hk) i) j
theorem see_no (n : Nat) (R : Nat → Nat → Bool) (i j : Nat) (hi : i < n) (hj : j < n) (h : R i j = false) : seeAll n R = false := by
  cases e : seeAll n R
  · rfl
  · rw [(seeAll_iff n R).1 e i j hi hj] at h
    cases h
set_option maxRecDepth 100000 in
set_option maxHeartbeats 12800000 in
theorem quWatched_any (n : Nat) (L : List (List Int)) (w : World) (hn : n ≤ 8) (hl : L.length ≤ 1048576) (hp : L.all (plB n) = true) (lo : Nat) (s : Value) (vs : List Value) (hO : OwnM w lo s vs L) :
    Calls Try.prog 47 #[.int .i64 n, s] w fun e w' => e = .returned (.bool (seeAll n (uniR L))) ∧ Below w.heap.size w w' := by
  obtain ⟨av, pv, rfl⟩ := ownM_shapeQ hO
  have HO := Lib.hid hO
  have HPL := Lib.hid (fun k (hk : k < L.length) => plB_two (List.all_eq_true.1 hp L[k] (List.getElem_mem hk)))
  have HTK := Lib.hid (any_take L)
  have HNO := Lib.hid (fun i j hi hj h => see_no n (uniR L) i j hi hj h)
  have HYES := Lib.hid (seeAll_iff n (uniR L)).2
  obtain ⟨y, hy⟩ : ∃ y, y = seeAll n (uniR L) := ⟨_, rfl⟩
  rw [← hy]
  have HY := Lib.hid hy
  have HB0 := Lib.hid (Below.refl w.heap.size w)
  clear hy hO hp
  go_enter Try.func47, Try.ntmps47
  go_wp2_with fail
  go_loopw [5] (fun i wr => ∃ r : Nat, r ≤ n ∧ i = .int .i64 r ∧ Hid (∀ i j, i < r → j < n → uniR L i j = true) ∧ Hid (Below w.heap.size w wr)) (fun i _ => n - (intOf i).toNat)
  case atStart => exact ⟨0, Nat.zero_le _, rfl, Lib.hid (fun i j h => absurd h (Nat.not_lt_zero i)), HB0⟩
  case round =>
    clear HB0
    obtain ⟨r, hr, rfl, HS, HB⟩ := hrel
    obtain ⟨wo, rfl⟩ : ∃ wo : World, wo = wr := ⟨_, rfl⟩
    by_cases hrn : r < n
    · go_wp2_with fail
      go_loopw [6] (fun i wr => ∃ c : Nat, c ≤ n ∧ i = .int .i64 c ∧ Hid (∀ j, j < c → uniR L r j = true) ∧ Hid (Below w.heap.size w wr)) (fun i _ => n - (intOf i).toNat)
      case atStart => exact ⟨0, Nat.zero_le _, rfl, Lib.hid (fun j h => absurd h (Nat.not_lt_zero j)), HB⟩
      case round =>
        clear HB
        obtain ⟨c, hc, rfl, HS2, HB⟩ := hrel
        obtain ⟨w4, rfl⟩ : ∃ w4 : World, w4 = wr := ⟨_, rfl⟩
        by_cases hcn : c < n
        · go_wp2_with fail
          go_loopw [7, 24] (fun v i wr => ∃ k : Nat, k ≤ L.length ∧ i = .int .i64 k ∧ v = .bool (uniR (L.take k) r c) ∧ Hid (Below w.heap.size w wr)) (fun _ i _ => L.length - (intOf i).toNat)
          case atStart => exact ⟨0, Nat.zero_le _, rfl, rfl, HB⟩
          case round =>
            clear HB
            obtain ⟨k, hk, rfl, rfl, HB⟩ := hrel
            obtain ⟨w5, rfl⟩ : ∃ w5 : World, w5 = wr := ⟨_, rfl⟩
            by_cases hlt : k < L.length
            · obtain ⟨g, rfl, ax, px, c0, hrd⟩ := rowQ_at (ownM_keptQ HO.out HB.out) k hlt
              obtain ⟨p, q, hx, hp, hq⟩ := HPL.out k hlt
              have htk := HTK.out k r c hlt
              generalize L[k] = x at *
              subst hx
              rw [← rch_abs] at htk
              obtain ⟨b, off, rfl, _, hcx⟩ := reads_row hrd (by simp)
              have p0 : w5.cell? ⟨b, off, none⟩ = some (.int .i64 p) := hcx 0 (by simp)
              have p1 : w5.cell? ⟨b, off + 1, none⟩ = some (.int .i64 q) := hcx 1 (by simp)
              simp only [List.length_cons, List.length_nil, Nat.zero_add, Nat.reduceAdd] at c0
              clear hcx hrd
              have HA0 := Lib.hid (fun W => flip (l1AbsQ_any ((p : Int) - r) W (by omega)))
              have HA1 := Lib.hid (fun W => flip (l1AbsQ_any ((q : Int) - c) W (by omega)))
              have hw1 : IntKind.i64.wrap ((p : Int) - r) = (p : Int) - r := IntWalk.i64_in _ (by omega)
              have hw2 : IntKind.i64.wrap ((q : Int) - c) = (q : Int) - c := IntWalk.i64_in _ (by omega)
              generalize absQ ((p : Int) - r) = d0 at *
              generalize absQ ((q : Int) - c) = d1 at *
              generalize uniR (L.take k) r c = u at *
              go_upto_region 11 with fail
              go_quiet ((first | (go_at_call 78; with_reducible exact Calls.quiet_of_same (HA0.out _)) | (go_at_call 78; with_reducible exact Calls.quiet_of_same (HA1.out _))))
              have HB2 := Lib.hid (below_drewN HB.out nq)
              clear p0 p1 c0 HA0 HA1 HB
              cases u
              · cases k1 : (d0 == 0)
                · cases k2 : (d1 == 0)
                  · cases k3 : (d0 == d1)
                    · have HN := Lib.hid (show uniR (L.take (k + 1)) r c = false by rw [htk, k1, k2, k3]; rfl)
                      clear htk
                      go_wp2_with fail
                      go_roundw
                      case rel => first | exact ⟨k + 1, by omega, by go_num, by rw [HN.out], HB2⟩ | ((repeat apply Exists.intro); exact ⟨⟨k + 1, by omega, by go_num, by rw [HN.out], HB2⟩, rfl⟩)
                      case measure => simp [intOf]; omega
                    · have HN := Lib.hid (show uniR (L.take (k + 1)) r c = true by rw [htk, k1, k2, k3]; rfl)
                      clear htk
                      go_wp2_with fail
                      go_roundw
                      case rel => first | exact ⟨k + 1, by omega, by go_num, by rw [HN.out], HB2⟩ | ((repeat apply Exists.intro); exact ⟨⟨k + 1, by omega, by go_num, by rw [HN.out], HB2⟩, rfl⟩)
                      case measure => simp [intOf]; omega
                  · have HN := Lib.hid (show uniR (L.take (k + 1)) r c = true by rw [htk, k1, k2]; rfl)
                    clear htk
                    go_wp2_with fail
                    go_roundw
                    case rel => first | exact ⟨k + 1, by omega, by go_num, by rw [HN.out], HB2⟩ | ((repeat apply Exists.intro); exact ⟨⟨k + 1, by omega, by go_num, by rw [HN.out], HB2⟩, rfl⟩)
                    case measure => simp [intOf]; omega
                · have HN := Lib.hid (show uniR (L.take (k + 1)) r c = true by rw [htk, k1]; rfl)
                  clear htk
                  go_wp2_with fail
                  go_roundw
                  case rel => first | exact ⟨k + 1, by omega, by go_num, by rw [HN.out], HB2⟩ | ((repeat apply Exists.intro); exact ⟨⟨k + 1, by omega, by go_num, by rw [HN.out], HB2⟩, rfl⟩)
                  case measure => simp [intOf]; omega
              · have HN := Lib.hid (show uniR (L.take (k + 1)) r c = true by rw [htk]; rfl)
                clear htk
                go_wp2_with fail
                go_roundw
                case rel => first | exact ⟨k + 1, by omega, by go_num, by rw [HN.out], HB2⟩ | ((repeat apply Exists.intro); exact ⟨⟨k + 1, by omega, by go_num, by rw [HN.out], HB2⟩, rfl⟩)
                case measure => simp [intOf]; omega
            · obtain rfl : k = L.length := by omega
              rw [List.take_length]
              cases hu : uniR L r c
              · obtain rfl : y = false := HY.out.trans (HNO.out r c hrn hcn hu)
                clear hu
                go_wp2_with fail
                go_ret
                exact ⟨rfl, HB.out⟩
              · have HN := Lib.hid (show ∀ j, j < c + 1 → uniR L r j = true from fun j hj => by
                  by_cases e : j < c
                  · exact HS2.out j e
                  · have : j = c := by omega
                    subst this
                    exact hu)
                clear hu
                go_wp2_with fail
                go_roundw
                case rel => first | exact ⟨c + 1, by omega, by go_num, HN, HB⟩ | ((repeat apply Exists.intro); exact ⟨⟨c + 1, by omega, by go_num, HN, HB⟩, rfl⟩)
                case measure => simp [intOf]; omega
        · obtain rfl : c = n := by omega
          have HN := Lib.hid (show ∀ i j, i < r + 1 → j < c → uniR L i j = true from fun i j hi hj => by
            by_cases e : i < r
            · exact HS.out i j e hj
            · have : i = r := by omega
              subst this
              exact HS2.out j hj)
          go_wp2_with fail
          go_roundw
          case rel => first | exact ⟨r + 1, by omega, by go_num, HN, HB⟩ | ((repeat apply Exists.intro); exact ⟨⟨r + 1, by omega, by go_num, HN, HB⟩, rfl⟩)
          case measure => simp [intOf]; omega
    · obtain rfl : r = n := by omega
      obtain rfl : y = true := HY.out.trans (HYES.out (fun i j hi hj => HS.out i j hi hj))
      go_wp2_with fail
      go_ret
      exact ⟨rfl, HB.out⟩
set_option maxRecDepth 100000 in
set_option maxHeartbeats 12800000 in
theorem specWat_any (n : Int) (L : List (List Int)) (w : World) (hl : L.length + total L ≤ 1048576) (lo : Nat) (s : Value) (vs : List Value) (hO : OwnM w lo s vs L) :
    Calls Try.prog 19 #[.int .i64 n, s] w fun e w' => AnsOO (watR n L) w e w' := by
  obtain ⟨av, pv, rfl⟩ := ownM_shapeQ hO
  have HQ := Lib.hid (quSide_any n w)
  have HO := Lib.hid hO
  clear hO
  by_cases hq : 1 ≤ n ∧ n ≤ 8
  · rw [inB_yes hq.1 hq.2] at HQ
    obtain ⟨m, rfl⟩ := Int.eq_ofNat_of_zero_le (show 0 ≤ n by omega)
    obtain ⟨q1, q8⟩ := hq
    by_cases hle : (L.length : Int) ≤ m
    · have hle3 : ¬ m < L.length := by omega
      have hle4 : ¬ (m : Int) < L.length := by omega
      have HNO := Lib.hid (fun k hk h => watR_no m L k hk h)
      have HYES := Lib.hid (fun (h : L.all (plB m) = true) => show watR m L = ⟨seeAll m (uniR L), true⟩ by simp [watR, inB_yes q1 q8, hle, h])
      have HAL := Lib.hid (all_takeQ L (plB m))
      have HWT := Lib.hid (fun (h : L.all (plB m) = true) => quWatched_any m L w (by omega) (by omega) h lo _ vs HO.out)
      have hm1 : wrap64 ((m : Int) - 1) = (m : Int) - 1 := IntWalk.wrap64_in _ (by omega)
      have HTL := Lib.hid (fun r (hr : r ∈ L) => show r.length ≤ 1048576 from by have := total_le L r hr; omega)
      obtain ⟨R, hR⟩ : ∃ R, R = watR m L := ⟨_, rfl⟩
      rw [← hR]
      have HR := Lib.hid hR
      clear hR
      go_enter Try.func19, Try.ntmps19
      go_wp2_with (go_at_call 42; ((with_reducible refine HQ.out.mono ?_); rintro e wQ ⟨rfl, hw⟩; subst wQ))
      go_loop [19] (fun i => ∃ k : Nat, k ≤ L.length ∧ i = .int .i64 k ∧ Hid ((L.take k).all (plB m) = true)) (fun i => L.length - (intOf i).toNat)
      case atStart => exact ⟨0, Nat.zero_le _, rfl, Lib.hid rfl⟩
      case round =>
        obtain ⟨k, hk, rfl, HA⟩ := hrel
        by_cases hlt : k < L.length
        · obtain ⟨g, rfl, ax, px, c0, hr⟩ := rowQ_at HO.out k hlt
          have HNK := Lib.hid (HNO.out k hlt)
          have HAK := Lib.hid (HAL.out k hlt HA.out)
          have hxl := HTL.out L[k] (List.getElem_mem hlt)
          generalize L[k] = x at *
          have HLA := Lib.hid (l1All_any ax px x 0 ((m : Int) - 1) w hxl hr)
          by_cases hx2 : x.length = 2
          · have hx4 : ((x.length : Int) != 2) = false := by rw [hx2]; rfl
            cases hwi : within 0 ((m : Int) - 1) x
            · obtain rfl : R = ⟨false, false⟩ := HR.out.trans (HNK.out (by simp [plB, hwi]))
              rw [hwi] at HLA
              clear HNK HAK hwi hr hx2
              generalize x.length = xl at *
              go_wp2_with (go_at_call 46; ((with_reducible refine HLA.out.mono ?_); rintro e wQ ⟨rfl, hw⟩; subst wQ))
              go_ret2
              exact ⟨rfl, Below.refl _ _⟩
            · have HAN := Lib.hid (HAK.out (by simp [plB, hwi, hx2]))
              rw [hwi] at HLA
              clear HNK HAK hwi hr hx2
              generalize x.length = xl at *
              go_wp2_with (go_at_call 46; ((with_reducible refine HLA.out.mono ?_); rintro e wQ ⟨rfl, hw⟩; subst wQ))
              clear c0
              go_round
              case rel => first | exact ⟨k + 1, by omega, by go_num, HAN⟩ | ((repeat apply Exists.intro); exact ⟨⟨k + 1, by omega, by go_num, HAN⟩, rfl⟩)
              case measure => simp [intOf]; omega
          · obtain rfl : R = ⟨false, false⟩ := HR.out.trans (HNK.out (by simp [plB, hx2]))
            have hx4 : ((x.length : Int) != 2) = true := by rw [bne_iff_ne]; omega
            clear hr HNK HAK HLA hx2
            generalize x.length = xl at *
            go_wp2_with fail
            go_ret2
            exact ⟨rfl, Below.refl _ _⟩
        · obtain rfl : k = L.length := by omega
          have hA := HA.out
          rw [List.take_length] at hA
          have hRR := HR.out.trans (HYES.out hA)
          have HWW := Lib.hid (HWT.out hA)
          obtain ⟨y, hy⟩ : ∃ y, y = seeAll m (uniR L) := ⟨_, rfl⟩
          rw [← hy] at hRR HWW
          obtain rfl : R = ⟨y, true⟩ := hRR
          clear hy hA
          go_wp2_with fail
          refine HWW.out.mono ?_
          rintro e w2 ⟨rfl, hb⟩
          have HB := Lib.hid hb
          clear hb
          go_wp2_with fail
          go_ret2
          exact ⟨rfl, HB.out⟩
    · rw [show watR m L = ⟨false, false⟩ by simp [watR, hle]]
      have hgt : (m : Int) < (L.length : Int) := by omega
      clear hle HO hl
      generalize L.length = l at *
      go_enter Try.func19, Try.ntmps19
      go_wp2_with (go_at_call 42; ((with_reducible refine HQ.out.mono ?_); rintro e wQ ⟨rfl, hw⟩; subst wQ))
      go_ret2
      exact ⟨rfl, Below.refl _ _⟩
  · rw [inB_no hq] at HQ
    rw [show watR n L = ⟨false, false⟩ by simp [watR, inB_no hq]]
    clear hq HO hl
    generalize L.length = l at *
    go_enter Try.func19, Try.ntmps19
    go_wp2_with (go_at_call 42; ((with_reducible refine HQ.out.mono ?_); rintro e wQ ⟨rfl, hw⟩; subst wQ))
    go_ret2
    exact ⟨rfl, Below.refl _ _⟩

end Go.Proofs.Ytmhlpaenfknofab
