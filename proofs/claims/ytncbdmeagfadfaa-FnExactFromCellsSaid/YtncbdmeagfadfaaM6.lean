/- A board out of its cells, in the specification. No condition but the sizes. -/
import Derived.Test.YtncbdmeagfadfaaM5
namespace Go.Proofs.Ytncbdmeagfadfaa
open Go.RowKit Go.WideShapes

def six (M : Nat → Int) : List Int := [M 0, M 1, M 2, M 3, M 4, M 5]
theorem six_zero (n : Nat) (hn : n ≤ 6) : List.replicate n (0 : Int) = (six (fun _ => 0)).take n := by
  have : n = 0 ∨ n = 1 ∨ n = 2 ∨ n = 3 ∨ n = 4 ∨ n = 5 ∨ n = 6 := by omega
  rcases this with rfl | rfl | rfl | rfl | rfl | rfl | rfl <;> rfl
theorem six_len (M : Nat → Int) (n : Nat) (hn : n ≤ 6) : ((six M).take n).length = n := by simp [six]; omega
theorem six_get (M : Nat → Int) (n q : Nat) (hn : n ≤ 6) (hq : q < n) : ((six M).take n).getD q 0 = M q := by
  have : q = 0 ∨ q = 1 ∨ q = 2 ∨ q = 3 ∨ q = 4 ∨ q = 5 := by omega
  rw [List.getD_eq_getElem?_getD, List.getElem?_take, if_pos hq]
  rcases this with rfl | rfl | rfl | rfl | rfl | rfl <;> rfl
theorem six_set (M N : Nat → Int) (n q : Nat) (hq : q < 6) (x : Int) (h1 : N q = x) (h2 : ∀ u, u ≠ q → N u = M u) : ((six M).take n).set q x = (six N).take n := by
  subst h1
  rw [← List.take_set]
  congr 1
  have : q = 0 ∨ q = 1 ∨ q = 2 ∨ q = 3 ∨ q = 4 ∨ q = 5 := by omega
  rcases this with rfl | rfl | rfl | rfl | rfl | rfl <;> simp [six, h2]

set_option maxRecDepth 100000 in
set_option maxHeartbeats 6400000 in
theorem specFrom_any (r c : Int) (rss : List (List Int)) (w : World) (hl : rss.length ≤ 1048576) (lo : Nat) (s : Value) (vs : List Value) (hO : OwnM w lo s vs rss) :
    Calls Try.prog 34 #[.int .i64 r, .int .i64 c, s] w fun e w' => AnsB (fromB r c rss) w e w' := by
  have L0 := (Law.start w).box (.int .i64 0) (.int .i64 0) (.slice none 0 0) 27
  obtain ⟨a, cap, rfl, _⟩ := hO.form
  have HVL := Lib.hid (show vs.length = rss.length from hO.len.symm)
  cases h1 : inB 1 r 6
  · rw [fromB_off rss (by rw [h1]; rfl)]
    have HB := Lib.hid L0.below
    have C1 := Lib.hid (at_bool (boSide_any r) h1)
    clear L0 hO h1
    go_enter Try.func34, Try.ntmps34
    go_wp2_with (go_at_call 55; with_reducible refine (C1.out _).mono ?_; rintro e w' ⟨rfl, rfl⟩)
    refine bodyPost_ret (v := .tuple #[.agg #[.int .i64 0, .int .i64 0, .slice none 0 0], .bool false]) (by simp [results, Try.results34, go_sem]) rfl (ansB_zero _ _ ?_)
    exact HB.out
  · cases h2 : inB 1 c 6
    · rw [fromB_off rss (by rw [h1, h2]; rfl)]
      have HB := Lib.hid L0.below
      have C1 := Lib.hid (at_bool (boSide_any r) h1)
      have C2 := Lib.hid (at_bool (boSide_any c) h2)
      clear L0 hO h1 h2
      go_enter Try.func34, Try.ntmps34
      go_wp2_with (first | (go_at_call 55; ((with_reducible refine (C1.out _).mono ?_); rintro e w' ⟨rfl, rfl⟩)) | (go_at_call 55; ((with_reducible refine (C2.out _).mono ?_); rintro e w' ⟨rfl, rfl⟩)))
      refine bodyPost_ret (v := .tuple #[.agg #[.int .i64 0, .int .i64 0, .slice none 0 0], .bool false]) (by simp [results, Try.results34, go_sem]) rfl (ansB_zero _ _ ?_)
      exact HB.out
    · have H12 := Lib.hid (show (inB 1 r 6 && inB 1 c 6) = true by rw [h1, h2]; rfl)
      obtain ⟨r1, r2⟩ := inB_iff.1 h1
      obtain ⟨c1, c2⟩ := inB_iff.1 h2
      obtain ⟨n, rfl⟩ := Int.eq_ofNat_of_zero_le (show 0 ≤ r by omega)
      obtain ⟨m, rfl⟩ := Int.eq_ofNat_of_zero_le (show 0 ≤ c by omega)
      have C1 := Lib.hid (at_bool (boSide_any n) h1)
      have C2 := Lib.hid (at_bool (boSide_any m) h2)
      by_cases h36 : 36 < rss.length
      · have hz : goC n m (fun _ => 0) rss = none := by
          cases hg : goC n m (fun _ => 0) rss with
          | none => rfl
          | some M => have := goC_len (by omega) (by omega) hg; omega
        rw [fromB_none hz]
        have HB := Lib.hid L0.below
        have hv36 : (36 : Int) < vs.length := by have := HVL.out; omega
        clear L0 hO h1 h2 hz HVL h36
        go_enter Try.func34, Try.ntmps34
        go_wp2_with (first | (go_at_call 55; ((with_reducible refine (C1.out _).mono ?_); rintro e w' ⟨rfl, rfl⟩)) | (go_at_call 55; ((with_reducible refine (C2.out _).mono ?_); rintro e w' ⟨rfl, rfl⟩)))
        refine bodyPost_ret (v := .tuple #[.agg #[.int .i64 0, .int .i64 0, .slice none 0 0], .bool false]) (by simp [results, Try.results34, go_sem]) rfl (ansB_zero _ _ ?_)
        exact HB.out
      · have HO := Lib.hid hO
        have hv36 : (vs.length : Int) ≤ 36 := by have := HVL.out; omega
        have HL0 := Lib.hid L0
        clear L0 h1 h2 hO h36
        go_enter Try.func34, Try.ntmps34
        go_upto_region 3 with (first | (go_at_call 55; ((with_reducible refine (C1.out _).mono ?_); rintro e w' ⟨rfl, rfl⟩)) | (go_at_call 55; ((with_reducible refine (C2.out _).mono ?_); rintro e w' ⟨rfl, rfl⟩)))
        clear C1 C2
        go_wp2_with fail
        refine (boEmpty_any n m _ (by omega)).mono ?_
        rintro e w2 ⟨s1, rfl, hE, hb⟩
        rcases hE.cases with ⟨_, h0⟩ | ⟨gs, ps, hv, _⟩
        · have : n = 0 := by simpa using congrArg List.length h0
          omega
        · subst hv
          rw [List.length_replicate] at *
          have L2 := HL0.out.own hb hE
          rw [six_zero n (by omega)] at L2
          have L3 := L2.box (.int .i64 n) (.int .i64 m) (.slice (some ⟨gs, 0, none⟩) n ps) 27
          have HL := Lib.hid L3
          clear L2 L3 HL0 hE hb
          go_upto_region 4 with fail
          obtain ⟨bb, hbb⟩ : ∃ bb, bb = w2.heap.size := ⟨_, rfl⟩
          rw [← hbb] at HL ⊢
          generalize w2.alloc (.cells #[.int .i64 n, .int .i64 m, .slice (some ⟨gs, 0, none⟩) n ps] 27) = w5 at *
          clear hbb
          go_wp2_with fail
          go_loopw [30] (fun i wr => ∃ (k : Nat) (M : Nat → Int), k ≤ vs.length ∧ i = .int .i64 k ∧ Hid (goC n m (fun _ => 0) (rss.take k) = some M) ∧ Law w [tBox bb (.int .i64 n) (.int .i64 m) (.slice (some ⟨gs, 0, none⟩) n ps), tOwn (.slice (some ⟨gs, 0, none⟩) n ps) ((six M).take n), tBox w.heap.size (.int .i64 0) (.int .i64 0) (.slice none 0 0)] wr) (fun i _ => vs.length - (intOf i).toNat)
          case atStart => exact ⟨0, fun _ => 0, Nat.zero_le _, rfl, rfl, HL.out⟩
          case round =>
            clear HL
            obtain ⟨k, M, hk, rfl, HG, L⟩ := hrel
            have HLr := Lib.hid L
            by_cases hlt : k < vs.length
            · have hkr : k < rss.length := by have := HVL.out; omega
              have hOk := HO.out.kept L.below
              obtain ⟨a', cap', hv, hc⟩ := hOk.form
              injection hv with ha hb hcp
              subst ha
              obtain ⟨g, rfl, c1⟩ := hc k hlt
              have hrow := hOk.row k hlt
              have hst := goC_stop n m rss (fun _ => 0) M k hkr HG.out
              have hnx := goC_next n m rss (fun _ => 0) M k hkr HG.out
              have hbd := (goC_fit n m (by omega) (by omega) (rss.take k) (fun _ => 0) M 0 fit_zero HG.out).bd
              generalize rss[k] = x at *
              obtain ⟨ax, px, hvx, _⟩ := hrow.reads
              rw [hvx] at c1 hrow
              clear hOk hb hcp hc hvx
              by_cases hx2 : x.length = 2
              · obtain ⟨i, j, rfl⟩ : ∃ i j, x = [i, j] := by
                  match x, hx2 with
                  | [i, j], _ => exact ⟨i, j, rfl⟩
                rcases hrow.cases with ⟨_, h0⟩ | ⟨gr, cr, hvr, _⟩
                · cases h0
                · injection hvr with ha hb hcp
                  subst ha
                  subst hcp
                  have p0 : wr.cell? ⟨gr, 0, none⟩ = some (.int .i64 i) := hrow.cell 0 (by simp)
                  have p1 : wr.cell? ⟨gr, 1, none⟩ = some (.int .i64 j) := hrow.cell 1 (by simp)
                  simp only [List.length_cons, List.length_nil, Nat.zero_add, Nat.reduceAdd] at c1
                  clear hb hx2
                  cases hi : inB 0 i ((n : Int) - 1)
                  · have HZ := Lib.hid (fromB_none (r := n) (c := m) (hst (by
                      unfold okC
                      rw [show insB n m ([i, j].getD 0 0) ([i, j].getD 1 0) = false from insB_no (fun h => by
                        have : inB 0 i ((n : Int) - 1) = true := inB_yes h.1 (by have := h.2.1; have e : ([i, j] : List Int).getD 0 0 = i := rfl; omega)
                        rw [hi] at this
                        cases this)]
                      simp)))
                    have C3 := Lib.hid (at_bool (l1In_any i 0 ((n : Int) - 1)) hi)
                    clear L hst hnx hi hrow hbd
                    go_upto_region 7 with fail
                    go_cut [64] (fun t w' => t = .bool true ∧ Below wr.heap.size wr w')
                    case first =>
                      go_quiet ((go_at_call 68; with_reducible exact Calls.quiet_of_same (C3.out _)))
                      go_wp2_with fail
                      go_meet
                      exact ⟨rfl, below_drewN (Below.refl _ _) _⟩
                    obtain ⟨rfl, hb⟩ := hcut
                    have L2 := HLr.out.kept hb
                    have ⟨_, n0, n1, n2, nf⟩ := L2.tl.tl.ownBox
                    have HB := Lib.hid L2.below
                    clear L2 hb HLr
                    go_wp2_with fail
                    refine bodyPost_ret (v := .tuple #[.agg #[.int .i64 0, .int .i64 0, .slice none 0 0], .bool false]) (by simp [results, Try.results34, go_sem, n0, n1, n2]) rfl ?_
                    rw [HZ.out]
                    refine ansB_zero _ _ ?_
                    exact ((HB.out.setCell (by simp <;> omega) _).setCell (by simp <;> omega) _).setCell (by simp <;> omega) _
                  · cases hj : inB 0 j ((m : Int) - 1)
                    · have HZ := Lib.hid (fromB_none (r := n) (c := m) (hst (by
                        unfold okC
                        rw [show insB n m ([i, j].getD 0 0) ([i, j].getD 1 0) = false from insB_no (fun h => by
                          have : inB 0 j ((m : Int) - 1) = true := inB_yes h.2.2.1 (by have := h.2.2.2; have e : ([i, j] : List Int).getD 1 0 = j := rfl; omega)
                          rw [hj] at this
                          cases this)]
                        simp)))
                      have C3 := Lib.hid (at_bool (l1In_any i 0 ((n : Int) - 1)) hi)
                      have C4 := Lib.hid (at_bool (l1In_any j 0 ((m : Int) - 1)) hj)
                      clear L hst hnx hi hj hrow hbd
                      go_upto_region 7 with fail
                      go_cut [64] (fun t w' => t = .bool true ∧ Below wr.heap.size wr w')
                      case first =>
                        go_quiet ((first | (go_at_call 68; with_reducible exact Calls.quiet_of_same (C3.out _)) | (go_at_call 68; with_reducible exact Calls.quiet_of_same (C4.out _))))
                        go_wp2_with fail
                        go_meet
                        exact ⟨rfl, below_drewN (Below.refl _ _) _⟩
                      obtain ⟨rfl, hb⟩ := hcut
                      have L2 := HLr.out.kept hb
                      have ⟨_, n0, n1, n2, nf⟩ := L2.tl.tl.ownBox
                      have HB := Lib.hid L2.below
                      clear L2 hb HLr
                      go_wp2_with fail
                      refine bodyPost_ret (v := .tuple #[.agg #[.int .i64 0, .int .i64 0, .slice none 0 0], .bool false]) (by simp [results, Try.results34, go_sem, n0, n1, n2]) rfl ?_
                      rw [HZ.out]
                      refine ansB_zero _ _ ?_
                      exact ((HB.out.setCell (by simp <;> omega) _).setCell (by simp <;> omega) _).setCell (by simp <;> omega) _
                    · have C3 := Lib.hid (at_bool (l1In_any i 0 ((n : Int) - 1)) hi)
                      have C4 := Lib.hid (at_bool (l1In_any j 0 ((m : Int) - 1)) hj)
                      obtain ⟨i1, i2⟩ := inB_iff.1 hi
                      obtain ⟨j1, j2⟩ := inB_iff.1 hj
                      have hin : insB n m i j = true := insB_iff.2 ⟨i1, by omega, j1, by omega⟩
                      obtain ⟨q, rfl⟩ := Int.eq_ofNat_of_zero_le i1
                      obtain ⟨l, rfl⟩ := Int.eq_ofNat_of_zero_le j1
                      have hOd := (L.tl.ownInts.kept ((Below.refl wr.heap.size wr).drew))
                      have hgq := six_get M n q (by omega) (by omega)
                      have hln := six_len M n (by omega)
                      have hA := boHas_any n m ((six M).take n) q l wr.drew (by rw [hln]; omega) (by rw [hln]; omega) (by omega) (by rw [hgq]; exact hbd q) 0 _ hOd
                      rw [hgq] at hA
                      have e3 : wr.drew.cell? ⟨gr, 0, none⟩ = some (.int .i64 q) := p0
                      have e4 : wr.drew.cell? ⟨gr, 1, none⟩ = some (.int .i64 l) := p1
                      have HB := Lib.hid ((Below.refl wr.heap.size wr).drew)
                      obtain ⟨_, e0, e1, e2, _⟩ := L.drew.ownBox
                      have hwn : IntKind.i64.wrap ((n : Int) - 1) = (n : Int) - 1 := IntWalk.i64_in _ (by omega)
                      have hwm : IntKind.i64.wrap ((m : Int) - 1) = (m : Int) - 1 := IntWalk.i64_in _ (by omega)
                      cases hp : (M q).toNat.testBit l
                      · have HA := Lib.hid (at_boolB hA hp)
                        have HNX := Lib.hid (hnx (by unfold okC; simp [hin, hp]))
                        clear L hst hnx hi hj hrow hOd hA hin
                        go_upto_region 7 with fail
                        go_cut [64] (fun t w' => t = .bool false ∧ Below wr.heap.size wr w')
                        case first =>
                          go_region_held3 (fun w' => w'.cell? ⟨bb, 0, none⟩ = some (.int .i64 n) ∧ w'.cell? ⟨bb, 1, none⟩ = some (.int .i64 m) ∧ w'.cell? ⟨bb, 2, none⟩ = some (.slice (some ⟨gs, 0, none⟩) n ps) ∧ w'.cell? ⟨gr, 0, none⟩ = some (.int .i64 q) ∧ w'.cell? ⟨gr, 1, none⟩ = some (.int .i64 l)) (first | (repeat' apply And.intro) <;> first | with_reducible assumption | assumption) ((first | (go_at_call 68; ((with_reducible refine (C3.out _).mono ?_); rintro e w' ⟨rfl, rfl⟩)) | (go_at_call 68; ((with_reducible refine (C4.out _).mono ?_); rintro e w' ⟨rfl, rfl⟩)) | (go_at_call 64; ((with_reducible refine (HA.out).mono ?_); rintro e w1 ⟨rfl, hb⟩; have m0 := cell_later hb e0; have m1 := cell_later hb e1; have m2 := cell_later hb e2; have m3 := cell_later hb e3; have m4 := cell_later hb e4; have HB2 := Lib.hid (below_on (w0 := wr) (w := wr.drew) HB.out hb); clear hb))))
                          all_goals
                            go_wp2_with fail
                            go_meet
                            exact ⟨rfl, HB2.out⟩
                        obtain ⟨rfl, hb⟩ := hcut
                        have L2 := HLr.out.kept hb
                        obtain ⟨_, b0, b1, b2, _⟩ := L2.ownBox
                        have hOk := L2.tl.ownInts
                        have hcz := Own.cell (by rw [hln]; exact hOk) q (by omega)
                        have hfz := Own.free (by rw [hln]; exact hOk) q
                        rw [hgq] at hcz
                        have z0 := cell_later hb p0
                        have z1 := cell_later hb p1
                        obtain ⟨P, hP, hp1, hp2, hp3, hp4⟩ := pow_facts l (by omega)
                        obtain ⟨d0, d1⟩ := hbd q
                        have hs1 := sum_in (M q) P (by omega) hp3 hp4
                        have hS := Law.store (ts := [_]) L2 hln q (M q + P)
                        rw [six_set M (addC M [(q : Int), (l : Int)]) n q (by omega) (M q + P) (by simp [addC, hP]) (fun u hu => by simp [addC, hu])] at hS
                        have HS := Lib.hid hS.drew
                        have hqn : (q : Int) < n := by omega
                        have hl64 : (l : Int) < 64 := by omega
                        generalize M q = mq at *
                        generalize wc = w7 at *
                        clear L2 hS hb HLr hOk hP e0 e1 e2 e3 e4 p0 p1 hp hgq hln
                        go_wp2_with fail
                        go_region
                        go_wp2_with fail
                        go_roundw
                        case rel => exact ⟨k + 1, _, by omega, by go_num, HNX.out, HS.out⟩
                        case measure => simp [intOf]; omega
                      · have HA := Lib.hid (at_boolB hA hp)
                        have HZ := Lib.hid (fromB_none (r := n) (c := m) (hst (by unfold okC; simp [hin, hp])))
                        clear L hst hnx hi hj hrow hOd hA hin hp
                        go_upto_region 7 with fail
                        go_cut [64] (fun t w' => t = .bool true ∧ Below wr.heap.size wr w')
                        case first =>
                          go_region_held3 (fun w' => w'.cell? ⟨bb, 0, none⟩ = some (.int .i64 n) ∧ w'.cell? ⟨bb, 1, none⟩ = some (.int .i64 m) ∧ w'.cell? ⟨bb, 2, none⟩ = some (.slice (some ⟨gs, 0, none⟩) n ps) ∧ w'.cell? ⟨gr, 0, none⟩ = some (.int .i64 q) ∧ w'.cell? ⟨gr, 1, none⟩ = some (.int .i64 l)) (first | (repeat' apply And.intro) <;> first | with_reducible assumption | assumption) ((first | (go_at_call 68; ((with_reducible refine (C3.out _).mono ?_); rintro e w' ⟨rfl, rfl⟩)) | (go_at_call 68; ((with_reducible refine (C4.out _).mono ?_); rintro e w' ⟨rfl, rfl⟩)) | (go_at_call 64; ((with_reducible refine (HA.out).mono ?_); rintro e w1 ⟨rfl, hb⟩; have m0 := cell_later hb e0; have m1 := cell_later hb e1; have m2 := cell_later hb e2; have m3 := cell_later hb e3; have m4 := cell_later hb e4; have HB2 := Lib.hid (below_on (w0 := wr) (w := wr.drew) HB.out hb); clear hb))))
                          all_goals
                            go_wp2_with fail
                            go_meet
                            exact ⟨rfl, HB2.out⟩
                        obtain ⟨rfl, hb⟩ := hcut
                        have L2 := HLr.out.kept hb
                        have ⟨_, n0, n1, n2, nf⟩ := L2.tl.tl.ownBox
                        have HB := Lib.hid L2.below
                        clear L2 hb HLr
                        go_wp2_with fail
                        refine bodyPost_ret (v := .tuple #[.agg #[.int .i64 0, .int .i64 0, .slice none 0 0], .bool false]) (by simp [results, Try.results34, go_sem, n0, n1, n2]) rfl ?_
                        rw [HZ.out]
                        refine ansB_zero _ _ ?_
                        exact ((HB.out.setCell (by simp <;> omega) _).setCell (by simp <;> omega) _).setCell (by simp <;> omega) _
              · have HZ := Lib.hid (fromB_none (r := n) (c := m) (hst (by unfold okC; simp [hx2])))
                have hx4 : ((x.length : Int) != 2) = true := by rw [bne_iff_ne]; omega
                generalize x.length = xl at *
                clear hst hnx hrow hbd L
                go_upto_region 7 with fail
                go_cut [64] (fun t w' => t = .bool true ∧ Below wr.heap.size wr w')
                case first =>
                  go_quiet (fail)
                  go_wp2_with fail
                  go_meet
                  exact ⟨rfl, below_drewN (Below.refl _ _) _⟩
                obtain ⟨rfl, hb⟩ := hcut
                have L2 := HLr.out.kept hb
                have ⟨_, n0, n1, n2, nf⟩ := L2.tl.tl.ownBox
                have HB := Lib.hid L2.below
                clear L2 hb HLr
                go_wp2_with fail
                refine bodyPost_ret (v := .tuple #[.agg #[.int .i64 0, .int .i64 0, .slice none 0 0], .bool false]) (by simp [results, Try.results34, go_sem, n0, n1, n2]) rfl ?_
                rw [HZ.out]
                refine ansB_zero _ _ ?_
                exact ((HB.out.setCell (by simp <;> omega) _).setCell (by simp <;> omega) _).setCell (by simp <;> omega) _
            · obtain rfl : k = vs.length := by omega
              have hg := HG.out
              rw [HVL.out, List.take_length] at hg
              have HR := Lib.hid (show fromB n m rss = ⟨n, m, (six M).take n, true⟩ by rw [fromB_some H12.out hg, Int.toNat_natCast]; rfl)
              obtain ⟨_, b0, b1, b2, _⟩ := L.ownBox
              have ⟨_, n0, n1, n2, nf⟩ := L.tl.tl.ownBox
              have hfin := L.tl.fin3 (n := w.heap.size) (x := .int .i64 0) (y := .int .i64 0) (z := .slice none 0 0) (by simp) (.int .i64 n) (.int .i64 m) (.slice (some ⟨gs, 0, none⟩) n ps)
              have HF := Lib.hid hfin
              clear L hg hfin HLr
              go_wp2_with fail
              refine bodyPost_ret (v := .tuple #[.agg #[.int .i64 n, .int .i64 m, .slice (some ⟨gs, 0, none⟩) n ps], .bool true]) (by simp [results, Try.results34, go_sem, n0, n1, n2]) rfl ?_
              rw [HR.out]
              exact ⟨_, rfl, HF.out.1, HF.out.2⟩

end Go.Proofs.Ytncbdmeagfadfaa
