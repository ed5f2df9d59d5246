/- The least of eight lists, in the program. No condition but the sizes. -/
import Derived.Test.YtmhlpaenfknofaaUp
namespace Go.Proofs.Ytmhlpaenfknofaa
open Go.RowKit Go.WideShapes

def pkO (O : List (List Int)) (B : List Int) (j : Nat) : List Int := (O.take j).foldl (fun b o => pickL o b) B
theorem pkO_succ (O : List (List Int)) (B : List Int) (j : Nat) (hj : j < O.length) : pkO O B (j + 1) = pickL O[j] (pkO O B j) := by
  unfold pkO
  rw [List.take_succ_eq_append_getElem hj, List.foldl_append]
  rfl
theorem own_pairQ (w : World) (p q : List Int) (n : Nat) (hp : p.length = n) (hq : q.length = n) : OwnQ (w.alloc (.cells #[.int .i64 n, .int .i64 (cF p 0), .int .i64 (cF p 1), .int .i64 (cF p 2), .int .i64 (cF p 3), .int .i64 (cF p 4), .int .i64 (cF p 5), .int .i64 (cF p 6), .int .i64 (cF p 7), .int .i64 n, .int .i64 (cF q 0), .int .i64 (cF q 1), .int .i64 (cF q 2), .int .i64 (cF q 3), .int .i64 (cF q 4), .int .i64 (cF q 5), .int .i64 (cF q 6), .int .i64 (cF q 7)] 46)) w.heap.size (.slice (some ⟨w.heap.size, 0, none⟩) 2 2) [p, q] := by
  have h : (w.alloc (.cells #[.int .i64 n, .int .i64 (cF p 0), .int .i64 (cF p 1), .int .i64 (cF p 2), .int .i64 (cF p 3), .int .i64 (cF p 4), .int .i64 (cF p 5), .int .i64 (cF p 6), .int .i64 (cF p 7), .int .i64 n, .int .i64 (cF q 0), .int .i64 (cF q 1), .int .i64 (cF q 2), .int .i64 (cF q 3), .int .i64 (cF q 4), .int .i64 (cF q 5), .int .i64 (cF q 6), .int .i64 (cF q 7)] 46)).ownsRow w.heap.size 46 9 (.slice (some ⟨w.heap.size, 0, none⟩) 2 2) 2 (ql n (cF p) ++ ql n (cF q)) := World.ownsRow_lit w #[.int .i64 n, .int .i64 (cF p 0), .int .i64 (cF p 1), .int .i64 (cF p 2), .int .i64 (cF p 3), .int .i64 (cF p 4), .int .i64 (cF p 5), .int .i64 (cF p 6), .int .i64 (cF p 7), .int .i64 n, .int .i64 (cF q 0), .int .i64 (cF q 1), .int .i64 (cF q 2), .int .i64 (cF q 3), .int .i64 (cF q 4), .int .i64 (cF q 5), .int .i64 (cF q 6), .int .i64 (cF q 7)] 2 (Nat.le_refl _) (by unfold maxLen; omega) rfl
  unfold OwnQ
  rw [show quC [p, q] = ql n (cF p) ++ ql n (cF q) by simp [quC, hp, hq]]
  exact h
set_option maxRecDepth 100000 in
set_option maxHeartbeats 12800000 in
theorem least_any9 (n : Nat) (q : List Int) (w : World) (h : RgB n q) (hn : 1 ≤ n) (h8 : n ≤ 8) :
    Calls Try.prog 64 #[qv n (cF q)] w fun e w' => e = .returned (qv n (cF (leastL q))) ∧ Below w.heap.size w w' := by
  have L0 := ((Law.start w).has (ql n (cF q)) 46).has (ql 0 (fun _ => 0)) 46
  simp only [World.size_alloc] at L0
  rw [show (w.alloc (.cells (ql n (cF q)).toArray 46)).alloc (.cells (ql 0 (fun _ => 0)).toArray 46) = (w.alloc (.cells #[.int .i64 n, .int .i64 (cF q 0), .int .i64 (cF q 1), .int .i64 (cF q 2), .int .i64 (cF q 3), .int .i64 (cF q 4), .int .i64 (cF q 5), .int .i64 (cF q 6), .int .i64 (cF q 7)] 46)).alloc (.cells #[.int .i64 0, .int .i64 0, .int .i64 0, .int .i64 0, .int .i64 0, .int .i64 0, .int .i64 0, .int .i64 0, .int .i64 0] 46) from rfl] at L0
  have HL := Lib.hid L0
  have HRG := Lib.hid (fun k => iterQ_rg h hn k)
  have HIT := Lib.hid (fun k => show iterQ q (k + 1) = (turnL (iterQ q k).1, pickL (mirL (turnL (iterQ q k).1)) (pickL (turnL (iterQ q k).1) (iterQ q k).2)) from rfl)
  have HLQ := Lib.hid (show leastL q = (iterQ q 4).2 from rfl)
  have HI0 := Lib.hid (show (iterQ q 0).2 = q from rfl)
  have HI1 := Lib.hid (show (iterQ q 0).1 = q from rfl)
  rw [HLQ.out]
  clear L0 h
  go_enter Try.func64, Try.ntmps64
  go_upto_region 1 with fail
  generalize (w.alloc _).alloc _ = w1 at *
  obtain ⟨f0, f1, f2, f3, f4, f5, f6, f7, f8, ff⟩ := ql_held HL.out.tl.ownHas
  have L2 := HL.out.has (ql n (cF q)) 46
  rw [show w1.alloc (.cells (ql n (cF q)).toArray 46) = w1.alloc (.cells #[.int .i64 n, .int .i64 (cF q 0), .int .i64 (cF q 1), .int .i64 (cF q 2), .int .i64 (cF q 3), .int .i64 (cF q 4), .int .i64 (cF q 5), .int .i64 (cF q 6), .int .i64 (cF q 7)] 46) from rfl] at L2
  have HL2 := Lib.hid L2
  clear L2 HL
  go_upto_region 2 with fail
  clear f0 f1 f2 f3 f4 f5 f6 f7 f8 ff
  obtain ⟨b3, hb3⟩ : ∃ b3, b3 = w1.heap.size := ⟨_, rfl⟩
  rw [← hb3] at HL2 ⊢
  clear hb3
  generalize w1.alloc _ = w2 at *
  go_wp2_with fail
  go_loopw [7] (fun i wr => ∃ k : Nat, k ≤ 4 ∧ i = .int .i64 k ∧ Hid (Law w [tHas b3 (ql n (cF (iterQ q k).2)) 46, tHas (w.heap.size + 1) (ql 0 (fun _ => 0)) 46, tHas w.heap.size (ql n (cF (iterQ q k).1)) 46] wr)) (fun i _ => 4 - (intOf i).toNat)
  case atStart => exact ⟨0, Nat.zero_le _, rfl, by rw [HI0.out, HI1.out]; exact HL2⟩
  case round =>
    clear HL2
    obtain ⟨k, hk, rfl, HL⟩ := hrel
    obtain ⟨wo, rfl⟩ : ∃ wo : World, wo = wr := ⟨_, rfl⟩
    by_cases hlt : k < 4
    · obtain ⟨hq1, hq2⟩ := HRG.out k
      have hit := HIT.out k
      have hT := fun W => turned_any9 n (iterQ q k).1 W hq1 hn h8
      have hrg1 := turnL_rg hq1 hn
      have hL := HL.out
      generalize (iterQ q k).1 = Q0 at *
      generalize (iterQ q k).2 = B at *
      generalize turnL Q0 = Q1 at *
      have HT := Lib.hid hT
      have HM := Lib.hid (fun W => mirrored_any n Q1 W hrg1 h8)
      have HIT1 := Lib.hid hit
      have HRG1 := Lib.hid hrg1
      have HRGB := Lib.hid hq2
      obtain ⟨f0, f1, f2, f3, f4, f5, f6, f7, f8, ff⟩ := ql_held hL.tl.tl.ownHas
      clear hT hit hrg1 hq1 hq2 HL
      have HL := Lib.hid hL
      clear hL
      go_wp2_with fail
      refine (HT.out _).mono ?_
      rintro e w3 ⟨rfl, hb⟩
      have HL3 := Lib.hid (HL.out.kept hb)
      clear hb HL HT f0 f1 f2 f3 f4 f5 f6 f7 f8 ff
      obtain ⟨f0, f1, f2, f3, f4, f5, f6, f7, f8, ff⟩ := ql_held HL3.out.tl.tl.ownHas
      have HS := Lib.hid (Law.putQ (ts := [_, _]) (ts' := []) HL3.out n (cF Q1))
      clear HL3
      go_upto_region 5 with fail
      clear f0 f1 f2 f3 f4 f5 f6 f7 f8 ff
      generalize (((((((((w3.setCell ⟨w.heap.size, 0, none⟩ (.int .i64 n)).setCell ⟨w.heap.size, 1, none⟩ (.int .i64 (cF Q1 0))).setCell ⟨w.heap.size, 2, none⟩ (.int .i64 (cF Q1 1))).setCell ⟨w.heap.size, 3, none⟩ (.int .i64 (cF Q1 2))).setCell ⟨w.heap.size, 4, none⟩ (.int .i64 (cF Q1 3))).setCell ⟨w.heap.size, 5, none⟩ (.int .i64 (cF Q1 4))).setCell ⟨w.heap.size, 6, none⟩ (.int .i64 (cF Q1 5))).setCell ⟨w.heap.size, 7, none⟩ (.int .i64 (cF Q1 6))).setCell ⟨w.heap.size, 8, none⟩ (.int .i64 (cF Q1 7))) = w4 at *
      have HL := Lib.hid HS.out.drew
      clear HS
      obtain ⟨k0, k1, k2, k3, k4, k5, k6, k7, k8, _⟩ := ql_held HL.out.tl.tl.ownHas
      go_region_held3 (fun w' => w'.cell? ⟨w.heap.size, 0, none⟩ = some (.int .i64 n) ∧ w'.cell? ⟨w.heap.size, 1, none⟩ = some (.int .i64 (cF Q1 0)) ∧ w'.cell? ⟨w.heap.size, 2, none⟩ = some (.int .i64 (cF Q1 1)) ∧ w'.cell? ⟨w.heap.size, 3, none⟩ = some (.int .i64 (cF Q1 2)) ∧ w'.cell? ⟨w.heap.size, 4, none⟩ = some (.int .i64 (cF Q1 3)) ∧ w'.cell? ⟨w.heap.size, 5, none⟩ = some (.int .i64 (cF Q1 4)) ∧ w'.cell? ⟨w.heap.size, 6, none⟩ = some (.int .i64 (cF Q1 5)) ∧ w'.cell? ⟨w.heap.size, 7, none⟩ = some (.int .i64 (cF Q1 6)) ∧ w'.cell? ⟨w.heap.size, 8, none⟩ = some (.int .i64 (cF Q1 7))) (first | exact ⟨k0, k1, k2, k3, k4, k5, k6, k7, k8⟩ | exact ⟨cell_later (below_new _) k0, cell_later (below_new _) k1, cell_later (below_new _) k2, cell_later (below_new _) k3, cell_later (below_new _) k4, cell_later (below_new _) k5, cell_later (below_new _) k6, cell_later (below_new _) k7, cell_later (below_new _) k8⟩) ((first
        | (go_at_call 68; ((with_reducible refine (HM.out _).mono ?_); rintro r wA ⟨rfl, hb⟩; replace HL := Lib.hid (HL.out.kept hb); replace k0 := cell_later hb k0; replace k1 := cell_later hb k1; replace k2 := cell_later hb k2; replace k3 := cell_later hb k3; replace k4 := cell_later hb k4; replace k5 := cell_later hb k5; replace k6 := cell_later hb k6; replace k7 := cell_later hb k7; replace k8 := cell_later hb k8; clear hb))
        | fail))
      have HP := Lib.hid (HL.out.addQ (below_new _) (own_pairQ wA Q1 (mirL Q1) n HRG1.out.1 (mirL_rg HRG1.out).1))
      have HP2 : Hid (Law w [tQu (.slice (some ⟨wA.heap.size, 0, none⟩) 2 2) [Q1, mirL Q1], tHas b3 (ql n (cF B)) 46, tHas (w.heap.size + 1) (ql 0 (fun _ => 0)) 46, tHas w.heap.size (ql n (cF Q1)) 46] _) := HP
      obtain ⟨bA, hbA⟩ : ∃ bA, bA = wA.heap.size := ⟨_, rfl⟩
      rw [← hbA] at HP2 ⊢
      clear HP HL hbA HM k0 k1 k2 k3 k4 k5 k6 k7 k8
      generalize wA.alloc _ = w6 at *
      obtain ⟨O, hO⟩ : ∃ O, O = [Q1, mirL Q1] := ⟨_, rfl⟩
      rw [← hO] at HP2
      have hOl : O.length = 2 := by rw [hO]; rfl
      have HOL := Lib.hid hOl
      have HOR := Lib.hid (show ∀ x ∈ O, RgB n x from fun x hx => by
        rw [hO] at hx
        simp only [List.mem_cons, List.not_mem_nil, or_false] at hx
        rcases hx with rfl | rfl
        · exact HRG1.out
        · exact mirL_rg HRG1.out)
      have HIN := Lib.hid (show iterQ q (k + 1) = (Q1, pkO O B 2) by rw [HIT1.out, hO]; rfl)
      have HPK := Lib.hid (fun j hj => pkO_succ O B j hj)
      have HPR := Lib.hid (show ∀ j, j ≤ 2 → RgB n (pkO O B j) from fun j => by
        induction j with
        | zero => intro _; exact HRGB.out
        | succ j ih =>
          intro hj
          rw [pkO_succ O B j (by omega)]
          exact pickL_rg (HOR.out _ (List.getElem_mem (by omega))) (ih (by omega)))
      clear hO hOl HIT1 HRG1 HRGB
      go_wp2_with fail
      go_loopw [16] (fun i wr => ∃ j : Nat, j ≤ 2 ∧ i = .int .i64 j ∧ Hid (Law w [tQu (.slice (some ⟨bA, 0, none⟩) 2 2) O, tHas b3 (ql n (cF (pkO O B j))) 46, tHas (w.heap.size + 1) (ql 0 (fun _ => 0)) 46, tHas w.heap.size (ql n (cF Q1)) 46] wr)) (fun i _ => 2 - (intOf i).toNat)
      case atStart => exact ⟨0, Nat.zero_le _, rfl, HP2⟩
      case round =>
        clear HP2
        obtain ⟨j, hj, rfl, HL⟩ := hrel
        obtain ⟨w7, rfl⟩ : ∃ w7 : World, w7 = wr := ⟨_, rfl⟩
        by_cases hjt : j < 2
        · have hjO : j < O.length := by rw [HOL.out]; exact hjt
          obtain ⟨g, hg, hc⟩ := (show OwnQ w7 0 (.slice (some ⟨bA, 0, none⟩) O.length 2) O by rw [HOL.out]; exact HL.out.ownQ).nine j hjO
          obtain rfl : bA = g := by injection hg with hg; injection hg
          have hX := HOR.out O[j] (List.getElem_mem hjO)
          have hP := HPR.out j hj
          have hpk := HPK.out j hjO
          rw [hX.1] at hc
          have c0 := hc 0 _ rfl
          rw [Nat.add_zero] at c0
          have c1 := hc 1 _ rfl
          have c2 := hc 2 _ rfl
          have c3 := hc 3 _ rfl
          have c4 := hc 4 _ rfl
          have c5 := hc 5 _ rfl
          have c6 := hc 6 _ rfl
          have c7 := hc 7 _ rfl
          have c8 := hc 8 _ rfl
          generalize O[j] = X at *
          have hl := less_col n X (pkO O B j) hX.1 hP.1 h8
          generalize pkO O B j = P at *
          have HX := Lib.hid hX
          have L8 := HL.out.has (ql n (cF X)) 46
          rw [show w7.alloc (.cells (ql n (cF X)).toArray 46) = w7.alloc (.cells #[.int .i64 n, .int .i64 (cF X 0), .int .i64 (cF X 1), .int .i64 (cF X 2), .int .i64 (cF X 3), .int .i64 (cF X 4), .int .i64 (cF X 5), .int .i64 (cF X 6), .int .i64 (cF X 7)] 46) from rfl] at L8
          have HL8 := Lib.hid L8
          clear L8 hc hX hP HL hg
          go_upto_region 8 with fail
          clear c0 c1 c2 c3 c4 c5 c6 c7 c8
          obtain ⟨b5, hb5⟩ : ∃ b5, b5 = w7.heap.size := ⟨_, rfl⟩
          rw [← hb5] at HL8 ⊢
          clear hb5
          generalize w7.alloc _ = w8 at *
          have hr1 : Reads w8 (some ⟨b5, 1, none⟩) 8 (col8 (cF X)) := Reads.col HL8.out.ownHas
          have hr2 : Reads w8 (some ⟨b3, 1, none⟩) 8 (col8 (cF P)) := Reads.col HL8.out.tl.tl.ownHas
          have HCC := Lib.hid (fun W (h1 : Reads W (some ⟨b5, 1, none⟩) 8 (col8 (cF X))) (h2 : Reads W (some ⟨b3, 1, none⟩) 8 (col8 (cF P))) => compareS_any 8 (some ⟨b5, 1, none⟩) (some ⟨b3, 1, none⟩) 8 8 _ _ W (by decide) rfl rfl h1 h2)
          have HR1 := Lib.hid (fun k => hr1.drewN k)
          have HR2 := Lib.hid (fun k => hr2.drewN k)
          generalize cmpL (col8 (cF X)) (col8 (cF P)) = z at *
          clear hr1 hr2
          by_cases hz : z < 0
          · rw [decide_eq_true hz] at hl
            have HPN := Lib.hid (show pkO O B (j + 1) = X by rw [hpk]; unfold pickL; rw [← hl]; rfl)
            clear hl hpk
            go_quiet ((go_at_call 77; exact Calls.quiet_of_same (HCC.out _ (HR1.out _) (HR2.out _))))
            have HL9 := Lib.hid (HL8.out.kept (below_drewN (Below.refl _ _) nq))
            generalize w8.drewN nq = w9 at *
            clear HL8 HR1 HR2 HCC
            obtain ⟨g0, g1, g2, g3, g4, g5, g6, g7, g8, gf⟩ := ql_held HL9.out.ownHas
            obtain ⟨f0, f1, f2, f3, f4, f5, f6, f7, f8, ff⟩ := ql_held HL9.out.tl.tl.ownHas
            have hS := Law.putQ (ts := [_, _]) (ts' := [_, _]) HL9.out n (cF X)
            have HS := Lib.hid (Law.tl hS)
            clear HL9 hS
            go_wp2_with fail
            go_roundw
            case rel => first | exact ⟨j + 1, by omega, by go_num, by rw [HPN.out]; exact HS⟩ | ((repeat apply Exists.intro); exact ⟨⟨j + 1, by omega, by go_num, by rw [HPN.out]; exact HS⟩, rfl⟩)
            case measure => simp [intOf]; omega
          · rw [decide_eq_false hz] at hl
            have HPN := Lib.hid (show pkO O B (j + 1) = P by rw [hpk]; unfold pickL; rw [← hl]; rfl)
            clear hl hpk
            go_quiet ((go_at_call 77; exact Calls.quiet_of_same (HCC.out _ (HR1.out _) (HR2.out _))))
            have HL9 := Lib.hid ((HL8.out.kept (below_drewN (Below.refl _ _) nq)).tl)
            generalize w8.drewN nq = w9 at *
            clear HL8 HR1 HR2 HCC
            go_wp2_with fail
            go_roundw
            case rel => first | exact ⟨j + 1, by omega, by go_num, by rw [HPN.out]; exact HL9⟩ | ((repeat apply Exists.intro); exact ⟨⟨j + 1, by omega, by go_num, by rw [HPN.out]; exact HL9⟩, rfl⟩)
            case measure => simp [intOf]; omega
        · obtain rfl : j = 2 := by omega
          have HN := Lib.hid (HL.out.tl)
          go_wp2_with fail
          go_roundw
          case rel => first | exact ⟨k + 1, by omega, by go_num, by rw [HIN.out]; exact HN⟩ | ((repeat apply Exists.intro); exact ⟨⟨k + 1, by omega, by go_num, by rw [HIN.out]; exact HN⟩, rfl⟩)
          case measure => simp [intOf]; omega
    · obtain rfl : k = 4 := by omega
      obtain ⟨f0, f1, f2, f3, f4, f5, f6, f7, f8, ff⟩ := HL.out.tl.ownHas.nineQ
      obtain ⟨g0, g1, g2, g3, g4, g5, g6, g7, g8, gf⟩ := ql_held HL.out.ownHas
      generalize hGG : cF (iterQ q 4).2 = G at *
      have HG := Lib.hid hGG
      clear hGG
      have hp := HL.out.tl.ownHas.putQ n G
      have HB := Lib.hid (And.intro HL.out.below HL.out.tl.ownHas.lt)
      clear HL
      go_wp2_with fail
      clear f0 f1 f2 f3 f4 f5 f6 f7 f8 ff g0 g1 g2 g3 g4 g5 g6 g7 g8 gf
      obtain ⟨f0, f1, f2, f3, f4, f5, f6, f7, f8, ff⟩ := ql_held hp
      clear hp
      refine bodyPost_ret (v := qv n G) (by simp [results, Try.results64, go_sem, f0, f1, f2, f3, f4, f5, f6, f7, f8]) rfl ⟨by rw [HG.out], ?_⟩
      exact below_putQ HB.out.1 _ (by omega) _ G

set_option maxRecDepth 100000 in
set_option maxHeartbeats 3200000 in
theorem implLea_any (xs : List Int) (w : World) (hx : xs.length ≤ 1048576) (lo : Nat) (s : Value) (hO : Own w lo s xs) :
    Calls Try.prog 45 #[s] w fun e w' => AnsL (leaR xs) w e w' := by
  obtain ⟨a, cap, rfl, hr, hcap⟩ := own_form hO
  have HC := Lib.hid (fullOf_any a cap xs w hx hcap hr)
  clear hO hcap hr
  cases hg : gdB xs
  · rw [show leaR xs = ⟨[], false⟩ by simp [leaR, hg]]
    rw [linV_no (by rw [lin_full]; exact hg)] at HC
    clear hg
    generalize xs.length = m at *
    go_enter Try.func45, Try.ntmps45
    go_wp2_with fail
    refine HC.out.mono ?_
    rintro e w2 ⟨rfl, hb⟩
    have HL := Lib.hid (((Law.start w).kept hb).kept (below_new (.cells #[.int .i64 0, .int .i64 0, .int .i64 0, .int .i64 0, .int .i64 0, .int .i64 0, .int .i64 0, .int .i64 0, .int .i64 0] 46)))
    clear hb HC
    go_upto_region 2 with fail
    generalize w2.alloc _ = w3 at *
    go_wp2_with fail
    go_ret2
    exact ⟨_, rfl, Own.nil _ _, HL.out.below⟩
  · rw [show leaR xs = ⟨leastL xs, true⟩ by simp [leaR, hg]]
    rw [linV_yes (by rw [lin_full]; exact hg)] at HC
    have HT := Lib.hid (fun W => least_any9 xs.length xs W (gd_rg hg) (gd_facts hg).1 (gd_facts hg).2.1)
    have hl8 := (gd_facts hg).2.1
    have hex := (leastL_rg (gd_rg hg) (gd_facts hg).1).1
    have HLI := Lib.hid (fun W => list_any xs.length (cF (leastL xs)) (leastL xs) W hl8 (by
      have h := col_cells (cF (leastL xs)) (leastL xs) (by rw [hex]; exact hl8) (fun _ _ => rfl)
      rw [hex] at h
      exact h))
    clear hg hl8 hex
    generalize cF (leastL xs) = G at *
    generalize leastL xs = S at *
    generalize cF xs = F at *
    generalize xs.length = m at *
    go_enter Try.func45, Try.ntmps45
    go_wp2_with fail
    refine HC.out.mono ?_
    rintro e w2 ⟨rfl, hb⟩
    have HL := Lib.hid (((Law.start w).kept hb).has (ql m F) 46)
    rw [show w2.alloc (.cells (ql m F).toArray 46) = w2.alloc (.cells #[.int .i64 m, .int .i64 (F 0), .int .i64 (F 1), .int .i64 (F 2), .int .i64 (F 3), .int .i64 (F 4), .int .i64 (F 5), .int .i64 (F 6), .int .i64 (F 7)] 46) from rfl] at HL
    clear hb HC
    go_upto_region 2 with fail
    generalize w2.alloc _ = w3 at *
    obtain ⟨f0, f1, f2, f3, f4, f5, f6, f7, f8, _⟩ := ql_held HL.out.ownHas
    go_wp2_with fail
    refine (HT.out _).mono ?_
    rintro e w5 ⟨rfl, hb⟩
    have HL5 := Lib.hid (HL.out.kept hb)
    clear hb f0 f1 f2 f3 f4 f5 f6 f7 f8 HL HT
    go_wp2_with fail
    refine (HLI.out _).mono ?_
    rintro e w6 ⟨v, rfl, hO, hb⟩
    have HL6 := Lib.hid (HL5.out.own hb hO)
    clear hO hb HL5
    go_wp2_with fail
    go_ret2
    exact ⟨_, rfl, HL6.out.ownLo, HL6.out.below⟩

end Go.Proofs.Ytmhlpaenfknofaa
