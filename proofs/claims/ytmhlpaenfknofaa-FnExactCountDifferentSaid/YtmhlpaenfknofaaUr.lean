/- Queens that are different, in both texts. No condition but the sizes. -/
import Derived.Test.YtmhlpaenfknofaaUq
import Derived.Test.YtmhlpaenfknofaaUj
import Derived.Laws.StructEq
import Derived.ChangeKeysEq
import Derived.Lib.QuietBelow
import Derived.BigQuiet
namespace Go.Proofs.Ytmhlpaenfknofaa
open Go.RowKit Go.WideShapes

def eqC8 (F G : Nat → Int) : Bool := (List.range 8).all fun i => F i == G i
theorem eqItemsC (P : Program) (d : Nat) (e : TypeId) (he : P.plainKey e = true) (hu : P.underlying e = some (.int .i64)) (xs ys : Array Value) (F G : Nat → Int) (W : World) : ∀ is : List Nat, (∀ i ∈ is, xs[i]? = some (.int .i64 (F i)) ∧ ys[i]? = some (.int .i64 (G i))) →
    (Op.eqItems (d + 1) e 1 xs ys is).run P W = .ok (is.all fun i => F i == G i) W := by
  intro is
  induction is with
  | nil => intro _; simp [Op.eqItems]
  | cons i is ih =>
    intro h
    obtain ⟨h1, h2⟩ := h i (by simp)
    have ih := ih (fun k hk => h k (by simp [hk]))
    simp only [Op.eqItems, Sem.run_bind, Nat.mul_one, run_part_plain W he h1, run_part_plain W he h2, Result.andThen_ok, run_equalIn_int W d e .i64 .i64 (F i) (G i) hu, List.all_cons]
    cases hh : F i == G i
    · simp
    · simp only [Bool.not_true, Bool.false_eq_true, if_false, ih, Bool.true_and]
theorem c8_get (F : Nat → Int) (i : Nat) (h : i < 8) : (#[.int .i64 (F 0), .int .i64 (F 1), .int .i64 (F 2), .int .i64 (F 3), .int .i64 (F 4), .int .i64 (F 5), .int .i64 (F 6), .int .i64 (F 7)] : Array Value)[i]? = some (.int .i64 (F i)) := by
  rcases eight_cases h with rfl | rfl | rfl | rfl | rfl | rfl | rfl | rfl <;> rfl
theorem eqArr8 (F G : Nat → Int) (W : World) : (Op.equalIn 9999 44 (.agg #[.int .i64 (F 0), .int .i64 (F 1), .int .i64 (F 2), .int .i64 (F 3), .int .i64 (F 4), .int .i64 (F 5), .int .i64 (F 6), .int .i64 (F 7)]) (.agg #[.int .i64 (G 0), .int .i64 (G 1), .int .i64 (G 2), .int .i64 (G 3), .int .i64 (G 4), .int .i64 (G 5), .int .i64 (G 6), .int .i64 (G 7)])).run Try.prog W = .ok (eqC8 F G) W := by
  obtain ⟨i, hi, _⟩ := Option.map_eq_some_iff.1 Try.infoI
  rw [run_equalIn_array W 9998 (e := 3) (n := 8) (i := i) _ _ (by kernel_rfl) hi, show Try.prog.cellsOf 3 = 1 by kernel_rfl]
  exact eqItemsC Try.prog 9997 3 (by kernel_rfl) (by kernel_rfl) _ _ F G W (List.range 8) (fun i hi => ⟨c8_get F i (List.mem_range.1 hi), c8_get G i (List.mem_range.1 hi)⟩)
theorem eqC8_lists (n : Nat) (X Y : List Int) (hx : X.length = n) (hy : Y.length = n) (h8 : n ≤ 8) : eqC8 (cF X) (cF Y) = decide (X = Y) := by
  rw [Bool.eq_iff_iff, decide_eq_true_eq]
  unfold eqC8
  rw [List.all_eq_true]
  constructor
  · intro h
    exact cF_ext hx hy (fun i hi => by have := h i (List.mem_range.2 (by omega)); rwa [beq_iff_eq] at this)
  · rintro rfl i _
    rw [beq_iff_eq]
def difP (q : List Int) : Bool := decide (leastL q = q)
def difR (n : Int) : R1 := if inB 1 n 8 then ⟨((quA bQ n.toNat n.toNat []).filter difP).length, true⟩ else ⟨0, false⟩
set_option maxRecDepth 100000 in
set_option maxHeartbeats 6400000 in
theorem specDif_any (n : Int) (w : World) : Calls Try.prog 36 #[.int .i64 n] w fun e w' => AnsIO (difR n) w e w' := by
  cases hg : inB 1 n 8
  · rw [show difR n = ⟨0, false⟩ by simp [difR, hg]]
    have HQ := Lib.hid (at_boolV (quSide_any n w) hg)
    clear hg
    go_enter Try.func36, Try.ntmps36
    go_wp2_with (go_at_call 53; ((with_reducible refine HQ.out.mono ?_); rintro e w' ⟨rfl, rfl⟩))
    go_ret2
    exact ⟨rfl, Below.refl _ _⟩
  · have HQ := Lib.hid (fun W => at_boolV (quSide_any n W) hg)
    obtain ⟨m, rfl, m1, m8⟩ := inB_nat hg
    rw [show difR m = ⟨((quA bQ m m []).filter difP).length, true⟩ by simp [difR, hg]]
    have HA := Lib.hid (fun W => quAll_any m m8 m [] (by simp) (by simp) (by simp) W 0 _ (Own.nil _ _))
    have HGD := Lib.hid (fun q hq => all_gd bQ m m1 m8 q hq)
    have hfew := all_few bQ m m8
    generalize quA bQ m m [] = L at *
    have HTK := Lib.hid (flt_take L difP)
    have HLE := Lib.hid (fun k => flt_le L difP k)
    clear hg
    go_enter Try.func36, Try.ntmps36
    go_wp2_with (go_at_call 53; ((with_reducible refine (HQ.out _).mono ?_); rintro e w' ⟨rfl, rfl⟩))
    refine (HA.out _).mono ?_
    rintro e w2 ⟨v, vs, rfl, hO, _, hb⟩
    obtain ⟨av, pv, rfl⟩ := ownM_shapeQ hO
    have HL := Lib.hid ((Law.start _).addM hb hO)
    clear hO hb
    go_wp2_with fail
    go_loopw [4, 6, 13] (fun cn _ i wr => ∃ k : Nat, k ≤ L.length ∧ i = .int .i64 k ∧ cn = .int .i64 ((L.take k).filter difP).length ∧ Law w [tM (.slice av L.length pv) vs L] wr) (fun _ _ i _ => L.length - (intOf i).toNat)
    case atStart => exact ⟨0, Nat.zero_le _, rfl, rfl, HL.out⟩
    case round =>
      clear HL
      obtain ⟨k, hk, rfl, rfl, LL⟩ := hrel
      obtain ⟨wo, rfl⟩ : ∃ wo : World, wo = wr := ⟨_, rfl⟩
      by_cases hlt : k < L.length
      · have hvl := LL.ownM.len
        have hkv : k < vs.length := by omega
        have hrow := LL.ownM.row k hkv
        obtain ⟨a', cap', hv, hc⟩ := LL.ownM.form
        obtain ⟨g, rfl, c0⟩ := hc k hkv
        injection hv with e1 e2 e3
        subst e1
        obtain ⟨ax, px, hvx, hr, _⟩ := own_form hrow
        rw [hvx] at c0 hrow
        obtain ⟨hql, hqg⟩ := HGD.out L[k] (List.getElem_mem hlt)
        have hC := quLeast_any m L[k] wo (by have := gd_rg hqg; rwa [hql] at this) m1 m8 0 _ hrow
        have hs := HTK.out k hlt
        have hle := HLE.out k
        have hll := (leastL_rg (gd_rg hqg) (gd_facts hqg).1).1
        rw [hql] at hll
        have hdp : difP L[k] = decide (leastL L[k] = L[k]) := rfl
        generalize L[k] = Q at *
        generalize leastL Q = S at *
        rw [hql] at c0 hC hr hrow
        have HC := Lib.hid hC
        have HL := Lib.hid LL
        generalize hx : ((L.take k).filter difP).length = x at *
        have HQL := Lib.hid hql
        have HSL := Lib.hid hll
        have HDP := Lib.hid hdp
        clear hC hrow hc hvx hvl hkv LL e2 e3 hql hqg hx hll hdp
        go_wp2_with fail
        refine HC.out.mono ?_
        rintro e w3 ⟨v3, rfl, hO3, hb3⟩
        obtain ⟨a3, p3, rfl, hr3, _⟩ := own_form hO3
        rw [HSL.out] at hr3 ⊢
        have hSM := l1Same_any a3 ax m m p3 px S Q w3 (by rw [HSL.out]; omega) HSL.out HQL.out hr3 (hr.kept hb3)
        rw [← HDP.out] at hSM
        have HL3 := Lib.hid (HL.out.kept hb3)
        clear hO3 hb3 hr3 hr HL HC c0
        cases ht : difP Q
        · rw [ht] at hs hSM
          have HS := Lib.hid (show ((L.take (k + 1)).filter difP).length = x by rw [hs]; rfl)
          have HSM := Lib.hid hSM
          clear hs ht hSM
          go_wp2_with fail
          refine HSM.out.mono ?_
          rintro e w4 ⟨rfl, hd⟩
          have HL4 := Lib.hid (HL3.out.kept hd.below)
          clear hd HL3 HSM
          go_wp2_with fail
          go_roundw
          case rel => first | exact ⟨k + 1, by omega, by go_num, by rw [HS.out], HL4.out⟩ | ((repeat apply Exists.intro); exact ⟨⟨k + 1, by omega, by go_num, by rw [HS.out], HL4.out⟩, rfl⟩)
          case measure => simp [intOf]; omega
        · rw [ht] at hs hSM
          have HS := Lib.hid (show ((L.take (k + 1)).filter difP).length = x + 1 by rw [hs]; rfl)
          have HSM := Lib.hid hSM
          clear hs ht hSM
          go_wp2_with fail
          refine HSM.out.mono ?_
          rintro e w4 ⟨rfl, hd⟩
          have HL4 := Lib.hid (HL3.out.kept hd.below)
          clear hd HL3 HSM
          go_wp2_with fail
          go_roundw
          case rel => first | exact ⟨k + 1, by omega, by go_num, by rw [HS.out]; go_num, HL4.out⟩ | ((repeat apply Exists.intro); exact ⟨⟨k + 1, by omega, by go_num, by rw [HS.out]; go_num, HL4.out⟩, rfl⟩)
          case measure => simp [intOf]; omega
      · obtain rfl : k = L.length := by omega
        have HL := Lib.hid LL
        rw [List.take_length]
        clear LL
        go_wp2_with fail
        go_ret2
        exact ⟨rfl, HL.out.below⟩
set_option maxRecDepth 100000 in
set_option maxHeartbeats 6400000 in
theorem implDif_any (n : Int) (w : World) : Calls Try.prog 37 #[.int .i64 n] w fun e w' => AnsIO (difR n) w e w' := by
  cases hg : inB 1 n 8
  · rw [show difR n = ⟨0, false⟩ by simp [difR, hg]]
    have HQ := Lib.hid (at_boolV (isQueenSide_any n w) hg)
    clear hg
    go_enter Try.func37, Try.ntmps37
    go_wp2_with (go_at_call 55; ((with_reducible refine HQ.out.mono ?_); rintro e w' ⟨rfl, rfl⟩))
    go_ret2
    exact ⟨rfl, Below.refl _ _⟩
  · have HQ := Lib.hid (fun W => at_boolV (isQueenSide_any n W) hg)
    obtain ⟨m, rfl, m1, m8⟩ := inB_nat hg
    rw [show difR m = ⟨((quA bQ m m []).filter difP).length, true⟩ by simp [difR, hg]]
    have HA := Lib.hid (fun W => allQueens_any m W m8)
    have HGD := Lib.hid (fun q hq => all_gd bQ m m1 m8 q hq)
    have hfew := all_few bQ m m8
    generalize quA bQ m m [] = L at *
    have HTK := Lib.hid (flt_take L difP)
    have HLE := Lib.hid (fun k => flt_le L difP k)
    clear hg
    go_enter Try.func37, Try.ntmps37
    go_wp2_with (go_at_call 55; ((with_reducible refine (HQ.out _).mono ?_); rintro e w' ⟨rfl, rfl⟩))
    refine (HA.out _).mono ?_
    rintro e w2 ⟨v, rfl, hO, hb⟩
    obtain ⟨av, pv, rfl⟩ := hO.form
    have HL := Lib.hid ((Law.start _).addQ hb hO)
    clear hO hb
    go_wp2_with fail
    go_loopw [4, 13] (fun cn i wr => ∃ k : Nat, k ≤ L.length ∧ i = .int .i64 k ∧ cn = .int .i64 ((L.take k).filter difP).length ∧ Law w [tQu (.slice av L.length pv) L] wr) (fun _ i _ => L.length - (intOf i).toNat)
    case atStart => exact ⟨0, Nat.zero_le _, rfl, rfl, HL.out⟩
    case round =>
      clear HL
      obtain ⟨k, hk, rfl, rfl, LL⟩ := hrel
      obtain ⟨wo, rfl⟩ : ∃ wo : World, wo = wr := ⟨_, rfl⟩
      by_cases hlt : k < L.length
      · obtain ⟨g, rfl, hc⟩ := LL.ownQ.nine k hlt
        obtain ⟨hql, hqg⟩ := HGD.out L[k] (List.getElem_mem hlt)
        rw [hql] at hc
        have c0 := hc 0 _ rfl
        rw [Nat.add_zero] at c0
        have c1 := hc 1 _ rfl
        have c2 := hc 2 _ rfl
        have c3 := hc 3 _ rfl
        have c4 := hc 4 _ rfl
        have c5 := hc 5 _ rfl
        have c6 := hc 6 _ rfl
        have c7 := hc 7 _ rfl
        have c8 := hc 8 _ rfl
        have hkI : (k : Int) < L.length := by omega
        have hs := HTK.out k hlt
        have hle := HLE.out k
        have hrg := gd_rg hqg
        rw [hql] at hrg
        have hC := fun W => least_any9 m L[k] W hrg m1 m8
        have hll := (leastL_rg hrg m1).1
        have hdp : difP L[k] = eqC8 (cF L[k]) (cF (leastL L[k])) := by
          rw [eqC8_lists m _ _ hql hll m8]
          unfold difP
          rw [Bool.eq_iff_iff, decide_eq_true_eq, decide_eq_true_eq]
          exact eq_comm
        generalize L[k] = Q at *
        generalize leastL Q = S at *
        have heq := fun W => eqArr8 (cF Q) (cF S) W
        rw [← hdp] at heq
        have L2 := LL.has (ql m (cF Q)) 46
        rw [show wo.alloc (.cells (ql m (cF Q)).toArray 46) = wo.alloc (.cells #[.int .i64 m, .int .i64 (cF Q 0), .int .i64 (cF Q 1), .int .i64 (cF Q 2), .int .i64 (cF Q 3), .int .i64 (cF Q 4), .int .i64 (cF Q 5), .int .i64 (cF Q 6), .int .i64 (cF Q 7)] 46) from rfl] at L2
        have HL2 := Lib.hid L2
        have HC := Lib.hid hC
        have HEQ := Lib.hid heq
        generalize hx : ((L.take k).filter difP).length = x at *
        clear LL L2 hc hC heq hdp hll hrg hqg hql hx
        go_upto_region 7 with fail
        clear c0 c1 c2 c3 c4 c5 c6 c7 c8
        generalize wo.alloc _ = w5 at *
        generalize cF S = G at *
        generalize cF Q = F at *
        obtain ⟨f0, f1, f2, f3, f4, f5, f6, f7, f8, ff⟩ := ql_held HL2.out.ownHas
        have hmm : ((m : Int) == m) = true := by simp
        cases ht : difP Q
        · rw [ht] at hs HEQ
          have HS := Lib.hid (show ((L.take (k + 1)).filter difP).length = x by rw [hs]; rfl)
          clear hs ht
          have heq := HEQ.out
          have HI := Lib.hid (fun d os => Calls.regrown_of (w := w5) (d := d) (os := os) (HC.out _))
          have r0 := cell_regrown f0
          have r1 := cell_regrown f1
          have r2 := cell_regrown f2
          have r3 := cell_regrown f3
          have r4 := cell_regrown f4
          have r5 := cell_regrown f5
          have r6 := cell_regrown f6
          have r7 := cell_regrown f7
          have r8 := cell_regrown f8
          clear f0 f1 f2 f3 f4 f5 f6 f7 f8 ff HC
          refine wp_region_quiet_below (by kernel_rfl) (by kernel_rfl) ?_
          repeat (go_big_quiet_step ((go_at_call 64; exact HI.out _ _)))
          refine wpQuiet_nil ?_
          intro _ hw'
          obtain ⟨⟨dq, osq⟩, hw''⟩ := hw'
          subst hw''
          have HL6 := Lib.hid ((HL2.out.kept (below_regrown w5 dq osq)).tl)
          generalize Sort.grow (redrawn w5 dq) osq = w6 at *
          clear HL2 HI heq r0 r1 r2 r3 r4 r5 r6 r7 r8
          go_wp2_with fail
          go_roundw
          case rel => first | exact ⟨k + 1, by omega, by go_num, by rw [HS.out], HL6.out⟩ | ((repeat apply Exists.intro); exact ⟨⟨k + 1, by omega, by go_num, by rw [HS.out], HL6.out⟩, rfl⟩)
          case measure => simp [intOf]; omega
        · rw [ht] at hs HEQ
          have HS := Lib.hid (show ((L.take (k + 1)).filter difP).length = x + 1 by rw [hs]; rfl)
          clear hs ht
          have heq := HEQ.out
          have HI := Lib.hid (fun d os => Calls.regrown_of (w := w5) (d := d) (os := os) (HC.out _))
          have r0 := cell_regrown f0
          have r1 := cell_regrown f1
          have r2 := cell_regrown f2
          have r3 := cell_regrown f3
          have r4 := cell_regrown f4
          have r5 := cell_regrown f5
          have r6 := cell_regrown f6
          have r7 := cell_regrown f7
          have r8 := cell_regrown f8
          clear f0 f1 f2 f3 f4 f5 f6 f7 f8 ff HC
          refine wp_region_quiet_below (by kernel_rfl) (by kernel_rfl) ?_
          repeat (go_big_quiet_step ((go_at_call 64; exact HI.out _ _)))
          refine wpQuiet_nil ?_
          intro _ hw'
          obtain ⟨⟨dq, osq⟩, hw''⟩ := hw'
          subst hw''
          have HL6 := Lib.hid ((HL2.out.kept (below_regrown w5 dq osq)).tl)
          generalize Sort.grow (redrawn w5 dq) osq = w6 at *
          clear HL2 HI heq r0 r1 r2 r3 r4 r5 r6 r7 r8
          go_wp2_with fail
          go_roundw
          case rel => first | exact ⟨k + 1, by omega, by go_num, by rw [HS.out]; go_num, HL6.out⟩ | ((repeat apply Exists.intro); exact ⟨⟨k + 1, by omega, by go_num, by rw [HS.out]; go_num, HL6.out⟩, rfl⟩)
          case measure => simp [intOf]; omega
      · obtain rfl : k = L.length := by omega
        have HL := Lib.hid LL
        rw [List.take_length]
        clear LL
        go_wp2_with fail
        go_ret2
        exact ⟨rfl, HL.out.below⟩

end Go.Proofs.Ytmhlpaenfknofaa
