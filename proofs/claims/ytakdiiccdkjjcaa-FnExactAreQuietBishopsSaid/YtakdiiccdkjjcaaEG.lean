/- Cells on which pieces are quiet, in the program. No condition but the sizes. -/
import Derived.Test.YtakdiiccdkjjcaaEF
import Derived.Test.YtakdiiccdkjjcaaEu
import Derived.Test.YtakdiiccdkjjcaaH
import Derived.Test.YtakdiiccdkjjcaaM4
import Derived.Lib.QuietBelow
import Derived.BigQuiet
namespace Go.Proofs.Ytakdiiccdkjjcaa
open Go.RowKit Go.WideShapes

theorem ownM_kept {w w' : World} {lo : Nat} {v : Value} {vs : List Value} {rss : List (List Int)} (h : OwnM w lo v vs rss) (hb : Below w.heap.size w w') : OwnM w' lo v vs rss := by
  refine h.stay (row := none) ⟨hb.os, hb.tape, hb.output, hb.size, fun k hk _ => hb.block k hk⟩ ?_ (fun u _ => ?_)
  · cases v.ownBlock <;> simp
  · cases u.ownBlock <;> simp
theorem areQ_congr (D : Int → Int → Bool) (n m : Nat) (t : List (List Int)) : ∀ P P' : Nat → Nat → Bool, (∀ i j, i < n → j < m → P i j = P' i j) → areQ D n m P t = areQ D n m P' t := by
  induction t with
  | nil => intro P P' _; rfl
  | cons x t ih =>
    intro P P' h
    rw [areQ, areQ]
    have e : cellOk n m P x = cellOk n m P' x := by
      unfold cellOk
      congr 1
      cases hi : insB n m (x.getD 0 0) (x.getD 1 0)
      · rfl
      · obtain ⟨h1, h2, h3, h4⟩ := insB_iff.1 hi
        rw [h _ _ (by omega) (by omega)]
    have e2 := ih (leftP D P (x.getD 0 0) (x.getD 1 0)) (leftP D P' (x.getD 0 0) (x.getD 1 0)) (fun i j hi hj => by unfold leftP; rw [h i j hi hj])
    rw [e, e2]
theorem areQ_left (D : Int → Int → Bool) (n m : Nat) (M : Nat → Int) (r c : Nat) (t : List (List Int)) :
    areQ D n m (fun a b => (leftM D n m M r c a).toNat.testBit b) t = areQ D n m (leftP D (fun a b => (M a).toNat.testBit b) r c) t := by
  refine areQ_congr _ _ _ _ _ _ (fun i j hi hj => ?_)
  unfold leftM drawn leftP
  rw [if_pos hi, Int.toNat_natCast, rowM_tb]
  simp [hj]

theorem Law.put8 {w0 w : World} {ts : List Thing} {b : Nat} {v0 v1 v2 v3 v4 v5 v6 v7 : Value} {t : TypeId} (h : Law w0 (tHas b [v0, v1, v2, v3, v4, v5, v6, v7] t :: ts) w) (n m : Int) (F : Nat → Int) : Law w0 (tHas b (gl n m F) t :: ts) ((((((((w.setCell ⟨b, 0, none⟩ (.int .i64 n)).setCell ⟨b, 1, none⟩ (.int .i64 m)).setCell ⟨b, 2, none⟩ (.int .i64 (F 0))).setCell ⟨b, 3, none⟩ (.int .i64 (F 1))).setCell ⟨b, 4, none⟩ (.int .i64 (F 2))).setCell ⟨b, 5, none⟩ (.int .i64 (F 3))).setCell ⟨b, 6, none⟩ (.int .i64 (F 4))).setCell ⟨b, 7, none⟩ (.int .i64 (F 5))) := by
  have h0 := Law.setHas (ts := []) h 0 (.int .i64 n)
  have h1 := Law.setHas (ts := []) h0 1 (.int .i64 m)
  have h2 := Law.setHas (ts := []) h1 2 (.int .i64 (F 0))
  have h3 := Law.setHas (ts := []) h2 3 (.int .i64 (F 1))
  have h4 := Law.setHas (ts := []) h3 4 (.int .i64 (F 2))
  have h5 := Law.setHas (ts := []) h4 5 (.int .i64 (F 3))
  have h6 := Law.setHas (ts := []) h5 6 (.int .i64 (F 4))
  exact Law.setHas (ts := []) h6 7 (.int .i64 (F 5))
set_option maxRecDepth 100000 in
set_option maxHeartbeats 6400000 in
theorem areQuiet_any (n m : Nat) (F : FuncId) (D : Int → Int → Bool) (hD : MoveF F D) (hn : n ≤ 6) (hm : m ≤ 6) (M : Nat → Int) (hgc : ∀ k, k < 6 → 0 ≤ M k ∧ M k < 64) (rss : List (List Int)) (w : World) (hl : rss.length ≤ 1048576) (lo : Nat) (s : Value) (vs : List Value) (hO : OwnM w lo s vs rss) :
    Calls Try.prog 74 #[gv n m M, s, .func (.func F) #[] #[]] w fun e w' => e = .returned (.bool (areQ D n m (fun a b => (M a).toNat.testBit b) rss)) ∧ Below w.heap.size w w' := by
  have L0 := (Law.start w).has (gl n m M) 66
  rw [show w.alloc (.cells (gl n m M).toArray 66) = w.alloc (.cells #[.int .i64 n, .int .i64 m, .int .i64 (M 0), .int .i64 (M 1), .int .i64 (M 2), .int .i64 (M 3), .int .i64 (M 4), .int .i64 (M 5)] 66) from rfl] at L0
  obtain ⟨a, cap, rfl, _⟩ := hO.form
  obtain ⟨y, hy⟩ : ∃ y, y = areQ D n m (fun a b => (M a).toNat.testBit b) rss := ⟨_, rfl⟩
  rw [← hy]
  have HY := Lib.hid hy
  have HVL := Lib.hid (show vs.length = rss.length from hO.len.symm)
  have HVN := Lib.hid (show vs.length ≤ 1048576 by rw [← hO.len]; exact hl)
  have HO := Lib.hid hO
  have HUN := Lib.hid (fun M a b W ha hb h => unattacked_any n m M a b F D hD W hn hm ha hb h)
  have HGC := Lib.hid hgc
  have HL := Lib.hid L0
  clear L0 hy hO hl hgc
  go_enter Try.func74, Try.ntmps74
  go_upto_region 1 with fail
  generalize w.alloc _ = w1 at *
  have hvn := HVN.out
  go_wp2_with fail
  go_loopw [11] (fun i wr => ∃ (k : Nat) (Mk : Nat → Int), k ≤ vs.length ∧ i = .int .i64 k ∧ Hid (areQ D n m (fun a b => (Mk a).toNat.testBit b) (rss.drop k) = y) ∧ Hid (∀ k, k < 6 → 0 ≤ Mk k ∧ Mk k < 64) ∧ Hid (Law w [tHas w.heap.size (gl n m Mk) 66] wr)) (fun i _ => vs.length - (intOf i).toNat)
  case atStart => exact ⟨0, M, Nat.zero_le _, rfl, Lib.hid (by rw [List.drop_zero]; exact HY.out.symm), HGC, HL⟩
  case round =>
    clear HL HGC HY
    obtain ⟨k, Mk, hk, rfl, HG, HGC, HL⟩ := hrel
    by_cases hlt : k < vs.length
    · have hkr : k < rss.length := by have := HVL.out; omega
      have hOk := ownM_kept HO.out HL.out.below
      obtain ⟨a', cap', hv, hc⟩ := hOk.form
      injection hv with ha hb hcp
      subst ha
      obtain ⟨g, rfl, c1⟩ := hc k hlt
      have hrow := hOk.row k hlt
      have hst := areQ_drop D n m (fun a b => (Mk a).toNat.testBit b) rss k hkr
      rw [HG.out] at hst
      generalize rss[k] = x at *
      obtain ⟨ax, px, hvx, _⟩ := hrow.reads
      rw [hvx] at c1 hrow
      clear hOk hb hcp hc hvx
      by_cases hx2 : x.length = 2
      · obtain ⟨i, j, rfl⟩ : ∃ i j, x = [i, j] := by
          match x, hx2 with
          | [i, j], _ => exact ⟨i, j, rfl⟩
        rcases hrow.cases with ⟨_, h0⟩ | ⟨gr, cr, hvr, _⟩
        · cases h0
        · injection hvr with ha hb hcp
          subst ha
          subst hcp
          have p0 : wr.cell? ⟨gr, 0, none⟩ = some (.int .i64 i) := hrow.cell 0 (by simp)
          have p1 : wr.cell? ⟨gr, 1, none⟩ = some (.int .i64 j) := hrow.cell 1 (by simp)
          simp only [List.length_cons, List.length_nil, Nat.zero_add, Nat.reduceAdd] at c1
          clear hb hx2 hrow
          cases hi : insB n m i j
          · have hy0 : y = false := by rw [hst]; unfold cellOk; simp [hi]
            subst hy0
            obtain ⟨e0, e1, e2, e3, e4, e5, e6, e7, _⟩ := HL.out.ownHas.eight
            have HB := Lib.hid HL.out.below
            have f0 := cell_regrown e0
            have f1 := cell_regrown e1
            have f2 := cell_regrown e2
            have f3 := cell_regrown e3
            have f4 := cell_regrown e4
            have f5 := cell_regrown e5
            have f6 := cell_regrown e6
            have f7 := cell_regrown e7
            have f8 := cell_regrown p0
            have f9 := cell_regrown p1
            have HI := Lib.hid (fun d os => Calls.regrown_of (w := wr) (d := d) (os := os) (at_boolB (inside_any n m i j Mk _) hi))
            clear hst hi e0 e1 e2 e3 e4 e5 e6 e7 p0 p1 HL HUN
            go_wp2_with fail
            refine wp_region_quiet_below (by kernel_rfl) (by kernel_rfl) ?_
            repeat (go_big_quiet_step ((go_at_call 57; exact HI.out _ _)))
            refine wpQuiet_nil ?_
            intro _ hw'
            obtain ⟨⟨dq, osq⟩, hw''⟩ := hw'
            subst hw''
            have HB2 := Lib.hid (below_on (w0 := w) HB.out (below_regrown wr dq osq))
            clear f0 f1 f2 f3 f4 f5 f6 f7 f8 f9
            go_wp2_with fail
            go_ret
            exact ⟨rfl, HB2.out⟩
          · obtain ⟨i1, i2, i3, i4⟩ := insB_iff.1 hi
            obtain ⟨q, rfl⟩ := Int.eq_ofNat_of_zero_le i1
            obtain ⟨l, rfl⟩ := Int.eq_ofNat_of_zero_le i3
            obtain ⟨e0, e1, e2, e3, e4, e5, e6, e7, _⟩ := HL.out.ownHas.eight
            have f0 := cell_regrown e0
            have f1 := cell_regrown e1
            have f2 := cell_regrown e2
            have f3 := cell_regrown e3
            have f4 := cell_regrown e4
            have f5 := cell_regrown e5
            have f6 := cell_regrown e6
            have f7 := cell_regrown e7
            have f8 := cell_regrown p0
            have f9 := cell_regrown p1
            have HI := Lib.hid (fun d os => Calls.regrown_of (w := wr) (d := d) (os := os) (at_boolB (inside_any n m q l Mk _) hi))
            clear e0 e1 e2 e3 e4 e5 e6 e7 p0 p1
            cases hp : (Mk q).toNat.testBit l
            · have hy0 : y = false := by rw [hst]; unfold cellOk; simp [hp]
              subst hy0
              have HB := Lib.hid HL.out.below
              have HA := Lib.hid (fun d os => Calls.regrown_of (w := wr) (d := d) (os := os) (at_boolB (at_any n m Mk q l _ (by omega) (by omega) (HGC.out q (by omega))) hp))
              clear hst hi HL HUN hp
              go_wp2_with fail
              refine wp_region_quiet_below (by kernel_rfl) (by kernel_rfl) ?_
              repeat (go_big_quiet_step (first | (go_at_call 57; with_reducible exact HI.out _ _) | (go_at_call 88; with_reducible exact HA.out _ _)))
              refine wpQuiet_nil ?_
              intro _ hw'
              obtain ⟨⟨dq, osq⟩, hw''⟩ := hw'
              subst hw''
              have HB2 := Lib.hid (below_on (w0 := w) HB.out (below_regrown wr dq osq))
              clear f0 f1 f2 f3 f4 f5 f6 f7 f8 f9
              go_wp2_with fail
              go_ret
              exact ⟨rfl, HB2.out⟩
            · have hst2 : areQ D n m (fun a b => (leftM D n m Mk q l a).toNat.testBit b) (rss.drop (k + 1)) = y := by
                rw [areQ_left, hst]
                unfold cellOk
                simp [hi, hp]
              have HG2 := Lib.hid hst2
              have HGC2 := Lib.hid (fun j (_ : j < 6) => leftM_bd D n m Mk q l j hm)
              have HUNA := Lib.hid (fun W => HUN.out Mk q l W (by omega) (by omega) HGC.out)
              have HA := Lib.hid (fun d os => Calls.regrown_of (w := wr) (d := d) (os := os) (at_boolB (at_any n m Mk q l _ (by omega) (by omega) (HGC.out q (by omega))) hp))
              generalize leftM D n m Mk q l = LM at *
              clear hst hst2 hi hp HG HGC
              go_wp2_with fail
              refine wp_region_quiet_below (by kernel_rfl) (by kernel_rfl) ?_
              repeat (go_big_quiet_step (first | (go_at_call 57; with_reducible exact HI.out _ _) | (go_at_call 88; with_reducible exact HA.out _ _)))
              refine wpQuiet_nil ?_
              intro _ hw'
              obtain ⟨⟨dq, osq⟩, hw''⟩ := hw'
              subst hw''
              have p0 := f8 dq osq
              have p1 := f9 dq osq
              replace HL := Lib.hid (HL.out.kept (below_regrown wr dq osq))
              generalize Sort.grow (redrawn wr dq) osq = w6 at *
              clear f0 f1 f2 f3 f4 f5 f6 f7 f8 f9 HI HA HUN
              obtain ⟨e0, e1, e2, e3, e4, e5, e6, e7, _⟩ := HL.out.ownHas.eight
              go_wp2_with fail
              go_region_law (first
                | (go_simp; go_at_call 116; ((with_reducible refine (HUNA.out _).mono ?_); rintro e w8 ⟨rfl, hb8⟩; have HL8 := Lib.hid (HL.out.drew.kept hb8); obtain ⟨g0, g1, g2, g3, g4, g5, g6, g7, gf⟩ := HL8.out.ownHas.eight; clear hb8))
                | fail)
              all_goals
                have HS := Lib.hid (Law.put8 HL8.out n m LM)
                clear HL HL8 HUNA e0 e1 e2 e3 e4 e5 e6 e7 g0 g1 g2 g3 g4 g5 g6 g7 gf p0 p1
                go_wp2_with fail
                go_roundw
                case rel => exact ⟨k + 1, LM, by omega, by go_num, HG2, HGC2, HS⟩
                case measure => simp [intOf]; omega
      · have hy0 : y = false := by rw [hst]; unfold cellOk; simp [hx2]
        subst hy0
        have HB := Lib.hid HL.out.below
        have hx4 : ((x.length : Int) != 2) = true := by rw [bne_iff_ne]; omega
        generalize x.length = xl at *
        clear hst hrow HL HUN
        go_wp2_with fail
        go_quiet (fail)
        have HB2 := Lib.hid (below_drewN HB.out nq)
        go_wp2_with fail
        go_ret
        exact ⟨rfl, HB2.out⟩
    · obtain rfl : vs.length = k := by omega
      have hg := HG.out
      rw [HVL.out, List.drop_length] at hg
      have hy1 : y = true := hg.symm
      subst hy1
      clear hg
      go_wp2_with fail
      go_ret
      exact ⟨rfl, HL.out.below⟩

end Go.Proofs.Ytakdiiccdkjjcaa
