import Derived.Test.YtdimbnkgomfojabFold28
import Derived.Test.YtdimbnkgomfojabFold26
import Derived.Test.YtdimbnkgomfojabFold15
import Derived.Test.YtdimbnkgomfojabFold19
import Derived.Test.YtdimbnkgomfojabFold4

section
namespace Go.Proofs.Ytdimbnkgomfojab
open Go.RowKit Go.WideShapes

theorem fit_good {n m : Nat} {xs : List Int} (h : goodB n m xs = true) : fitM xs n m := by
  obtain ⟨_, _, h3, h4⟩ := good_facts h
  intro r c hr hb
  have hk := h4 r (by omega)
  apply Classical.byContradiction
  intro hc
  have hp : pw (m : Int) = ((2 ^ m : Nat) : Int) := by unfold pw; simp
  rw [hp] at hk
  have hlt : (xs.getD r 0).toNat < 2 ^ m := by omega
  rw [Nat.testBit_lt_two_pow (Nat.lt_of_lt_of_le hlt (Nat.pow_le_pow_right (by omega) (by omega)))] at hb
  cases hb
def colsR (r c : Int) (xs R : List Int) : LR := if goodB r c xs && riseB R 0 (r - 1) then ⟨colS xs r.toNat c.toNat R false, true⟩ else ⟨[], false⟩
theorem colsR_len (r c : Int) (xs R : List Int) : (colsR r c xs R).ys.length ≤ 1048576 := by
  unfold colsR
  split
  · rename_i h
    rw [Bool.and_eq_true] at h
    have h1 := good_facts h.1
    have h2 := colS_len xs r.toNat c.toNat R false
    show (colS xs r.toNat c.toNat R false).length ≤ _
    omega
  · simp

set_option maxRecDepth 100000 in
set_option maxHeartbeats 1600000 in
theorem specCol_any (r c : Int) (xs R : List Int) (w : World) (hx : xs.length ≤ 1048576) (hp : R.length ≤ 1048576) (lo : Nat) (s : Value) (lo2 : Nat) (s2 : Value) (hO : Own w lo s xs) (hO2 : Own w lo2 s2 R) :
    Calls Try.prog 43 #[.agg #[.int .i64 r, .int .i64 c, s], s2] w fun e w' => AnsL (colsR r c xs R) w e w' := by
  have L0 := (Law.start w).box (.int .i64 r) (.int .i64 c) s 28
  have hO0 := hO.kept L0.below
  obtain ⟨a, cap, rfl, hr⟩ := hO.reads
  obtain ⟨a2, p2, rfl, hr2⟩ := hO2.reads
  have hr0 := L0.reads hr
  clear hO hO2
  cases hg : goodB r c xs
  · rw [show colsR r c xs R = ⟨[], false⟩ by simp [colsR, hg]]
    go_enter Try.func43, Try.ntmps43
    go_wp2_with fail
    refine (at_boolB (boGood_any r c a cap xs _ hx hr0) hg).mono ?_
    rintro e w1 ⟨rfl, hb⟩
    have HB := Lib.hid (L0.kept hb).below
    clear L0 hb hg hr0 hO0
    go_wp2_with fail
    go_ret2
    exact ⟨_, rfl, Own.nil _ _, HB.out⟩
  · obtain ⟨g1, g2, g3, _⟩ := good_facts hg
    obtain ⟨n, rfl⟩ := Int.eq_ofNat_of_zero_le (show 0 ≤ r by omega)
    obtain ⟨m, rfl⟩ := Int.eq_ofNat_of_zero_le (show 0 ≤ c by omega)
    have HC := Lib.hid (at_boolB (boGood_any n m a cap xs _ hx hr0) hg)
    have HP := Lib.hid (fun W (h : Reads W a2 R.length R) => l1Rising_any a2 p2 R 0 ((n : Int) - 1) W hp h)
    have hnw : IntKind.i64.wrap ((n : Int) - 1) = (n : Int) - 1 := IntWalk.i64_in _ (by omega)
    cases hq : riseB R 0 ((n : Int) - 1)
    · rw [show colsR n m xs R = ⟨[], false⟩ by simp [colsR, hq]]
      rw [hq] at HP
      clear hg hr0 hq
      go_enter Try.func43, Try.ntmps43
      go_wp2_with fail
      refine HC.out.mono ?_
      rintro e w1 ⟨rfl, hb⟩
      have L1 := L0.kept hb
      have HR := Lib.hid (L1.reads hr2)
      have ⟨_, k0, k1, k2, _⟩ := L1.ownBox
      have HB := Lib.hid L1.below
      clear L0 L1 hb HC hO0
      go_wp2_with fail
      refine (HP.out _ HR.out).mono ?_
      rintro e w2 ⟨rfl, rfl⟩
      clear k0 k1 k2 HR
      go_wp2_with fail
      go_ret2
      exact ⟨_, rfl, Own.nil _ _, HB.out⟩
    · rw [show colsR n m xs R = ⟨colS xs n m R false, true⟩ by simp [colsR, hq, hg]]
      rw [hq] at HP
      have HCL := Lib.hid (fun (W : World) (h : Own W lo (.slice a xs.length cap) xs) (h2 : Reads W a2 R.length R) => lcColumns_any n m xs R false a2 p2 W hx hp (by omega) (by omega) (by omega) (good_cell hg) lo _ h h2)
      clear hg hr0 hq
      go_enter Try.func43, Try.ntmps43
      go_wp2_with fail
      refine HC.out.mono ?_
      rintro e w1 ⟨rfl, hb⟩
      have L1 := L0.kept hb
      have hO1 := hO0.kept hb
      have HR := Lib.hid (L1.reads hr2)
      have ⟨_, k0, k1, k2, _⟩ := L1.ownBox
      have HL := Lib.hid L1
      clear L0 L1 hb HC hO0
      go_wp2_with fail
      refine (HP.out _ HR.out).mono ?_
      rintro e w2 ⟨rfl, rfl⟩
      go_wp2_with fail
      refine (HCL.out _ hO1 HR.out).mono ?_
      rintro e w3 ⟨v, rfl, hv, hb⟩
      have HV := Lib.hid (And.intro (hv.lower HL.out.below.size) (HL.out.kept hb).below)
      clear HL hO1 HR hv hb k0 k1 k2
      go_wp2_with fail
      go_ret2
      exact ⟨_, rfl, HV.out.1, HV.out.2⟩

set_option maxRecDepth 100000 in
set_option maxHeartbeats 1600000 in
theorem implCol_any (r c : Int) (xs R : List Int) (w : World) (hx : xs.length ≤ 1048576) (hp : R.length ≤ 1048576) (lo : Nat) (s : Value) (lo2 : Nat) (s2 : Value) (hO : Own w lo s xs) (hO2 : Own w lo2 s2 R) :
    Calls Try.prog 45 #[.agg #[.int .i64 r, .int .i64 c, s], s2] w fun e w' => AnsL (colsR r c xs R) w e w' := by
  have L0 := (Law.start w).box (.int .i64 r) (.int .i64 c) s 28
  obtain ⟨a, cap, rfl, hr⟩ := hO.reads
  obtain ⟨a2, p2, rfl, hr2⟩ := hO2.reads
  have hr0 := L0.reads hr
  clear hO hO2
  cases hg : goodB r c xs
  · rw [show colsR r c xs R = ⟨[], false⟩ by simp [colsR, hg]]
    go_enter Try.func45, Try.ntmps45
    go_wp2_with fail
    refine (gridOf_no r c a cap xs _ hx hr0 hg).mono ?_
    rintro e w1 ⟨rfl, hb⟩
    have HB := Lib.hid (((L0.kept hb).kept (below_new (.cells #[.int .i64 0, .int .i64 0, .int .i64 0, .int .i64 0, .int .i64 0, .int .i64 0, .int .i64 0, .int .i64 0] 68))).below)
    clear L0 hb hg hr0
    go_wp2_with fail
    go_ret2
    exact ⟨_, rfl, Own.nil _ _, HB.out⟩
  · obtain ⟨g1, g2, g3, _⟩ := good_facts hg
    obtain ⟨n, rfl⟩ := Int.eq_ofNat_of_zero_le (show 0 ≤ r by omega)
    obtain ⟨m, rfl⟩ := Int.eq_ofNat_of_zero_le (show 0 ≤ c by omega)
    obtain ⟨M, hM, hc⟩ := gridOf_good n m a cap xs _ hx hr0 hg
    have hgc := good_cell hg
    have hMb : ∀ k, k < 6 → 0 ≤ M k ∧ M k < 64 := fun k _ => by rw [hM]; exact hgc k
    have HC := Lib.hid hc
    have HP := Lib.hid (fun W (h : Reads W a2 R.length R) => areIndices_any a2 p2 R n W hp h)
    cases hq : riseB R 0 ((n : Int) - 1)
    · rw [show colsR n m xs R = ⟨[], false⟩ by simp [colsR, hq]]
      rw [hq] at HP
      clear hg hr0 hq hc hM hMb hgc
      go_enter Try.func45, Try.ntmps45
      go_wp2_with fail
      refine HC.out.mono ?_
      rintro e w1 ⟨rfl, hb⟩
      have L1 := (L0.kept hb).has (gl n m M) 68
      rw [show w1.alloc (.cells (gl n m M).toArray 68) = w1.alloc (.cells #[.int .i64 n, .int .i64 m, .int .i64 (M 0), .int .i64 (M 1), .int .i64 (M 2), .int .i64 (M 3), .int .i64 (M 4), .int .i64 (M 5)] 68) from rfl] at L1
      clear L0 hb HC
      go_upto_region 2 with fail
      generalize w1.alloc (.cells #[.int .i64 n, .int .i64 m, .int .i64 (M 0), .int .i64 (M 1), .int .i64 (M 2), .int .i64 (M 3), .int .i64 (M 4), .int .i64 (M 5)] 68) = w5 at *
      have HR := Lib.hid (L1.reads hr2)
      have ⟨e0, _⟩ := L1.ownHas.eight
      have HB := Lib.hid L1.below
      clear L1
      go_wp2_with fail
      refine (HP.out _ HR.out).mono ?_
      rintro e w2 ⟨rfl, rfl⟩
      clear e0 HR
      go_wp2_with fail
      go_ret2
      exact ⟨_, rfl, Own.nil _ _, HB.out⟩
    · rw [show colsR n m xs R = ⟨colS xs n m R false, true⟩ by simp [colsR, hq, hg]]
      rw [hq] at HP
      have hmem : ∀ q ∈ R, 0 ≤ q ∧ q < n := fun q hm => by have := riseB_mem hq q hm; omega
      have hri := rowsIn_of (n := n) (by omega) hmem
      have hci := col_in xs M n m (by omega) (fit_good hg) (fun k _ => hM k) R hmem
      have ho := orM_lt' M hMb R hri R.length (Nat.le_refl _)
      rw [List.take_length] at ho
      have hin := fun W (h : Reads W a2 R.length R) => columnsIn_any n m M a2 p2 R W hp h hri hMb
      have hcm := fun W => columnsOfMask_any (orM M R) W ho
      rw [hci] at hcm
      have HIN := Lib.hid hin
      have HCM := Lib.hid hcm
      clear hg hr0 hq hc hM hMb hgc hmem hri hci hin hcm ho
      generalize orM M R = y at *
      go_enter Try.func45, Try.ntmps45
      go_wp2_with fail
      refine HC.out.mono ?_
      rintro e w1 ⟨rfl, hb⟩
      have L1 := (L0.kept hb).has (gl n m M) 68
      rw [show w1.alloc (.cells (gl n m M).toArray 68) = w1.alloc (.cells #[.int .i64 n, .int .i64 m, .int .i64 (M 0), .int .i64 (M 1), .int .i64 (M 2), .int .i64 (M 3), .int .i64 (M 4), .int .i64 (M 5)] 68) from rfl] at L1
      clear L0 hb HC
      go_upto_region 2 with fail
      generalize w1.alloc (.cells #[.int .i64 n, .int .i64 m, .int .i64 (M 0), .int .i64 (M 1), .int .i64 (M 2), .int .i64 (M 3), .int .i64 (M 4), .int .i64 (M 5)] 68) = w5 at *
      have HR := Lib.hid (L1.reads hr2)
      have ⟨e0, e1, e2, e3, e4, e5, e6, e7, _⟩ := L1.ownHas.eight
      have HL := Lib.hid L1
      clear L1
      go_wp2_with fail
      refine (HP.out _ HR.out).mono ?_
      rintro e w2 ⟨rfl, rfl⟩
      go_wp2_with fail
      refine (HIN.out _ HR.out).mono ?_
      rintro e w3 ⟨rfl, hb⟩
      have HL3 := Lib.hid (HL.out.kept hb)
      clear HL HR hb e0 e1 e2 e3 e4 e5 e6 e7
      go_wp2_with fail
      refine (HCM.out _).mono ?_
      rintro e w4 ⟨v, rfl, hv, hb⟩
      have HV := Lib.hid (And.intro (hv.lower HL3.out.below.size) (HL3.out.kept hb).below)
      clear HL3 hv hb
      go_wp2_with fail
      go_ret2
      exact ⟨_, rfl, HV.out.1, HV.out.2⟩

end Go.Proofs.Ytdimbnkgomfojab
end

section
namespace Go.Proofs.Ytdimbnkgomfojab
open Go.RowKit Go.WideShapes

theorem Law.perm {w0 w : World} {ts ts' : List Thing} (h : Law w0 ts w) (hp : ts.Perm ts') : Law w0 ts' w :=
  ⟨h.below, fun t ht => h.holds t (hp.mem_iff.2 ht), fun t ht => h.range t (hp.mem_iff.2 ht), h.dis.perm hp (fun h k e1 e2 => h k e2 e1)⟩
/-- The outer row alone. -/
def tRowO (v : Value) (vs : List Value) : Thing :=
  ⟨fun k => v.ownBlock = some k, fun w => w.ownsRow 0 22 1 v vs.length vs, fun _ _ _ hk h => by
    refine ⟨h.1, ?_⟩
    rcases h.2 with h2 | ⟨g, cap, cur, hv, hg, hh, r⟩
    · exact .inl h2
    · exact .inr ⟨g, cap, cur, hv, hg, by rw [hk g (by rw [hv]; rfl)]; exact hh, r⟩⟩
/-- The rows, each a thing. -/
def tRows (vs : List Value) (rss : List (List Int)) : List Thing := (vs.zip rss).map fun p => tOwn p.1 p.2
theorem tRows_foot {vs : List Value} {rss : List (List Int)} {t : Thing} (h : t ∈ tRows vs rss) : ∃ u r, (u, r) ∈ vs.zip rss ∧ t = tOwn u r := by
  unfold tRows at h
  obtain ⟨p, hp, rfl⟩ := List.mem_map.1 h
  exact ⟨p.1, p.2, hp, rfl⟩
theorem Law.apartM {w0 w : World} {ts : List Thing} {v : Value} {vs : List Value} {rss : List (List Int)} (h : Law w0 (tM v vs rss :: ts) w) : Law w0 (tRowO v vs :: (tRows vs rss ++ ts)) w := by
  have hM := h.ownM
  have hr := h.range (tM v vs rss) (by simp)
  have hd := List.pairwise_cons.1 h.dis
  have hfo : ∀ t ∈ tRows vs rss, ∀ k, t.foot k → (tM v vs rss).foot k := fun t ht k hk => by
    obtain ⟨u, r, hm, rfl⟩ := tRows_foot ht
    exact .inr ⟨u, (List.of_mem_zip hm).1, hk⟩
  refine ⟨h.below, ?_, ?_, ?_⟩
  · intro t ht
    rcases List.mem_cons.1 ht with rfl | ht
    · exact hM.outer
    · rcases List.mem_append.1 ht with ht | ht
      · obtain ⟨u, r, hm, rfl⟩ := tRows_foot ht
        exact hM.rows _ hm
      · exact h.holds t (by simp [ht])
  · intro t ht k hk
    rcases List.mem_cons.1 ht with rfl | ht
    · exact hr k (.inl hk)
    · rcases List.mem_append.1 ht with ht | ht
      · exact hr k (hfo t ht k hk)
      · exact h.range t (by simp [ht]) k hk
  · refine List.pairwise_cons.2 ⟨fun t ht k e1 e2 => ?_, ?_⟩
    · rcases List.mem_append.1 ht with ht | ht
      · obtain ⟨u, r, hm, rfl⟩ := tRows_foot ht
        exact hM.apart u (List.of_mem_zip hm).1 k e2 e1
      · exact hd.1 t ht k (.inl e1) e2
    · rw [List.pairwise_append]
      refine ⟨?_, hd.2, fun a ha b hb k e1 e2 => hd.1 b hb k (hfo a ha k e1) e2⟩
      unfold tRows
      rw [List.pairwise_map]
      have hp := hM.dis
      have : (vs.zip rss).Pairwise (fun p q => ∀ k, p.1.ownBlock = some k → q.1.ownBlock ≠ some k) := by
        have h2 : ((vs.zip rss).map Prod.fst).Pairwise (fun a b => ∀ k, a.ownBlock = some k → b.ownBlock ≠ some k) := by
          rw [List.map_fst_zip (by rw [hM.len]; exact Nat.le_refl _)]
          exact hp
        rwa [List.pairwise_map] at h2
      exact this
theorem tRows_cons (vs : List Value) (rss : List (List Int)) (k : Nat) (h1 : k < vs.length) (h2 : k < rss.length) : tRows (vs.drop k) (rss.drop k) = tOwn vs[k] rss[k] :: tRows (vs.drop (k + 1)) (rss.drop (k + 1)) := by
  unfold tRows
  rw [List.drop_eq_getElem_cons h1, List.drop_eq_getElem_cons h2]
  rfl
theorem filt_yes (L : List (List Int)) (p : List Int → Bool) (k : Nat) (hk : k < L.length) (h : p L[k] = true) : (L.take k).filter p ++ [L[k]] = (L.take (k + 1)).filter p := by
  rw [List.take_succ_eq_append_getElem hk, List.filter_append]
  simp [h]
theorem filt_no (L : List (List Int)) (p : List Int → Bool) (k : Nat) (hk : k < L.length) (h : p L[k] = false) : (L.take k).filter p = (L.take (k + 1)).filter p := by
  rw [List.take_succ_eq_append_getElem hk, List.filter_append]
  simp [h]

end Go.Proofs.Ytdimbnkgomfojab
end
