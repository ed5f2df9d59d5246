import Derived.Test.YtakdiiccdkjjcacFold24
import Derived.Test.YtakdiiccdkjjcacFold18
import Derived.Test.YtakdiiccdkjjcacFold11
import Derived.IntWalk
import Derived.Deep.RegionHeld3
import Derived.Test.YtakdiiccdkjjcacFold22
import Derived.Test.YtakdiiccdkjjcacFold6
import Derived.Deep.RegionWith

section
namespace Go.Proofs.Ytakdiiccdkjjcac
open Go.RowKit Go.WideShapes

theorem arrow_val (m k : Nat) (hm : m ≤ 6) (hk : k < m) : wrap64 (wrap64 (2 ^ m) - wrap64 (2 ^ (k + 1))) = (rulM aboveR k m : Nat) := by
  have key : ∀ m : Fin 7, ∀ k : Fin 6, (k : Nat) < m → wrap64 (wrap64 (2 ^ (m : Nat)) - wrap64 (2 ^ ((k : Nat) + 1))) = (rulM aboveR k m : Nat) := by decide +kernel
  exact key ⟨m, by omega⟩ ⟨k, by omega⟩ hk
set_option maxRecDepth 100000 in
set_option maxHeartbeats 3200000 in
theorem fiArrow_any (m : Nat) (w : World) (hm6 : m ≤ 6) (hm1 : 1 ≤ m) : Calls Try.prog 77 #[.int .i64 m] w fun e w' => ∃ g cap, e = .returned (.agg #[.int .i64 m, .int .i64 m, .slice (some ⟨g, 0, none⟩) m cap]) ∧ Own w' w.heap.size (.slice (some ⟨g, 0, none⟩) m cap) (rowsL aboveR m) ∧ Below w.heap.size w w' := by
  have L0 := (Law.start w).box (.int .i64 0) (.int .i64 0) (.slice none 0 0) 28
  have HVAL := Lib.hid (fun k (hk : k < m) => arrow_val m k hm6 hk)
  have HYK := Lib.hid (rowsL_get aboveR m)
  have HLY := Lib.hid (rowsL_len aboveR m)
  obtain ⟨ys, hys⟩ : ∃ ys, ys = rowsL aboveR m := ⟨_, rfl⟩
  rw [← hys] at HYK HLY ⊢
  have HL := Lib.hid L0
  clear L0 hys
  go_enter Try.func77, Try.ntmps77
  go_wp2_with fail
  refine (boEmpty_any m m _ hm6).mono ?_
  rintro e w1 ⟨s, rfl, hO, hb⟩
  rcases hO.cases with ⟨rfl, h0⟩ | ⟨g, cap, rfl, _, _, _, _⟩
  · have := congrArg List.length h0
    simp at this
    omega
  rw [List.length_replicate] at hO ⊢
  have L1 := (HL.out.own hb hO).box (.int .i64 m) (.int .i64 m) (.slice (some ⟨g, 0, none⟩) m cap) 28
  have hlx : (List.replicate m (0 : Int)).length = m := by simp
  rw [← over_zero ys (List.replicate m 0)] at L1
  generalize List.replicate m (0 : Int) = zs at *
  have HLX := Lib.hid hlx
  have HL1 := Lib.hid L1
  clear HL hO hb L1 hlx
  go_upto_region 2 with fail
  generalize w1.alloc _ = w6 at *
  have ⟨_, k0, k1, k2, _⟩ := HL1.out.ownBox
  go_wp2_with fail
  clear k0 k1 k2
  go_loopw [11] (fun i wr => ∃ k : Nat, k ≤ m ∧ i = .int .i64 k ∧ Law w [tBox w1.heap.size (.int .i64 m) (.int .i64 m) (.slice (some ⟨g, 0, none⟩) m cap), tOwn (.slice (some ⟨g, 0, none⟩) m cap) (over ys zs k), tBox w.heap.size (.int .i64 0) (.int .i64 0) (.slice none 0 0)] wr) (fun i _ => m - (intOf i).toNat)
  case atStart => exact ⟨0, Nat.zero_le _, rfl, HL1.out⟩
  case round =>
    clear HL1
    obtain ⟨k, hk, rfl, L⟩ := hrel
    obtain ⟨wo, rfl⟩ : ∃ wo : World, wo = wr := ⟨_, rfl⟩
    by_cases hlt : k < m
    · have ⟨_, k0, k1, k2, _⟩ := L.drew.ownBox
      have o := L.drew.tl.ownInts
      have hol := over_len ys zs k m HLY.out HLX.out hk
      have d1 := Own.cell (by rw [hol]; exact o) k (by rw [hol]; exact hlt)
      have d2 := Own.free (by rw [hol]; exact o) k
      have hS := Law.store (ts := [_]) L.drew hol k (rulM aboveR k m : Nat)
      rw [over_set ys zs k m HLY.out HLX.out hlt _ (HYK.out k hlt)] at hS
      have HS := Lib.hid hS
      have hval := HVAL.out k hlt
      generalize (over ys zs k).getD k 0 = u at *
      generalize rulM aboveR k m = y at *
      have hx0 : (0 : Int) ≤ k := by omega
      have hx1 : (k : Int) < m := by omega
      have hx6 : (m : Int) ≤ 6 := by omega
      have hx64 : (k : Int) < 64 := by omega
      have hx65 : (m : Int) < 64 := by omega
      have hx00 : (0 : Int) ≤ m := by omega
      have hk1 : (k : Int) + 1 < 64 := by omega
      have HV := Lib.hid hval
      clear hval
      clear L hS o hol
      go_wp2_with fail
      go_region
      go_wp2_with fail
      go_roundw
      case rel => exact ⟨k + 1, by omega, by go_num, by first | exact HS.out | (rw [HV.out]; exact HS.out)⟩
      case measure => simp [intOf]; omega
    · obtain rfl : k = m := by omega
      rw [over_full ys zs k HLY.out HLX.out] at L
      have ⟨_, k0, k1, k2, _⟩ := L.ownBox
      have ⟨_, m0, m1, m2, mf⟩ := L.tl.tl.ownBox
      have hfin := L.tl.fin3 (n := w.heap.size) (x := .int .i64 0) (y := .int .i64 0) (z := .slice none 0 0) (by simp) (.int .i64 k) (.int .i64 k) (.slice (some ⟨g, 0, none⟩) k cap)
      have HF := Lib.hid hfin
      clear L hfin hlt
      go_wp2_with fail
      exact bodyPost_ret (v := .agg #[.int .i64 k, .int .i64 k, .slice (some ⟨g, 0, none⟩) k cap]) (by simp [results, Try.results77, go_sem, m0, m1, m2]) rfl ⟨_, _, rfl, HF.out.1, HF.out.2⟩

set_option maxRecDepth 100000 in
set_option maxHeartbeats 1600000 in
theorem implArrow_any (n : Int) (w : World) : Calls Try.prog 24 #[.int .i64 n] w fun e w' => AnsB (aboveB n) w e w' := by
  have L0 := (Law.start w).box (.int .i64 0) (.int .i64 0) (.slice none 0 0) 28
  cases hg : inB 1 n 6
  · rw [show aboveB n = BR.zero by simp [aboveB, ruleB, hg]]
    have HC := Lib.hid (at_bool (isThings_any n) hg)
    have ⟨_, n0, n1, n2, nf⟩ := L0.ownBox
    have HB := Lib.hid L0.below
    clear L0 hg
    go_enter Try.func24, Try.ntmps24
    go_wp2_with fail
    refine (HC.out _).mono ?_
    rintro e w2 ⟨rfl, rfl⟩
    go_wp2_with fail
    refine bodyPost_ret (v := .tuple #[.agg #[.int .i64 0, .int .i64 0, .slice none 0 0], .bool false]) (by simp [results, Try.results24, go_sem, n0, n1, n2]) rfl (ansB_zero _ _ ?_)
    have h2 := HB.out
    repeat (refine Below.setCell ?_ (by first | exact Nat.le_refl _ | (simp <;> omega) | simp | omega) _)
    exact h2
  · have HC := Lib.hid (at_bool (isThings_any n) hg)
    have HA := Lib.hid (fun W => implAboveBoard_any n W)
    obtain ⟨h1, h2⟩ := inB_iff.1 hg
    obtain ⟨m, rfl⟩ := Int.eq_ofNat_of_zero_le (show 0 ≤ n by omega)
    rw [show aboveB m = ⟨m, m, rowsL aboveR m, true⟩ by simp [aboveB, ruleB, hg]] at *
    have HL := Lib.hid L0
    have HLL := Lib.hid (rowsL_len aboveR m)
    clear L0 hg h1 h2
    go_enter Try.func24, Try.ntmps24
    go_wp2_with fail
    refine (HC.out _).mono ?_
    rintro e w2 ⟨rfl, hw⟩
    subst w2
    go_wp2_with fail
    refine (HA.out _).mono ?_
    rintro e w1 ⟨s, rfl, hO, hb⟩
    obtain ⟨a1, p1, hv, _⟩ := hO.reads
    rw [HLL.out] at hv
    subst hv
    have L1 := HL.out.own hb hO
    have ⟨_, n0, n1, n2, nf⟩ := L1.tl.ownBox
    have hfin := L1.fin3 (n := w.heap.size) (x := .int .i64 0) (y := .int .i64 0) (z := .slice none 0 0) (by simp) (.int .i64 m) (.int .i64 m) (.slice a1 m p1)
    have HF := Lib.hid hfin
    clear HL hO hb L1 hfin HC HA
    go_wp2_with fail
    exact bodyPost_ret (v := .tuple #[.agg #[.int .i64 m, .int .i64 m, .slice a1 m p1], .bool true]) (by simp [results, Try.results24, go_sem, n0, n1, n2]) rfl ⟨_, rfl, HF.out.1, HF.out.2⟩

set_option maxRecDepth 100000 in
set_option maxHeartbeats 1600000 in
theorem specArrow_any (n : Int) (w : World) : Calls Try.prog 25 #[.int .i64 n] w fun e w' => AnsB (aboveB n) w e w' := by
  have L0 := (Law.start w).box (.int .i64 0) (.int .i64 0) (.slice none 0 0) 28
  cases hg : inB 1 n 6
  · rw [show aboveB n = BR.zero by simp [aboveB, ruleB, hg]]
    have HC := Lib.hid (at_bool (fiThings_any n) hg)
    have ⟨_, n0, n1, n2, nf⟩ := L0.ownBox
    have HB := Lib.hid L0.below
    clear L0 hg
    go_enter Try.func25, Try.ntmps25
    go_wp2_with fail
    refine (HC.out _).mono ?_
    rintro e w2 ⟨rfl, rfl⟩
    go_wp2_with fail
    refine bodyPost_ret (v := .tuple #[.agg #[.int .i64 0, .int .i64 0, .slice none 0 0], .bool false]) (by simp [results, Try.results25, go_sem, n0, n1, n2]) rfl (ansB_zero _ _ ?_)
    have h2 := HB.out
    repeat (refine Below.setCell ?_ (by first | exact Nat.le_refl _ | (simp <;> omega) | simp | omega) _)
    exact h2
  · have HC := Lib.hid (at_bool (fiThings_any n) hg)
    obtain ⟨h1, h2⟩ := inB_iff.1 hg
    obtain ⟨m, rfl⟩ := Int.eq_ofNat_of_zero_le (show 0 ≤ n by omega)
    have HA := Lib.hid (fun W => fiArrow_any m W (by omega) (by omega))
    rw [show aboveB m = ⟨m, m, rowsL aboveR m, true⟩ by simp [aboveB, ruleB, hg]]
    have HL := Lib.hid L0
    clear L0 hg h1 h2
    go_enter Try.func25, Try.ntmps25
    go_wp2_with fail
    refine (HC.out _).mono ?_
    rintro e w2 ⟨rfl, hw⟩
    subst w2
    go_wp2_with fail
    refine (HA.out _).mono ?_
    rintro e w1 ⟨g, cap, rfl, hO, hb⟩
    have L1 := HL.out.own hb hO
    have ⟨_, n0, n1, n2, nf⟩ := L1.tl.ownBox
    have hfin := L1.fin3 (n := w.heap.size) (x := .int .i64 0) (y := .int .i64 0) (z := .slice none 0 0) (by simp) (.int .i64 m) (.int .i64 m) (.slice (some ⟨g, 0, none⟩) m cap)
    have HF := Lib.hid hfin
    clear HL hO hb L1 hfin HC HA
    go_wp2_with fail
    exact bodyPost_ret (v := .tuple #[.agg #[.int .i64 m, .int .i64 m, .slice (some ⟨g, 0, none⟩) m cap], .bool true]) (by simp [results, Try.results25, go_sem, n0, n1, n2]) rfl ⟨_, rfl, HF.out.1, HF.out.2⟩
end Go.Proofs.Ytakdiiccdkjjcac
end

section
namespace Go.Proofs.Ytakdiiccdkjjcac
open Go.RowKit Go.WideShapes



end Go.Proofs.Ytakdiiccdkjjcac
end

section
namespace Go.Proofs.Ytakdiiccdkjjcac
open Go.RowKit Go.WideShapes

theorem bit_off (s c : Nat) (hs : s < 64) (hc : c < 6) : (bits .and .i64 ((s : Int) / 2 ^ c) 1 == 0) = !s.testBit c := by
  have key : ∀ t : Fin 64, ∀ c : Fin 6, (bits .and .i64 (((t : Nat) : Int) / 2 ^ (c : Nat)) 1 == 0) = !(t : Nat).testBit c := by decide +kernel
  exact key ⟨s, hs⟩ ⟨c, hc⟩
/-- A grid's cells, as a test. -/
abbrev bM (M : Nat → Int) (a b : Nat) : Bool := (M a).toNat.testBit b
/-- The rows of a grid. -/
def rowL (n : Nat) (M : Nat → Int) : List Int := (List.range n).map M
theorem rowL_len (n : Nat) (M : Nat → Int) : (rowL n M).length = n := by simp [rowL]
theorem rowL_get (n : Nat) (M : Nat → Int) (k : Nat) (h : k < n) : (rowL n M).getD k 0 = M k := by simp [rowL, List.getD, h]
theorem wR_rows (m : Nat) (B B' : Nat → Nat → Bool) (d : Nat) : ∀ f t k, (∀ r c, f ≤ r → r < f + d → B r c = B' r c) → wR m B d f t k = wR m B' d f t k := by
  induction d with
  | zero => intro f t k _; rfl
  | succ d ih =>
    intro f t k h
    have ih' := fun t k => ih (f + 1) t k (fun r c h1 h2 => h r c (by omega) (by omega))
    rw [wR, wR, ih' t k]
    congr 2
    refine List.map_congr_left (fun c _ => ?_)
    unfold term
    rw [h f c (Nat.le_refl _) (by omega), ih']
theorem wR_rowL (m n : Nat) (M : Nat → Int) (k : Nat) : wR m (bt (rowL n M)) n 0 0 k = wR m (bM M) n 0 0 k :=
  wR_rows m _ _ n 0 0 k (fun r c _ h => by
    show ((rowL n M).getD r 0).toNat.testBit c = _
    rw [rowL_get n M r (by omega)])

set_option maxRecDepth 100000 in
set_option maxHeartbeats 3200000 in
theorem rookNumbers_any (n m : Nat) (M : Nat → Int) (w : World) (hn : n ≤ 6) (hm : m ≤ 6) (hgc : ∀ k, k < 6 → 0 ≤ M k ∧ M k < 64) :
    Calls Try.prog 79 #[gv n m M] w fun e w' => ∃ g p, e = .returned (.slice (some ⟨g, 0, none⟩) (min n m + 1) p) ∧ Own w' w.heap.size (.slice (some ⟨g, 0, none⟩) (min n m + 1) p) (lstL (min n m + 1) (wR m (bM M) n 0 0)) ∧ Below w.heap.size w w' := by
  have L0 := ((Law.start w).has (gl n m M) 83).drew
  have ⟨e0, e1, e2, e3, e4, e5, e6, e7, ef⟩ := L0.ownHas.eight
  have hn0 : (0 : Int) ≤ n := by omega
  have hn6 : (n : Int) ≤ 6 := by omega
  have hrd : Reads (w.alloc (.cells (gl n m M).toArray 83)).drew (some ⟨w.heap.size, 2, none⟩) n (rowL n M) := by
    refine ⟨(rowL_len n M).symm, .inr ⟨_, 2, rfl, L0.ownHas.lt, fun j hj => ?_⟩⟩
    rw [rowL_get n M j hj]
    have := L0.ownHas.cell (2 + j)
    rw [gl_get n m M j (by omega)] at this
    exact this
  have HC := Lib.hid (fun p W (h : Reads W (some ⟨w.heap.size, 2, none⟩) n (rowL n M)) => numbersOfRows_any n m (rowL n M) (some ⟨w.heap.size, 2, none⟩) p W (rowL_len n M) (by omega) (by omega) (fun k hk => by rw [rowL_get n M k hk]; have := hgc k (by omega); omega) h)
  have HW := Lib.hid (wR_rowL m n M)
  have HRD := Lib.hid hrd
  have HL := Lib.hid L0
  clear L0 hrd hgc
  rw [show w.alloc (.cells (gl n m M).toArray 83) = w.alloc (.cells #[.int .i64 n, .int .i64 m, .int .i64 (M 0), .int .i64 (M 1), .int .i64 (M 2), .int .i64 (M 3), .int .i64 (M 4), .int .i64 (M 5)] 83) from rfl] at HL HRD e0 e1 ef
  go_enter Try.func79, Try.ntmps79
  go_upto_region 1 with fail
  generalize w.alloc (.cells #[.int .i64 n, .int .i64 m, .int .i64 (M 0), .int .i64 (M 1), .int .i64 (M 2), .int .i64 (M 3), .int .i64 (M 4), .int .i64 (M 5)] 83) = w5 at *
  clear e2 e3 e4 e5 e6 e7
  go_region_with ((go_at_call 135; ((with_reducible refine (HC.out _ _ HRD.out).mono ?_); rintro e wA ⟨gA, pA, rfl, OA, hbA⟩; have HLA := Lib.hid (HL.out.own hbA OA); clear OA hbA)))
  all_goals
    go_wp2_with fail
    go_ret
    have hO := HLA.out.ownLo
    rw [lstL_congr (min n m + 1) _ _ (fun k _ => HW.out k)] at hO
    exact ⟨_, _, rfl, hO, HLA.out.below⟩
end Go.Proofs.Ytakdiiccdkjjcac
end

section
namespace Go.Proofs.Ytakdiiccdkjjcac
open Go.RowKit Go.WideShapes

/-- The rook numbers. -/
def numL (n m : Nat) (B : Nat → Nat → Bool) : List Int := lstL (min n m + 1) (wR m B n 0 0)
theorem numL_len (n m : Nat) (B : Nat → Nat → Bool) : (numL n m B).length = min n m + 1 := lstL_len _ _
theorem numL_get (n m : Nat) (B : Nat → Nat → Bool) (k : Nat) (h : k < min n m + 1) : (numL n m B).getD k 0 = wR m B n 0 0 k := lstL_get _ _ k h
theorem numL_bd (n m : Nat) (hn : n ≤ 6) (hm : m ≤ 6) (B : Nat → Nat → Bool) (k : Nat) : 0 ≤ (numL n m B).getD k 0 ∧ (numL n m B).getD k 0 ≤ 117649 := by
  by_cases h : k < min n m + 1
  · rw [numL_get n m B k h]
    have := wR_le m hm B n 0 0 k
    have := pow7 n hn
    omega
  · rw [List.getD_eq_getElem?_getD, List.getElem?_eq_none (by rw [numL_len]; omega)]
    simp
/-- The beginning of a list up to its last number that is not 0. -/
def shK (xs : List Int) : Nat → Nat
  | 0 => 0
  | k + 1 => if xs.getD k 0 = 0 then shK xs k else k + 1
theorem shK_le (xs : List Int) (k : Nat) : shK xs k ≤ k := by
  induction k with
  | zero => simp [shK]
  | succ k ih => rw [shK]; split <;> omega

def numB (r c : Int) (xs : List Int) : LR := if goodB r c xs then ⟨numL r.toNat c.toNat (bt xs), true⟩ else ⟨[], false⟩
theorem numB_len (r c : Int) (xs : List Int) : (numB r c xs).ys.length ≤ 1048576 := by
  unfold numB
  split
  · rename_i h
    have := good_facts h
    show (numL _ _ _).length ≤ _
    rw [numL_len]
    omega
  · simp


set_option maxRecDepth 100000 in
set_option maxHeartbeats 1600000 in
theorem implNumbers_any (r c : Int) (xs : List Int) (w : World) (hx : xs.length ≤ 1048576) (lo : Nat) (s : Value) (hO : Own w lo s xs) :
    Calls Try.prog 27 #[.agg #[.int .i64 r, .int .i64 c, s]] w fun e w' => AnsL (numB r c xs) w e w' := by
  have L0 := (Law.start w).box (.int .i64 r) (.int .i64 c) s 28
  obtain ⟨a, cap, rfl, hr⟩ := hO.reads
  have hr0 := L0.reads hr
  clear hO
  cases hg : goodB r c xs
  · rw [show numB r c xs = ⟨[], false⟩ by simp [numB, hg]]
    go_enter Try.func27, Try.ntmps27
    go_wp2_with fail
    refine (gridOf_no r c a cap xs _ hx hr0 hg).mono ?_
    rintro e w1 ⟨rfl, hb⟩
    have HB := Lib.hid (((L0.kept hb).kept (below_new (.cells #[.int .i64 0, .int .i64 0, .int .i64 0, .int .i64 0, .int .i64 0, .int .i64 0, .int .i64 0, .int .i64 0] 83))).below)
    clear L0 hb hg hr0
    go_wp2_with fail
    go_ret2
    exact ⟨_, rfl, Own.nil _ _, HB.out⟩
  · obtain ⟨g1, g2, g3, _⟩ := good_facts hg
    have hgc := good_cell hg
    obtain ⟨n, rfl⟩ := Int.eq_ofNat_of_zero_le (show 0 ≤ r by omega)
    obtain ⟨m, rfl⟩ := Int.eq_ofNat_of_zero_le (show 0 ≤ c by omega)
    rw [show numB n m xs = ⟨numL n m (bt xs), true⟩ by simp [numB, hg]]
    have HC := Lib.hid (gridOf_yes n m a cap xs _ hx hr0 hg)
    have HN := Lib.hid (fun W => rookNumbers_any n m (fun k => xs.getD k 0) W (by omega) (by omega) (fun k _ => hgc k))
    clear hg hr0 hgc
    go_enter Try.func27, Try.ntmps27
    go_wp2_with fail
    refine HC.out.mono ?_
    rintro e w1 ⟨rfl, hb⟩
    have HL := Lib.hid ((L0.kept hb).kept (below_new (.cells (gl n m (fun k => xs.getD k 0)).toArray 83)))
    clear L0 hb HC
    go_wp2_with fail
    refine (HN.out _).mono ?_
    rintro e w2 ⟨g, p, rfl, hO, hb⟩
    have HO := Lib.hid (hO.lower HL.out.below.size)
    have HB := Lib.hid (HL.out.kept hb).below
    clear HL hO hb HN
    go_wp2_with fail
    go_ret2
    exact ⟨_, rfl, HO.out, HB.out⟩
end Go.Proofs.Ytakdiiccdkjjcac
end
