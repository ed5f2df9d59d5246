import Derived.Test.YtdimbnkgomfojabFold28
import Derived.Test.YtdimbnkgomfojabFold31
import Derived.BigRegion
namespace Go.Proofs.Ytdimbnkgomfojab
open Go.RowKit Go.WideShapes

def neeR (all : Bool) (r c : Int) (xs : List Int) : MR := if goodB r c xs then ⟨(cellsL xs r.toNat c.toNat).filter (nuP all (LG r.toNat c.toNat (bt xs))), true⟩ else ⟨[], false⟩
theorem neeR_len (all : Bool) (r c : Int) (xs : List Int) : (neeR all r c xs).zz.length ≤ 1048576 ∧ total (neeR all r c xs).zz ≤ 1048576 := by
  unfold neeR
  split
  · rename_i h
    have := good_facts h
    have h1 := cellsU_len xs c.toNat r.toNat 0 (by omega) (by omega) (by omega)
    have h2 := List.length_filter_le (nuP all (LG r.toNat c.toNat (bt xs))) (cellsL xs r.toNat c.toNat)
    have h3 := total_two ((cellsL xs r.toNat c.toNat).filter (nuP all (LG r.toNat c.toNat (bt xs)))) (fun q hq => cellsL_two xs r.toNat c.toNat q (List.mem_filter.1 hq).1)
    show ((cellsL xs r.toNat c.toNat).filter (nuP all (LG r.toNat c.toNat (bt xs)))).length ≤ _ ∧ total ((cellsL xs r.toNat c.toNat).filter (nuP all (LG r.toNat c.toNat (bt xs)))) ≤ _
    unfold cellsL at h2 h3 ⊢
    omega
  · simp [total]
def needR (r c : Int) (xs : List Int) : MR := neeR true r c xs
def uselR (r c : Int) (xs : List Int) : MR := neeR false r c xs
theorem needR_len (r c : Int) (xs : List Int) : (needR r c xs).zz.length ≤ 1048576 ∧ total (needR r c xs).zz ≤ 1048576 := neeR_len true r c xs
theorem uselR_len (r c : Int) (xs : List Int) : (uselR r c xs).zz.length ≤ 1048576 ∧ total (uselR r c xs).zz ≤ 1048576 := neeR_len false r c xs

theorem masks_filter (xs ys : List Int) (n m : Nat) (p : List Int → Bool) (h : ∀ a b : Nat, a < n → b < m → (ys.getD a 0).toNat.testBit b = (p [(a : Int), (b : Int)] && (xs.getD a 0).toNat.testBit b)) : cellsL ys n m = (cellsL xs n m).filter p := by
  have hz : ∀ zs : List Int, rowC zs n 0 = [] := fun zs => by simp [rowC]
  have hr : ∀ a, a < n → rowC ys a m = (rowC xs a m).filter p := by
    intro a ha
    unfold rowC
    rw [List.filter_map, List.filter_filter]
    congr 1
    exact List.filter_congr (fun b hb => h a b ha (List.mem_range.1 hb))
  unfold cellsL cellsU
  rw [hz, hz, List.append_nil, List.append_nil, List.filter_flatMap, List.flatMap_def, List.flatMap_def]
  exact congrArg _ (List.map_congr_left (fun a ha => hr a (List.mem_range.1 ha)))

theorem nuP_all (LL : List (List Int)) (Q : List Int) : nuP true LL Q = LL.all (hasC Q) := by
  rw [nuP, if_pos rfl, Bool.eq_iff_iff, beq_iff_eq, List.all_eq_true, List.length_filter_eq_length_iff]
theorem nuP_none (LL : List (List Int)) (Q : List Int) : nuP false LL Q = LL.all (fun P => !hasC Q P) := by
  rw [nuP, if_neg (by simp), Bool.eq_iff_iff, beq_iff_eq, List.all_eq_true, List.length_eq_zero_iff, List.filter_eq_nil_iff]
  simp

theorem nd_cells (n m : Nat) (M : Nat → Int) (xs : List Int) (hn : n ≤ 6) (hm : m ≤ 6) (hM : ∀ k, M k = xs.getD k 0) :
    cellsL ((List.range n).map (ndF M (LG n m (bt xs)) n)) n m = (cellsL xs n m).filter (nuP true (LG n m (bt xs))) := by
  have hpl := plF_place n m (bt xs) hm
  generalize LG n m (bt xs) = LL at *
  refine masks_filter _ _ _ _ _ (fun a b ha hb => ?_)
  rw [show ((List.range n).map (ndF M LL n)).getD a 0 = ndF M LL n a by simp [List.getD, ha], nuP_all]
  show (((ndM M LL n a : Nat) : Int).toNat).testBit b = _
  rw [Int.toNat_natCast, ndM, fold_and, hM, Bool.and_comm]
  congr 1
  rw [Bool.eq_iff_iff, List.all_eq_true, List.all_eq_true]
  refine forall_congr' fun P => forall_congr' fun hP => ?_
  rw [own_bit _ (hpl P hP a (by omega)) b (by omega), show plF P n a = P.getD a 0 by unfold plF; rw [if_pos ha]]
  rfl
theorem us_cells (n m : Nat) (M : Nat → Int) (xs : List Int) (hn : n ≤ 6) (hm : m ≤ 6) (hM : ∀ k, M k = xs.getD k 0) :
    cellsL ((List.range n).map (usF M (LG n m (bt xs)) n)) n m = (cellsL xs n m).filter (nuP false (LG n m (bt xs))) := by
  have hpl := plF_place n m (bt xs) hm
  generalize LG n m (bt xs) = LL at *
  refine masks_filter _ _ _ _ _ (fun a b ha hb => ?_)
  rw [show ((List.range n).map (usF M LL n)).getD a 0 = usF M LL n a by simp [List.getD, ha], nuP_none]
  show (((usM M LL n a : Nat) : Int).toNat).testBit b = _
  rw [Int.toNat_natCast, usM, fold_and, hM, Bool.and_comm]
  congr 1
  rw [Bool.eq_iff_iff, List.all_eq_true, List.all_eq_true]
  refine forall_congr' fun P => forall_congr' fun hP => ?_
  rw [not_bit _ b (by omega), own_bit _ (hpl P hP a (by omega)) b (by omega), show plF P n a = P.getD a 0 by unfold plF; rw [if_pos ha]]
  rfl
theorem nd_lt (M : Nat → Int) (L : List (List Int)) (n k : Nat) (h : 0 ≤ M k ∧ M k < 64) : 0 ≤ ndF M L n k ∧ ndF M L n k < 64 := by
  have := fold_and_lt (fun P => ownQ (plF P n k)) L (M k).toNat (by omega)
  show (0 : Int) ≤ ((ndM M L n k : Nat) : Int) ∧ ((ndM M L n k : Nat) : Int) < 64
  unfold ndM
  omega
theorem us_lt (M : Nat → Int) (L : List (List Int)) (n k : Nat) (h : 0 ≤ M k ∧ M k < 64) : 0 ≤ usF M L n k ∧ usF M L n k < 64 := by
  have := fold_and_lt (fun P => 63 ^^^ ownQ (plF P n k)) L (M k).toNat (by omega)
  show (0 : Int) ≤ ((usM M L n k : Nat) : Int) ∧ ((usM M L n k : Nat) : Int) < 64
  unfold usM
  omega

set_option maxHeartbeats 1600000 in
theorem specNeed_any (r c : Int) (xs : List Int) (w : World) (hx : xs.length ≤ 1048576) (lo : Nat) (s : Value) (hO : Own w lo s xs) :
    Calls Try.prog 54 #[.agg #[.int .i64 r, .int .i64 c, s]] w fun e w' => AnsM (needR r c xs) w e w' := by
  have L0 := (Law.start w).box (.int .i64 r) (.int .i64 c) s 28
  have hO0 := hO.kept L0.below
  obtain ⟨a, cap, rfl, hr⟩ := hO.reads
  have hr0 := L0.reads hr
  clear hO
  cases hg : goodB r c xs
  · rw [show needR r c xs = ⟨[], false⟩ by simp [needR, neeR, hg]]
    go_enter Try.func54, Try.ntmps54
    go_wp2_with fail
    refine (at_boolB (boGood_any r c a cap xs _ hx hr0) hg).mono ?_
    rintro e w1 ⟨rfl, hb⟩
    have HB := Lib.hid (L0.kept hb).below
    clear L0 hb hg hr0 hO0
    go_wp2_with fail
    go_ret2
    exact ⟨_, [], rfl, OwnM.nil _ _, HB.out⟩
  · obtain ⟨g1, g2, _, _⟩ := good_facts hg
    obtain ⟨n, rfl⟩ := Int.eq_ofNat_of_zero_le (show 0 ≤ r by omega)
    obtain ⟨m, rfl⟩ := Int.eq_ofNat_of_zero_le (show 0 ≤ c by omega)
    rw [show needR n m xs = ⟨(cellsL xs n m).filter (nuP true (LG n m (bt xs))), true⟩ by simp [needR, neeR, hg]]
    have HC := Lib.hid (at_boolB (boGood_any n m a cap xs _ hx hr0) hg)
    have HT := Lib.hid (fun W h => lcTimes_any true n m xs W hx hg lo (.slice a xs.length cap) h)
    clear hg hr0
    generalize (cellsL xs n m).filter (nuP true (LG n m (bt xs))) = FL at *
    go_enter Try.func54, Try.ntmps54
    go_wp2_with fail
    refine HC.out.mono ?_
    rintro e w1 ⟨rfl, hb⟩
    have L1 := L0.kept hb
    have hO1 := hO0.kept hb
    have ⟨_, k0, k1, k2, _⟩ := L1.ownBox
    clear L0 hb HC hO0
    go_wp2_with fail
    refine (HT.out _ hO1).mono ?_
    rintro e w2 ⟨v, vs, rfl, hM, hb⟩
    have HB := Lib.hid (L1.kept hb).below
    have HM := Lib.hid (L1.addM hb hM).ownMLo
    clear L1 hb hO1 hM k0 k1 k2
    go_wp2_with fail
    go_ret2
    exact ⟨_, vs, rfl, HM.out, HB.out⟩

set_option maxHeartbeats 1600000 in
theorem specUsel_any (r c : Int) (xs : List Int) (w : World) (hx : xs.length ≤ 1048576) (lo : Nat) (s : Value) (hO : Own w lo s xs) :
    Calls Try.prog 56 #[.agg #[.int .i64 r, .int .i64 c, s]] w fun e w' => AnsM (uselR r c xs) w e w' := by
  have L0 := (Law.start w).box (.int .i64 r) (.int .i64 c) s 28
  have hO0 := hO.kept L0.below
  obtain ⟨a, cap, rfl, hr⟩ := hO.reads
  have hr0 := L0.reads hr
  clear hO
  cases hg : goodB r c xs
  · rw [show uselR r c xs = ⟨[], false⟩ by simp [uselR, neeR, hg]]
    go_enter Try.func56, Try.ntmps56
    go_wp2_with fail
    refine (at_boolB (boGood_any r c a cap xs _ hx hr0) hg).mono ?_
    rintro e w1 ⟨rfl, hb⟩
    have HB := Lib.hid (L0.kept hb).below
    clear L0 hb hg hr0 hO0
    go_wp2_with fail
    go_ret2
    exact ⟨_, [], rfl, OwnM.nil _ _, HB.out⟩
  · obtain ⟨g1, g2, _, _⟩ := good_facts hg
    obtain ⟨n, rfl⟩ := Int.eq_ofNat_of_zero_le (show 0 ≤ r by omega)
    obtain ⟨m, rfl⟩ := Int.eq_ofNat_of_zero_le (show 0 ≤ c by omega)
    rw [show uselR n m xs = ⟨(cellsL xs n m).filter (nuP false (LG n m (bt xs))), true⟩ by simp [uselR, neeR, hg]]
    have HC := Lib.hid (at_boolB (boGood_any n m a cap xs _ hx hr0) hg)
    have HT := Lib.hid (fun W h => lcTimes_any false n m xs W hx hg lo (.slice a xs.length cap) h)
    clear hg hr0
    generalize (cellsL xs n m).filter (nuP false (LG n m (bt xs))) = FL at *
    go_enter Try.func56, Try.ntmps56
    go_wp2_with fail
    refine HC.out.mono ?_
    rintro e w1 ⟨rfl, hb⟩
    have L1 := L0.kept hb
    have hO1 := hO0.kept hb
    have ⟨_, k0, k1, k2, _⟩ := L1.ownBox
    clear L0 hb HC hO0
    go_wp2_with fail
    refine (HT.out _ hO1).mono ?_
    rintro e w2 ⟨v, vs, rfl, hM, hb⟩
    have HB := Lib.hid (L1.kept hb).below
    have HM := Lib.hid (L1.addM hb hM).ownMLo
    clear L1 hb hO1 hM k0 k1 k2
    go_wp2_with fail
    go_ret2
    exact ⟨_, vs, rfl, HM.out, HB.out⟩

set_option maxRecDepth 100000 in
set_option maxHeartbeats 3200000 in
theorem implNeed_any (r c : Int) (xs : List Int) (w : World) (hx : xs.length ≤ 1048576) (lo : Nat) (s : Value) (hO : Own w lo s xs) :
    Calls Try.prog 55 #[.agg #[.int .i64 r, .int .i64 c, s]] w fun e w' => AnsM (needR r c xs) w e w' := by
  have L0 := (Law.start w).box (.int .i64 r) (.int .i64 c) s 28
  obtain ⟨a, cap, rfl, hr⟩ := hO.reads
  have hr0 := L0.reads hr
  clear hO
  cases hg : goodB r c xs
  · rw [show needR r c xs = ⟨[], false⟩ by simp [needR, neeR, hg]]
    go_enter Try.func55, Try.ntmps55
    go_wp2_with fail
    refine (gridOf_no r c a cap xs _ hx hr0 hg).mono ?_
    rintro e w1 ⟨rfl, hb⟩
    have HB := Lib.hid ((L0.kept hb).kept (below_new (.cells #[.int .i64 0, .int .i64 0, .int .i64 0, .int .i64 0, .int .i64 0, .int .i64 0, .int .i64 0, .int .i64 0] 68))).below
    clear L0 hb hg hr0
    go_wp2_with fail
    go_ret2
    exact ⟨_, [], rfl, OwnM.nil _ _, HB.out⟩
  · have hgc := good_cell hg
    obtain ⟨⟨g1l, g1h⟩, ⟨g2l, g2h⟩, _, _⟩ := good_facts hg
    obtain ⟨n, rfl⟩ := Int.eq_ofNat_of_zero_le (show 0 ≤ r by omega)
    obtain ⟨m, rfl⟩ := Int.eq_ofNat_of_zero_le (show 0 ≤ c by omega)
    have hn6 : n ≤ 6 := by omega
    have hm6 : m ≤ 6 := by omega
    rw [show needR n m xs = ⟨(cellsL xs n m).filter (nuP true (LG n m (bt xs))), true⟩ by simp [needR, neeR, hg]]
    obtain ⟨M, hM, hc⟩ := gridOf_good n m a cap xs _ hx hr0 hg
    have HC := Lib.hid hc; clear hc
    have hMb : ∀ k, k < 6 → 0 ≤ M k ∧ M k < 64 := fun k _ => by rw [hM]; exact hgc k
    have hBM : bM M = bt xs := by funext a b; simp only [bM, bt, hM]
    have hcb := fun W => cbl_any n m M W hn6 hm6 hMb
    rw [hBM] at hcb
    have hcl := fun W => cellList_any n m ((List.range n).map (ndF M (LG n m (bt xs)) n)) (ndF M (LG n m (bt xs)) n) W hn6 hm6 (fun k hk => by simp [List.getD, hk]) (fun k hk => nd_lt M _ n k (hMb k hk))
    rw [nd_cells n m M xs hn6 hm6 hM] at hcl
    clear hBM hM hMb hgc hg hr0
    generalize (cellsL xs n m).filter (nuP true (LG n m (bt xs))) = FL at *
    generalize ndF M (LG n m (bt xs)) n = N1 at *
    generalize usF M (LG n m (bt xs)) n = N2 at *
    have HCB := Lib.hid hcb
    have HCL := Lib.hid hcl
    clear hcb hcl
    go_enter Try.func55, Try.ntmps55
    go_wp2_with fail
    refine HC.out.mono ?_
    rintro e w1 ⟨rfl, hb⟩
    have L1 := (L0.kept hb).has (gl n m M) 68
    rw [show w1.alloc (.cells (gl n m M).toArray 68) = w1.alloc (Obj.cells #[.int .i64 n, .int .i64 m, .int .i64 (M 0), .int .i64 (M 1), .int .i64 (M 2), .int .i64 (M 3), .int .i64 (M 4), .int .i64 (M 5)] 68) from rfl] at L1
    have HL := Lib.hid L1
    clear L0 hb HC L1
    go_upto_region 2 with fail
    generalize w1.alloc (Obj.cells #[.int .i64 n, .int .i64 m, .int .i64 (M 0), .int .i64 (M 1), .int .i64 (M 2), .int .i64 (M 3), .int .i64 (M 4), .int .i64 (M 5)] 68) = w5 at *
    have ⟨e0, e1, e2, e3, e4, e5, e6, e7, _⟩ := HL.out.ownHas.eight
    go_wp2_with fail
    refine (HCB.out _).mono ?_
    rintro e w2 ⟨rfl, hb⟩
    have L2 := (HL.out.kept hb).grids2 (A := gl n m N1) (B := gl n m N2) (t := 68) rfl
    rw [show (gl n m N1).toArray = #[.int .i64 n, .int .i64 m, .int .i64 (N1 0), .int .i64 (N1 1), .int .i64 (N1 2), .int .i64 (N1 3), .int .i64 (N1 4), .int .i64 (N1 5)] from rfl, show (gl n m N2).toArray = #[.int .i64 n, .int .i64 m, .int .i64 (N2 0), .int .i64 (N2 1), .int .i64 (N2 2), .int .i64 (N2 3), .int .i64 (N2 4), .int .i64 (N2 5)] from rfl] at L2
    have HL5 := Lib.hid L2
    clear HL hb L2 HCB e0 e1 e2 e3 e4 e5 e6 e7
    go_upto_region 5 with fail
    generalize (w2.alloc (Obj.cells #[.int .i64 n, .int .i64 m, .int .i64 (N1 0), .int .i64 (N1 1), .int .i64 (N1 2), .int .i64 (N1 3), .int .i64 (N1 4), .int .i64 (N1 5)] 68)).alloc (Obj.cells #[.int .i64 n, .int .i64 m, .int .i64 (N2 0), .int .i64 (N2 1), .int .i64 (N2 2), .int .i64 (N2 3), .int .i64 (N2 4), .int .i64 (N2 5)] 68) = w6 at *
    have ⟨e0, e1, e2, e3, e4, e5, e6, e7, _⟩ := HL5.out.tl.ownHas.eight
    go_wp2_with fail
    refine (HCL.out _).mono ?_
    rintro e w7 ⟨v, vs, rfl, hM, hb⟩
    have HB := Lib.hid (HL5.out.kept hb).below
    have HM := Lib.hid (HL5.out.addM hb hM).ownMLo
    clear HL5 hb hM HCL e0 e1 e2 e3 e4 e5 e6 e7
    go_wp2_with fail
    go_ret2
    exact ⟨_, vs, rfl, HM.out, HB.out⟩

set_option maxRecDepth 100000 in
set_option maxHeartbeats 3200000 in
theorem implUsel_any (r c : Int) (xs : List Int) (w : World) (hx : xs.length ≤ 1048576) (lo : Nat) (s : Value) (hO : Own w lo s xs) :
    Calls Try.prog 57 #[.agg #[.int .i64 r, .int .i64 c, s]] w fun e w' => AnsM (uselR r c xs) w e w' := by
  have L0 := (Law.start w).box (.int .i64 r) (.int .i64 c) s 28
  obtain ⟨a, cap, rfl, hr⟩ := hO.reads
  have hr0 := L0.reads hr
  clear hO
  cases hg : goodB r c xs
  · rw [show uselR r c xs = ⟨[], false⟩ by simp [uselR, neeR, hg]]
    go_enter Try.func57, Try.ntmps57
    go_wp2_with fail
    refine (gridOf_no r c a cap xs _ hx hr0 hg).mono ?_
    rintro e w1 ⟨rfl, hb⟩
    have HB := Lib.hid ((L0.kept hb).kept (below_new (.cells #[.int .i64 0, .int .i64 0, .int .i64 0, .int .i64 0, .int .i64 0, .int .i64 0, .int .i64 0, .int .i64 0] 68))).below
    clear L0 hb hg hr0
    go_wp2_with fail
    go_ret2
    exact ⟨_, [], rfl, OwnM.nil _ _, HB.out⟩
  · have hgc := good_cell hg
    obtain ⟨⟨g1l, g1h⟩, ⟨g2l, g2h⟩, _, _⟩ := good_facts hg
    obtain ⟨n, rfl⟩ := Int.eq_ofNat_of_zero_le (show 0 ≤ r by omega)
    obtain ⟨m, rfl⟩ := Int.eq_ofNat_of_zero_le (show 0 ≤ c by omega)
    have hn6 : n ≤ 6 := by omega
    have hm6 : m ≤ 6 := by omega
    rw [show uselR n m xs = ⟨(cellsL xs n m).filter (nuP false (LG n m (bt xs))), true⟩ by simp [uselR, neeR, hg]]
    obtain ⟨M, hM, hc⟩ := gridOf_good n m a cap xs _ hx hr0 hg
    have HC := Lib.hid hc; clear hc
    have hMb : ∀ k, k < 6 → 0 ≤ M k ∧ M k < 64 := fun k _ => by rw [hM]; exact hgc k
    have hBM : bM M = bt xs := by funext a b; simp only [bM, bt, hM]
    have hcb := fun W => cbl_any n m M W hn6 hm6 hMb
    rw [hBM] at hcb
    have hcl := fun W => cellList_any n m ((List.range n).map (usF M (LG n m (bt xs)) n)) (usF M (LG n m (bt xs)) n) W hn6 hm6 (fun k hk => by simp [List.getD, hk]) (fun k hk => us_lt M _ n k (hMb k hk))
    rw [us_cells n m M xs hn6 hm6 hM] at hcl
    clear hBM hM hMb hgc hg hr0
    generalize (cellsL xs n m).filter (nuP false (LG n m (bt xs))) = FL at *
    generalize ndF M (LG n m (bt xs)) n = N1 at *
    generalize usF M (LG n m (bt xs)) n = N2 at *
    have HCB := Lib.hid hcb
    have HCL := Lib.hid hcl
    clear hcb hcl
    go_enter Try.func57, Try.ntmps57
    go_wp2_with fail
    refine HC.out.mono ?_
    rintro e w1 ⟨rfl, hb⟩
    have L1 := (L0.kept hb).has (gl n m M) 68
    rw [show w1.alloc (.cells (gl n m M).toArray 68) = w1.alloc (Obj.cells #[.int .i64 n, .int .i64 m, .int .i64 (M 0), .int .i64 (M 1), .int .i64 (M 2), .int .i64 (M 3), .int .i64 (M 4), .int .i64 (M 5)] 68) from rfl] at L1
    have HL := Lib.hid L1
    clear L0 hb HC L1
    go_upto_region 2 with fail
    generalize w1.alloc (Obj.cells #[.int .i64 n, .int .i64 m, .int .i64 (M 0), .int .i64 (M 1), .int .i64 (M 2), .int .i64 (M 3), .int .i64 (M 4), .int .i64 (M 5)] 68) = w5 at *
    have ⟨e0, e1, e2, e3, e4, e5, e6, e7, _⟩ := HL.out.ownHas.eight
    go_wp2_with fail
    refine (HCB.out _).mono ?_
    rintro e w2 ⟨rfl, hb⟩
    have L2 := (HL.out.kept hb).grids2 (A := gl n m N1) (B := gl n m N2) (t := 68) rfl
    rw [show (gl n m N1).toArray = #[.int .i64 n, .int .i64 m, .int .i64 (N1 0), .int .i64 (N1 1), .int .i64 (N1 2), .int .i64 (N1 3), .int .i64 (N1 4), .int .i64 (N1 5)] from rfl, show (gl n m N2).toArray = #[.int .i64 n, .int .i64 m, .int .i64 (N2 0), .int .i64 (N2 1), .int .i64 (N2 2), .int .i64 (N2 3), .int .i64 (N2 4), .int .i64 (N2 5)] from rfl] at L2
    have HL5 := Lib.hid L2
    clear HL hb L2 HCB e0 e1 e2 e3 e4 e5 e6 e7
    go_upto_region 5 with fail
    generalize (w2.alloc (Obj.cells #[.int .i64 n, .int .i64 m, .int .i64 (N1 0), .int .i64 (N1 1), .int .i64 (N1 2), .int .i64 (N1 3), .int .i64 (N1 4), .int .i64 (N1 5)] 68)).alloc (Obj.cells #[.int .i64 n, .int .i64 m, .int .i64 (N2 0), .int .i64 (N2 1), .int .i64 (N2 2), .int .i64 (N2 3), .int .i64 (N2 4), .int .i64 (N2 5)] 68) = w6 at *
    have ⟨e0, e1, e2, e3, e4, e5, e6, e7, _⟩ := HL5.out.ownHas.eight
    go_wp2_with fail
    refine (HCL.out _).mono ?_
    rintro e w7 ⟨v, vs, rfl, hM, hb⟩
    have HB := Lib.hid (HL5.out.kept hb).below
    have HM := Lib.hid (HL5.out.addM hb hM).ownMLo
    clear HL5 hb hM HCL e0 e1 e2 e3 e4 e5 e6 e7
    go_wp2_with fail
    go_ret2
    exact ⟨_, vs, rfl, HM.out, HB.out⟩

end Go.Proofs.Ytdimbnkgomfojab
