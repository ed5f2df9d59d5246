/- Queens counted and listed, in both texts. No condition but the sizes. -/
import Derived.Test.YtmhlpaenfknofaaUh
import Derived.Test.YtmhlpaenfknofaaUw
namespace Go.Proofs.Ytmhlpaenfknofaa
open Go.RowKit Go.WideShapes

/-- On a torus. -/
def tor (n : Nat) (p : List Int) : Bool := decide (meets (attP (tQ n) p) p.length p.length = [])
theorem tor_snoc (n : Nat) (q : List Int) (c : Int) : tor n (q ++ [c]) = (tor n q && (List.range q.length).all (fun r => !tQ n ((q.length : Int) - r) (c - q.getD r 0))) := by
  rw [Bool.eq_iff_iff, Bool.and_eq_true]
  unfold tor
  rw [decide_eq_true_eq, decide_eq_true_eq, meets_nil, meets_nil, List.all_eq_true]
  have hlow : ∀ r, r < q.length → (q ++ [c]).getD r 0 = q.getD r 0 := fun r hr => by simp only [List.getD, List.getElem?_append_left hr]
  have hlast : (q ++ [c]).getD q.length 0 = c := by simp [List.getD]
  constructor
  · intro h
    constructor
    · intro r s hrs hs
      have := h r s hrs (by simp; omega)
      unfold attP at this ⊢
      rwa [hlow r (by omega), hlow s hs] at this
    · intro r hr
      have := h r q.length (List.mem_range.1 hr) (by simp)
      unfold attP at this
      rw [hlow r (List.mem_range.1 hr), hlast] at this
      rw [this]; rfl
  · rintro ⟨h1, h2⟩ r s hrs hs
    rw [List.length_append, List.length_singleton] at hs
    unfold attP
    by_cases e : s = q.length
    · subst e
      rw [hlow r hrs, hlast]
      have := h2 r (List.mem_range.2 hrs)
      simpa using this
    · have := h1 r s hrs (by omega)
      unfold attP at this
      rw [hlow r (by omega), hlow s (by omega)]
      exact this
theorem tQ_of_bQ (n : Int) (d r : Int) (h : bQ d r = true) : tQ n d r = true := by
  unfold bQ at h
  unfold tQ
  rw [Bool.or_eq_true, beq_iff_eq, beq_iff_eq] at h
  rw [Bool.or_eq_true, beq_iff_eq, beq_iff_eq]
  rcases h with rfl | rfl
  · right; rw [Int.sub_self]; exact Int.zero_tmod n
  · left; rw [Int.add_left_neg]; exact Int.zero_tmod n
theorem okW_tor (n : Nat) (q : List Int) (c : Int) : okW (tQ n) q c = (okW bQ q c && (List.range q.length).all (fun r => !tQ n ((q.length : Int) - r) (c - q.getD r 0))) := by
  rw [Bool.eq_iff_iff, Bool.and_eq_true]
  unfold okW
  rw [List.all_eq_true, List.all_eq_true, List.all_eq_true]
  constructor
  · intro h
    constructor
    · intro r hr
      have := h r hr
      rw [Bool.not_eq_true', Bool.or_eq_false_iff] at this
      rw [Bool.not_eq_true', Bool.or_eq_false_iff]
      refine ⟨this.1, ?_⟩
      cases hb : bQ ((q.length : Int) - r) (c - q.getD r 0)
      · rfl
      · rw [tQ_of_bQ n _ _ hb] at this
        exact this.2
    · intro r hr
      have := h r hr
      rw [Bool.not_eq_true', Bool.or_eq_false_iff] at this
      rw [this.2]; rfl
  · rintro ⟨h1, h2⟩ r hr
    have a := h1 r hr
    have b := h2 r hr
    rw [Bool.not_eq_true', Bool.or_eq_false_iff] at a
    rw [Bool.not_eq_true'] at b
    rw [Bool.not_eq_true', Bool.or_eq_false_iff]
    exact ⟨a.1, b⟩
theorem fmap_filter_if {α β : Type} (l : List α) (p : α → Bool) (f : α → List β) : l.flatMap (fun a => if p a then f a else []) = (l.filter p).flatMap f := by
  induction l with
  | nil => rfl
  | cons x t ih =>
    rw [List.flatMap_cons, ih, List.filter_cons]
    cases p x <;> simp
theorem quA_tor (n k : Nat) : ∀ q, (quA bQ n k q).filter (tor n) = if tor n q then quA (tQ n) n k q else [] := by
  induction k with
  | zero =>
    intro q
    rw [quA, quA, List.filter_cons]
    cases tor n q <;> simp
  | succ k ih =>
    intro q
    rw [quA, quA, List.filter_flatMap]
    have e : (fun (c : Nat) => (quA bQ n k (q ++ [(c : Int)])).filter (tor n)) = fun (c : Nat) => if tor n (q ++ [(c : Int)]) then quA (tQ n) n k (q ++ [(c : Int)]) else [] := by
      funext c; exact ih _
    rw [e, fmap_filter_if, List.filter_filter]
    cases ht : tor n q
    · rw [if_neg (by decide)]
      have : (List.range n).filter (fun (c : Nat) => tor n (q ++ [(c : Int)]) && okW bQ q c) = [] := by
        rw [List.filter_eq_nil_iff]
        intro c _
        rw [tor_snoc, ht]
        simp
      rw [this]; rfl
    · rw [if_pos rfl]
      congr 1
      refine List.filter_congr (fun c _ => ?_)
      rw [tor_snoc, ht, okW_tor, Bool.true_and, Bool.and_comm]
theorem tor_nil (n : Nat) : tor n [] = true := rfl
theorem quA_tor_len (n : Nat) : ((quA bQ n n []).filter (tor n)).length = (quA (tQ n) n n []).length := by
  rw [quA_tor, tor_nil, if_pos rfl]
theorem quA_good (D : Int → Int → Bool) (n k : Nat) (q : List Int) (h1 : ∀ x ∈ q, 0 ≤ x ∧ x < (n : Int)) (h2 : q.Nodup) : AllG n (q.length + k) (quA D n k q) := by
  rw [← itr_one]
  exact itr_good (one_good h1 h2) k
theorem all_gd (D : Int → Int → Bool) (n : Nat) (h1 : 1 ≤ n) (h8 : n ≤ 8) : ∀ q ∈ quA D n n [], q.length = n ∧ gdB q = true := by
  intro q hq
  obtain ⟨e, g1, g2⟩ := quA_good D n n [] (by simp) (by simp) q hq
  simp only [List.length_nil, Nat.zero_add] at e
  refine ⟨e, ?_⟩
  unfold gdB
  rw [Bool.and_eq_true, decide_eq_true_eq]
  refine ⟨by omega, inN_of (fun x hx => by have := g1 x hx; omega) g2⟩
theorem goL_nil (D : Int → Int → Bool) (n : Nat) : goL D n [] = quA D n n [] := by
  unfold goL
  rw [if_pos (show meets (attP D []) ([] : List Int).length ([] : List Int).length = [] from rfl)]; rfl
theorem cF_nil : cF [] = fun _ => 0 := by funext i; simp [cF]

def cntQR (n : Int) : R1 := if inB 1 n 8 then ⟨(quA bQ n.toNat n.toNat []).length, true⟩ else ⟨0, false⟩
def torQR (n : Int) : R1 := if inB 1 n 8 then ⟨(quA (tQ n.toNat) n.toNat n.toNat []).length, true⟩ else ⟨0, false⟩
def goiR (n : Int) (xs : List Int) : R1 := if linB n xs then ⟨(goL bQ n.toNat xs).length, true⟩ else ⟨0, false⟩
def allQR (n : Int) : MR := if inB 1 n 8 then ⟨quA bQ n.toNat n.toNat [], true⟩ else ⟨[], false⟩
def fstQR (n : Int) : LR := if inB 1 n 8 && decide (quA bQ n.toNat n.toNat [] ≠ []) then ⟨(quA bQ n.toNat n.toNat []).getD 0 [], true⟩ else ⟨[], false⟩
theorem all_few (D : Int → Int → Bool) (n : Nat) (h : n ≤ 8) : (quA D n n []).length ≤ 40320 := quA_big D n n [] h h (by simp) (by simp)
theorem inB_nat {n : Int} (h : inB 1 n 8 = true) : ∃ m : Nat, n = m ∧ 1 ≤ m ∧ m ≤ 8 := by
  rw [inB_iff] at h
  exact ⟨n.toNat, by omega, by omega, by omega⟩
theorem allQR_len (n : Int) : (allQR n).zz.length ≤ 1048576 ∧ total (allQR n).zz ≤ 1048576 := by
  unfold allQR
  cases h : inB 1 n 8
  · simp [total]
  · obtain ⟨m, rfl, m1, m8⟩ := inB_nat h
    have h1 := all_few bQ m m8
    rw [if_pos rfl, show ((m : Nat) : Int).toNat = m from rfl, total_mul _ m (fun r hr => (all_gd bQ m m1 m8 r hr).1)]
    have : (quA bQ m m []).length * m ≤ 40320 * 8 := Nat.mul_le_mul h1 m8
    simp only
    omega
theorem fstQR_len (n : Int) : (fstQR n).ys.length ≤ 1048576 := by
  unfold fstQR
  split
  · rename_i h
    rw [Bool.and_eq_true] at h
    obtain ⟨m, rfl, m1, m8⟩ := inB_nat h.1
    rw [show ((m : Nat) : Int).toNat = m from rfl]
    have hne : quA bQ m m [] ≠ [] := by simpa using h.2
    have hp := List.length_pos_iff.2 hne
    have := (all_gd bQ m m1 m8 (quA bQ m m [])[0] (List.getElem_mem hp)).1
    simp only [List.getD, List.getElem?_eq_getElem hp, Option.getD_some]
    omega
  · simp

set_option maxRecDepth 100000 in
set_option maxHeartbeats 3200000 in
theorem allQueens_any (n : Nat) (w : World) (h8 : n ≤ 8) :
    Calls Try.prog 56 #[.int .i64 n] w fun e w' => ∃ v, e = .returned v ∧ OwnQ w' w.heap.size v (quA bQ n n []) ∧ Below w.heap.size w w' := by
  have hG := fun W => goingOn_any n [] 50 #[] _ bQ bishop_moveV W trivial h8 (Nat.zero_le _) (by simp) (by simp)
  rw [goL_nil, cF_nil] at hG
  have HG := Lib.hid hG
  clear hG
  generalize quA bQ n n [] = L at *
  go_enter Try.func56, Try.ntmps56
  go_wp2_with fail
  refine (HG.out _).mono ?_
  rintro e w2 ⟨v, rfl, hO, hb⟩
  have HO := Lib.hid hO
  have HB := Lib.hid hb
  clear hO hb
  go_wp2_with fail
  go_ret
  exact ⟨_, rfl, HO.out, HB.out⟩

set_option maxRecDepth 100000 in
set_option maxHeartbeats 3200000 in
theorem implCnt_any (n : Int) (w : World) : Calls Try.prog 28 #[.int .i64 n] w fun e w' => AnsIO (cntQR n) w e w' := by
  cases hg : inB 1 n 8
  · rw [show cntQR n = ⟨0, false⟩ by simp [cntQR, hg]]
    have HQ := Lib.hid (at_boolV (isQueenSide_any n w) hg)
    clear hg
    go_enter Try.func28, Try.ntmps28
    go_wp2_with (go_at_call 55; ((with_reducible refine HQ.out.mono ?_); rintro e w' ⟨rfl, rfl⟩))
    go_ret2
    exact ⟨rfl, Below.refl _ _⟩
  · have HQ := Lib.hid (fun W => at_boolV (isQueenSide_any n W) hg)
    obtain ⟨m, rfl, m1, m8⟩ := inB_nat hg
    rw [show cntQR m = ⟨(quA bQ m m []).length, true⟩ by simp [cntQR, hg]]
    have HA := Lib.hid (fun W => allQueens_any m W m8)
    generalize quA bQ m m [] = L at *
    clear hg
    go_enter Try.func28, Try.ntmps28
    go_wp2_with (go_at_call 55; ((with_reducible refine (HQ.out _).mono ?_); rintro e w' ⟨rfl, rfl⟩))
    refine (HA.out _).mono ?_
    rintro e w2 ⟨v, rfl, hO, hb⟩
    obtain ⟨av, pv, rfl⟩ := hO.form
    have HB := Lib.hid hb
    clear hO hb
    go_wp2_with fail
    go_ret2
    exact ⟨rfl, HB.out⟩
set_option maxRecDepth 100000 in
set_option maxHeartbeats 3200000 in
theorem specCnt_any (n : Int) (w : World) : Calls Try.prog 27 #[.int .i64 n] w fun e w' => AnsIO (cntQR n) w e w' := by
  cases hg : inB 1 n 8
  · rw [show cntQR n = ⟨0, false⟩ by simp [cntQR, hg]]
    have HQ := Lib.hid (at_boolV (quSide_any n w) hg)
    clear hg
    go_enter Try.func27, Try.ntmps27
    go_wp2_with (go_at_call 53; ((with_reducible refine HQ.out.mono ?_); rintro e w' ⟨rfl, rfl⟩))
    go_ret2
    exact ⟨rfl, Below.refl _ _⟩
  · have HQ := Lib.hid (fun W => at_boolV (quSide_any n W) hg)
    obtain ⟨m, rfl, m1, m8⟩ := inB_nat hg
    rw [show cntQR m = ⟨(quA bQ m m []).length, true⟩ by simp [cntQR, hg]]
    have HA := Lib.hid (fun W => quAll_any m m8 m [] (by simp) (by simp) (by simp) W 0 _ (Own.nil _ _))
    generalize quA bQ m m [] = L at *
    clear hg
    go_enter Try.func27, Try.ntmps27
    go_wp2_with (go_at_call 53; ((with_reducible refine (HQ.out _).mono ?_); rintro e w' ⟨rfl, rfl⟩))
    refine (HA.out _).mono ?_
    rintro e w2 ⟨v, vs, rfl, hO, _, hb⟩
    obtain ⟨av, pv, rfl⟩ := ownM_shapeQ hO
    have HB := Lib.hid hb
    clear hO hb
    go_wp2_with fail
    go_ret2
    exact ⟨rfl, HB.out⟩
set_option maxRecDepth 100000 in
set_option maxHeartbeats 3200000 in
theorem specAllQ_any (n : Int) (w : World) : Calls Try.prog 29 #[.int .i64 n] w fun e w' => AnsM (allQR n) w e w' := by
  cases hg : inB 1 n 8
  · rw [show allQR n = ⟨[], false⟩ by simp [allQR, hg]]
    have HQ := Lib.hid (at_boolV (quSide_any n w) hg)
    clear hg
    go_enter Try.func29, Try.ntmps29
    go_wp2_with (go_at_call 53; ((with_reducible refine HQ.out.mono ?_); rintro e w' ⟨rfl, rfl⟩))
    go_ret2
    exact ⟨_, _, rfl, OwnM.nil _ _, Below.refl _ _⟩
  · have HQ := Lib.hid (fun W => at_boolV (quSide_any n W) hg)
    obtain ⟨m, rfl, m1, m8⟩ := inB_nat hg
    rw [show allQR m = ⟨quA bQ m m [], true⟩ by simp [allQR, hg]]
    have HA := Lib.hid (fun W => quAll_any m m8 m [] (by simp) (by simp) (by simp) W 0 _ (Own.nil _ _))
    generalize quA bQ m m [] = L at *
    clear hg
    go_enter Try.func29, Try.ntmps29
    go_wp2_with (go_at_call 53; ((with_reducible refine (HQ.out _).mono ?_); rintro e w' ⟨rfl, rfl⟩))
    refine (HA.out _).mono ?_
    rintro e w2 ⟨v, vs, rfl, hO, _, hb⟩
    have HO := Lib.hid hO
    have HB := Lib.hid hb
    clear hO hb
    go_wp2_with fail
    go_ret2
    exact ⟨_, vs, rfl, HO.out, HB.out⟩
set_option maxRecDepth 100000 in
set_option maxHeartbeats 3200000 in
theorem implGoi_any (n : Int) (xs : List Int) (w : World) (hx : xs.length ≤ 1048576) (lo : Nat) (s : Value) (hO : Own w lo s xs) :
    Calls Try.prog 35 #[.int .i64 n, s] w fun e w' => AnsIO (goiR n xs) w e w' := by
  obtain ⟨a, cap, rfl, hr, hcap⟩ := own_form hO
  have HC := Lib.hid (lineupOf_any n a cap xs w hx hcap hr)
  clear hO hcap hr
  cases hg : linB n xs
  · rw [show goiR n xs = ⟨0, false⟩ by simp [goiR, hg]]
    rw [linV_no hg] at HC
    clear hg
    generalize xs.length = m at *
    go_enter Try.func35, Try.ntmps35
    go_wp2_with fail
    refine HC.out.mono ?_
    rintro e w2 ⟨rfl, hb⟩
    have HL := Lib.hid (((Law.start w).kept hb).kept (below_new (.cells #[.int .i64 0, .int .i64 0, .int .i64 0, .int .i64 0, .int .i64 0, .int .i64 0, .int .i64 0, .int .i64 0, .int .i64 0] 46)))
    clear hb HC
    go_upto_region 2 with fail
    generalize w2.alloc _ = w3 at *
    go_wp2_with fail
    go_ret2
    exact ⟨rfl, HL.out.below⟩
  · rw [linV_yes hg] at HC
    obtain ⟨n1, n8, hl, hb1, hb2⟩ := lin_facts hg
    obtain ⟨m, rfl⟩ := Int.eq_ofNat_of_zero_le (show 0 ≤ n by omega)
    rw [show goiR m xs = ⟨(goL bQ m xs).length, true⟩ by simp [goiR, hg]]
    have HG := Lib.hid (fun W => goingOn_any m xs 50 #[] _ bQ bishop_moveV W trivial (by omega) (by omega) hb1 hb2)
    generalize goL bQ m xs = L at *
    clear hg hb1 hb2 hl n1 n8
    generalize cF xs = F at *
    generalize xs.length = l at *
    go_enter Try.func35, Try.ntmps35
    go_wp2_with fail
    refine HC.out.mono ?_
    rintro e w2 ⟨rfl, hb⟩
    have HL := Lib.hid (((Law.start w).kept hb).has (ql l F) 46)
    rw [show w2.alloc (.cells (ql l F).toArray 46) = w2.alloc (.cells #[.int .i64 l, .int .i64 (F 0), .int .i64 (F 1), .int .i64 (F 2), .int .i64 (F 3), .int .i64 (F 4), .int .i64 (F 5), .int .i64 (F 6), .int .i64 (F 7)] 46) from rfl] at HL
    clear hb HC
    go_upto_region 2 with fail
    generalize w2.alloc _ = w3 at *
    obtain ⟨f0, f1, f2, f3, f4, f5, f6, f7, f8, _⟩ := ql_held HL.out.ownHas
    go_wp2_with fail
    refine (HG.out _).mono ?_
    rintro e w5 ⟨v, rfl, hO, hb⟩
    obtain ⟨av, pv, rfl⟩ := hO.form
    have HB := Lib.hid (below_on HL.out.below hb)
    clear hO hb f0 f1 f2 f3 f4 f5 f6 f7 f8 HL HG
    go_wp2_with fail
    go_ret2
    exact ⟨rfl, HB.out⟩
set_option maxRecDepth 100000 in
set_option maxHeartbeats 3200000 in
theorem implTorC_any (n : Int) (w : World) : Calls Try.prog 39 #[.int .i64 n] w fun e w' => AnsIO (torQR n) w e w' := by
  cases hg : inB 1 n 8
  · rw [show torQR n = ⟨0, false⟩ by simp [torQR, hg]]
    have HQ := Lib.hid (at_boolV (isQueenSide_any n w) hg)
    clear hg
    go_enter Try.func39, Try.ntmps39
    go_wp2_with (go_at_call 55; ((with_reducible refine HQ.out.mono ?_); rintro e w' ⟨rfl, rfl⟩))
    go_ret2
    exact ⟨rfl, Below.refl _ _⟩
  · have HQ := Lib.hid (fun W => at_boolV (isQueenSide_any n W) hg)
    obtain ⟨m, rfl, m1, m8⟩ := inB_nat hg
    rw [show torQR m = ⟨(quA (tQ m) m m []).length, true⟩ by simp [torQR, hg]]
    have hG := fun (g : Nat) (W : World) (h : W.cell? ⟨g, 0, none⟩ = some (.int .i64 m)) => goingOn_any m [] 72 #[.pointer (some ⟨g, 0, none⟩)] _ (tQ m) (torus_moveV m ⟨m1, m8⟩ g) W h m8 (Nat.zero_le _) (by simp) (by simp)
    rw [goL_nil, cF_nil] at hG
    have HG := Lib.hid hG
    have HT := Lib.hid (fun W => torusMove_any m W)
    generalize quA (tQ m) m m [] = L at *
    clear hg hG
    go_enter Try.func39, Try.ntmps39
    go_wp2_with (go_at_call 55; ((with_reducible refine (HQ.out _).mono ?_); rintro e w' ⟨rfl, rfl⟩))
    refine (HT.out _).mono ?_
    rintro e w2 ⟨rfl, hc, hb⟩
    have HB := Lib.hid hb
    have HC := Lib.hid hc
    clear hb hc
    go_wp2_with fail
    refine (HG.out _ _ HC.out).mono ?_
    rintro e w3 ⟨v, rfl, hO, hb⟩
    obtain ⟨av, pv, rfl⟩ := hO.form
    have HB2 := Lib.hid (below_on HB.out hb)
    clear hO hb
    go_wp2_with fail
    go_ret2
    exact ⟨rfl, HB2.out⟩

end Go.Proofs.Ytmhlpaenfknofaa
