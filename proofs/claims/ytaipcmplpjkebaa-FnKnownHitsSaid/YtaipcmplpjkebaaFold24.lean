import Derived.Test.YtaipcmplpjkebaaFold22
import Derived.Test.YtaipcmplpjkebaaFold23
import Derived.Deep.RegionHeld3

section
namespace Go.Proofs.Ytaipcmplpjkebaa
open Go.RowKit Go.WideShapes

theorem shK_eq (xs : List Int) (L N : Nat) (hL : L ≤ N) (h0 : ∀ j, L ≤ j → j < N → xs.getD j 0 = 0) (h1 : 0 < L → xs.getD (L - 1) 0 ≠ 0) : shK xs N = L := by
  induction N with
  | zero => rw [shK]; omega
  | succ N ih =>
    rw [shK]
    by_cases e : L = N + 1
    · subst e
      have h2 := h1 (by omega)
      rw [Nat.add_sub_cancel] at h2
      rw [if_neg h2]
    · rw [if_pos (h0 N (by omega) (by omega)), ih (by omega) (fun j a b => h0 j a (by omega))]
end Go.Proofs.Ytaipcmplpjkebaa
end

section
namespace Go.Proofs.Ytaipcmplpjkebaa
open Go.RowKit Go.WideShapes

def mostB (r c : Int) (xs : List Int) : R1 := if goodB r c xs then ⟨(shK (numL r.toNat c.toNat (bt xs)) (min r.toNat c.toNat + 1) : Int) - 1, true⟩ else ⟨0, false⟩
/-- As many rows as columns? -/
def sqB (r c : Int) (xs : List Int) : Bool := goodB r c xs && (r == c)
def permB (r c : Int) (xs : List Int) : R1 := if sqB r c xs then ⟨(numL r.toNat r.toNat (bt xs)).getD r.toNat 0, true⟩ else ⟨0, false⟩



theorem sq_facts {r c : Int} {xs : List Int} (h : sqB r c xs = true) : goodB r c xs = true ∧ r = c := by
  rw [sqB, Bool.and_eq_true, beq_iff_eq] at h
  exact h



end Go.Proofs.Ytaipcmplpjkebaa
end

section
namespace Go.Proofs.Ytaipcmplpjkebaa
open Go.RowKit Go.WideShapes

set_option maxRecDepth 100000 in
set_option maxHeartbeats 1600000 in
theorem hiGood_any (r c : Int) (xs : List Int) (w : World) (hx : xs.length ≤ 1048576) (a : Option Addr) (cap : Nat) (hr : Reads w a xs.length xs) :
    Calls Try.prog 94 #[.agg #[.int .i64 r, .int .i64 c, .slice a xs.length cap]] w fun e w' => e = .returned (.bool (sqB r c xs)) ∧ Below w.heap.size w w' := by
  have L0 := (Law.start w).box (.int .i64 r) (.int .i64 c) (.slice a xs.length cap) 27
  have hr0 := L0.reads hr
  cases hg : goodB r c xs
  · rw [show sqB r c xs = false by simp [sqB, hg]]
    go_enter Try.func94, Try.ntmps94
    go_wp2_with fail
    refine (at_boolB (boGood_any r c a cap xs _ hx hr0) hg).mono ?_
    rintro e w1 ⟨rfl, hb⟩
    have HB := Lib.hid (L0.kept hb).below
    clear L0 hb hg hr0
    go_wp2_with fail
    go_ret
    exact ⟨rfl, HB.out⟩
  · rw [show sqB r c xs = (r == c) by simp [sqB, hg]]
    go_enter Try.func94, Try.ntmps94
    go_wp2_with fail
    refine (at_boolB (boGood_any r c a cap xs _ hx hr0) hg).mono ?_
    rintro e w1 ⟨rfl, hb⟩
    have HB := Lib.hid (L0.kept hb).below
    have ⟨_, k0, k1, k2, _⟩ := (L0.kept hb).ownBox
    clear L0 hb hg hr0
    go_wp2_with fail
    go_ret
    exact ⟨rfl, HB.out⟩

set_option maxRecDepth 100000 in
set_option maxHeartbeats 3200000 in
theorem hiHits_any (n : Nat) (r c : Int) (xs Q : List Int) (w : World) (hx : xs.length ≤ 1048576) (hlen : xs.length = n) (hn : n ≤ 6) (hgc : ∀ k, 0 ≤ xs.getD k 0 ∧ xs.getD k 0 < 64) (hQ : ∀ j, j < n → 0 ≤ Q.getD j 0 ∧ Q.getD j 0 < 6)
    (lo : Nat) (s : Value) (hO : Own w lo s xs) (qa : Option Addr) (qp : Nat) (hr : Reads w qa n Q) :
    Calls Try.prog 120 #[.agg #[.int .i64 r, .int .i64 c, s], .slice qa n qp] w fun e w' => e = .returned (.int .i64 (hitN (bt xs) Q n : Nat)) ∧ Below w.heap.size w w' := by
  have L0 := (Law.start w).box (.int .i64 r) (.int .i64 c) s 27
  have HB := Lib.hid (fun (j l : Nat) (W : World) (hj : j < n) (hl : l < 6) (h : Own W lo s xs) => boHas_any r c xs j l W (by omega) hx hl (hgc j) lo s h)
  have HO := Lib.hid hO
  obtain ⟨a, cap, rfl, _⟩ := hO.reads
  have HR := Lib.hid hr
  have HQ := Lib.hid hQ
  have HL := Lib.hid L0
  have hn6 : (n : Int) ≤ 6 := by omega
  clear L0 hO hr hQ hgc hlen
  go_enter Try.func120, Try.ntmps120
  go_wp2_with fail
  go_loopw [5, 10] (fun t i wr => ∃ j : Nat, j ≤ n ∧ i = .int .i64 j ∧ t = .int .i64 (hitN (bt xs) Q j : Nat) ∧ Law w [tBox w.heap.size (.int .i64 r) (.int .i64 c) (.slice a xs.length cap)] wr) (fun _ i _ => n - (intOf i).toNat)
  case atStart => exact ⟨0, Nat.zero_le _, rfl, rfl, HL.out⟩
  case round =>
    clear HL
    obtain ⟨j, hj, rfl, rfl, L⟩ := hrel
    by_cases hlt : j < n
    · have ⟨_, k0, k1, k2, _⟩ := L.ownBox
      obtain ⟨b1, o1, rfl, hb1, hc1⟩ := reads_row (L.reads HR.out) (by omega)
      have hcj := hc1 j hlt
      obtain ⟨q1, q2⟩ := HQ.out j hlt
      have HN := Lib.hid (show hitN (bt xs) Q (j + 1) = hitN (bt xs) Q j + if bt xs j (Q.getD j 0).toNat = true then 1 else 0 from rfl)
      obtain ⟨l, hl⟩ := Int.eq_ofNat_of_zero_le q1
      rw [hl, Int.toNat_natCast] at HN
      rw [hl] at hcj
      have hbc := HB.out j l wr hlt (by omega) (HO.out.kept L.below)
      have hle := hitN_le (bt xs) Q j
      rw [show ((xs.getD j 0).toNat.testBit l) = bt xs j l from rfl] at hbc
      generalize hitN (bt xs) Q j = t at *
      have HL := Lib.hid L
      clear L hc1 hb1 q1 q2 hl
      cases hB : bt xs j l
      · rw [hB] at hbc HN
        have HBC := Lib.hid hbc
        clear hbc hB
        go_wp2_with fail
        refine HBC.out.mono ?_
        rintro e w2 ⟨rfl, hb⟩
        have HL2 := Lib.hid (HL.out.kept hb)
        clear HL hb k0 k1 k2
        go_wp2_with fail
        go_roundw
        case rel => exact ⟨j + 1, by omega, by go_num, by rw [HN.out]; simp, HL2.out⟩
        case measure => simp [intOf]; omega
      · rw [hB] at hbc HN
        have HBC := Lib.hid hbc
        have htl : (t : Int) ≤ 6 := by omega
        have ht0 : (0 : Int) ≤ t := by omega
        clear hbc hB
        go_wp2_with fail
        refine HBC.out.mono ?_
        rintro e w2 ⟨rfl, hb⟩
        have HL2 := Lib.hid (HL.out.kept hb)
        clear HL hb k0 k1 k2
        go_wp2_with fail
        go_roundw
        case rel => exact ⟨j + 1, by omega, by go_num, by rw [HN.out]; simp, HL2.out⟩
        case measure => simp [intOf]; omega
    · obtain rfl : j = n := by omega
      have HB2 := Lib.hid L.below
      clear L
      go_wp2_with fail
      go_ret
      exact ⟨rfl, HB2.out⟩

theorem prm_in (n d : Nat) : ∀ P, (∀ y ∈ P, 0 ≤ y ∧ y < (n : Int)) → ∀ Q ∈ prm n d P, ∀ y ∈ Q, 0 ≤ y ∧ y < (n : Int) := by
  induction d with
  | zero => intro P hP Q h; rw [prm, List.mem_singleton] at h; rw [h]; exact hP
  | succ d ih =>
    intro P hP Q h
    rw [prm, List.mem_flatMap] at h
    obtain ⟨x, hx, h⟩ := h
    have hx := List.mem_range.1 hx
    split at h
    · cases h
    · refine ih _ (fun y hy => ?_) Q h
      rw [List.mem_append, List.mem_singleton] at hy
      rcases hy with hy | hy
      · exact hP y hy
      · rw [hy]; omega
theorem prm_cell (n : Nat) (Q : List Int) (h : Q ∈ prm n n []) : Q.length = n ∧ ∀ j, j < n → 0 ≤ Q.getD j 0 ∧ Q.getD j 0 < n := by
  have hl := prm_rows n n [] Q h
  simp at hl
  refine ⟨hl, fun j hj => ?_⟩
  have := prm_in n n [] (by simp) Q h (Q[j]'(by omega)) (List.getElem_mem _)
  simpa [List.getD, show j < Q.length by omega] using this

set_option maxRecDepth 100000 in
set_option maxHeartbeats 6400000 in
theorem hiNumbers_any (n : Nat) (xs : List Int) (w : World) (hx : xs.length ≤ 1048576) (hlen : xs.length = n) (hn : n ≤ 6) (hgc : ∀ k, 0 ≤ xs.getD k 0 ∧ xs.getD k 0 < 64) (lo : Nat) (s : Value) (hO : Own w lo s xs) :
    Calls Try.prog 95 #[.agg #[.int .i64 n, .int .i64 n, s]] w fun e w' => ∃ g p, e = .returned (.slice (some ⟨g, 0, none⟩) (n + 1) p) ∧ Own w' w.heap.size (.slice (some ⟨g, 0, none⟩) (n + 1) p) (lstL (n + 1) (pH n (bt xs) n 0 0)) ∧ Below w.heap.size w w' := by
  have hmk : ∀ w, (Instr.makeSlice 25 (.int .i64 ((n : Int) + 1)) (.int .i64 ((n : Int) + 1))).run Try.prog w = .ok (.slice (some ⟨w.heap.size, 0, none⟩) (n + 1) (n + 1)) (w.alloc (.cells (madeCells #[.int .i64 0] (n + 1)) 3)) := by
    intro w
    have := run_make_row' (P := Try.prog) 25 3 (.int .i64 0) 8 Try.underlying25 Try.infoI rfl .i64 .i64 (n + 1) (by omega) (by omega) w
    rw [show ((n : Int) + 1) = ((n + 1 : Nat) : Int) by push_cast; rfl]
    exact this
  have L0 := (Law.start w).box (.int .i64 n) (.int .i64 n) s 27
  have HO := Lib.hid hO
  obtain ⟨a, cap, rfl, _⟩ := hO.reads
  have HA := Lib.hid (fun W => hiAll_any n hn n [] (by simp) W 0 (.slice none 0 0) (Own.nil _ _))
  have HFIN := Lib.hid (fun k => htcL_all n (bt xs) k)
  have hcel := fun Q h => prm_cell n Q h
  have hbd := prm_bd n n hn hn []
  generalize prm n n [] = LL at *
  have HH := Lib.hid (fun (Q : List Int) (W : World) (qa : Option Addr) (qp : Nat) (h : Q ∈ LL) (hr : Reads W qa n Q) (ho : Own W lo (.slice a xs.length cap) xs) => hiHits_any n n n xs Q W hx hlen hn hgc (fun j hj => by have := (hcel Q h).2 j hj; omega) lo _ ho qa qp hr)
  have HCL := Lib.hid hcel
  have hn6 : (n : Int) ≤ 6 := by omega
  have L1 := L0.own (below_new _) (own_made (w.alloc (.cells #[.int .i64 n, .int .i64 n, .slice a xs.length cap] 27)) (n + 1) _ _ rfl (Nat.le_refl _) (by omega))
  rw [lstL_zero, lstL_congr (n + 1) (fun _ => 0) (fun k => htcL (bt xs) n k (LL.take 0)) (fun k _ => by simp [htcL])] at L1
  simp only [World.size_alloc] at L1
  have ⟨_, m0, m1, m2, _⟩ := L0.ownBox
  have HL1 := Lib.hid L1
  clear L0 L1 hO hcel hgc hlen
  go_enter Try.func95, Try.ntmps95
  go_upto_region 2 with fail
  obtain ⟨g, hgg⟩ : ∃ g, g = w.heap.size + 1 := ⟨_, rfl⟩
  rw [← hgg] at HL1
  try simp only [World.size_alloc]
  try rw [← hgg]
  generalize (w.alloc (.cells #[.int .i64 n, .int .i64 n, .slice a xs.length cap] 27)).alloc (.cells (madeCells #[.int .i64 0] (n + 1)) 3) = w5 at *
  clear hmk m0 m1 m2
  have ⟨_, k0, k1, k2, _⟩ := HL1.out.tl.ownBox
  have HG := Lib.hid hgg
  clear hgg
  go_wp2_with fail
  refine (HA.out _).mono ?_
  rintro e w6 ⟨v, vs, rfl, OM, hno, hb⟩
  obtain ⟨va, vp, rfl⟩ := OM.formR
  have HL2 := Lib.hid (HL1.out.addM hb OM)
  clear HL1 OM hb k0 k1 k2 hno HA
  go_wp2_with fail
  go_loopw [14] (fun i wr => ∃ k : Nat, k ≤ LL.length ∧ i = .int .i64 k ∧ Law w [tM (.slice va LL.length vp) vs LL, tOwn (.slice (some ⟨g, 0, none⟩) (n + 1) (n + 1)) (lstL (n + 1) (fun q => htcL (bt xs) n q (LL.take k))), tBox w.heap.size (.int .i64 n) (.int .i64 n) (.slice a xs.length cap)] wr) (fun i _ => LL.length - (intOf i).toNat)
  case atStart => exact ⟨0, Nat.zero_le _, rfl, HL2.out⟩
  case round =>
    clear HL2
    obtain ⟨k, hk, rfl, L⟩ := hrel
    by_cases hlt : k < LL.length
    · have hM := L.ownM
      have hvl : k < vs.length := by rw [← hM.len]; exact hlt
      rcases hM.cases with ⟨_, h⟩ | ⟨g3, cap3, hv, _⟩
      · subst h
        simp at hvl
      · injection hv with ha hb1 hb2
        subst ha
        clear hb1 hb2
        rw [hM.len] at hM
        have hcell := hM.cell k hvl
        have hrow := hM.row k hvl
        obtain ⟨qa, qp, hqv, hqr⟩ := hrow.reads
        rw [hqv] at hcell
        have hmem : LL[k] ∈ LL := List.getElem_mem hlt
        have hql := (HCL.out LL[k] hmem).1
        have htk : LL.take (k + 1) = LL.take k ++ [LL[k]] := List.take_succ_eq_append_getElem hlt
        have hkI : (k : Int) < LL.length := by omega
        have HC := Lib.hid (fun (W : World) (hr : Reads W qa n (LL[k]'hlt)) (ho : Own W lo (.slice a xs.length cap) xs) => HH.out (LL[k]'hlt) W qa qp hmem hr ho)
        have hct : ∀ q, htcL (bt xs) n q (LL.take (k + 1)) = htcL (bt xs) n q (LL.take k) + if hitN (bt xs) LL[k] n = q then 1 else 0 := fun q => by
          rw [htk, htcL_app]
          simp [htcL]
        have hhl := hitN_le (bt xs) LL[k] n
        have hcl := htcL_le (bt xs) n (hitN (bt xs) LL[k] n) (LL.take k)
        rw [List.length_take] at hcl
        rw [hql] at hcell hqr
        generalize LL[k] = Q at *
        have o1 := L.tl.ownInts
        have y1 := Own.cell (by rw [lstL_len]; exact o1) (hitN (bt xs) Q n) (by rw [lstL_len]; omega)
        have y2 := Own.free (by rw [lstL_len]; exact o1) (hitN (bt xs) Q n)
        rw [lstL_get _ _ _ (show hitN (bt xs) Q n < n + 1 by omega)] at y1
        have HST := Lib.hid (fun (W : World) (L2 : Law w [tM (.slice (some ⟨g3, 0, none⟩) LL.length vp) vs LL, tOwn (.slice (some ⟨g, 0, none⟩) (n + 1) (n + 1)) (lstL (n + 1) (fun q => htcL (bt xs) n q (LL.take k))), tBox w.heap.size (.int .i64 n) (.int .i64 n) (.slice a xs.length cap)] W) => by
          have hS := Law.store (ts := [_]) L2 (lstL_len _ _) (hitN (bt xs) Q n) ((htcL (bt xs) n (hitN (bt xs) Q n) (LL.take k) + 1 : Nat) : Int)
          rw [lstL_set (n + 1) _ (fun q => htcL (bt xs) n q (LL.take (k + 1))) (hitN (bt xs) Q n) _ (by rw [hct, if_pos rfl]) (fun q _ hq => by show htcL _ _ _ _ = _; rw [hct, if_neg (fun e => hq e.symm)]; rfl)] at hS
          exact hS)
        have HLK := Lib.hid (fun (W : World) (hb : Below wr.heap.size wr W) => L.kept hb)
        have HOk := Lib.hid (HO.out.kept L.below)
        have ⟨_, k0, k1, k2, _⟩ := L.tl.tl.ownBox
        have HYY := Lib.hid (fun (W : World) (hb : Below wr.heap.size wr W) (h : W.cell? ⟨g, hitN (bt xs) Q n, none⟩ = some (.int .i64 (htcL (bt xs) n (hitN (bt xs) Q n) (LL.take k) : Nat))) => h)
        have HO1 := Lib.hid (fun (W : World) (L2 : Law w [tM (.slice (some ⟨g3, 0, none⟩) LL.length vp) vs LL, tOwn (.slice (some ⟨g, 0, none⟩) (n + 1) (n + 1)) (lstL (n + 1) (fun q => htcL (bt xs) n q (LL.take k))), tBox w.heap.size (.int .i64 n) (.int .i64 n) (.slice a xs.length cap)] W) => by
          have o1 := L2.tl.ownInts
          have y1 := Own.cell (by rw [lstL_len]; exact o1) (hitN (bt xs) Q n) (by rw [lstL_len]; omega)
          have y2 := Own.free (by rw [lstL_len]; exact o1) (hitN (bt xs) Q n)
          rw [lstL_get _ _ _ (show hitN (bt xs) Q n < n + 1 by omega)] at y1
          exact And.intro y1 y2)
        generalize hitN (bt xs) Q n = h at *
        generalize htcL (bt xs) n h (LL.take k) = z at *
        have hh1 : (0 : Int) ≤ h := by omega
        have hh2 : (h : Int) < (n : Int) + 1 := by omega
        have hz1 := IntWalk.i64_in ((z : Int) + 1) (by omega)
        have hz0 : (0 : Int) ≤ z := by omega
        have hz2 : (z : Int) ≤ 46656 := by omega
        clear L hM hrow hmem hql htk hct hhl hcl o1 y1 y2
        go_wp2_with fail
        refine (HC.out _ hqr HOk.out).mono ?_
        rintro e w7 ⟨rfl, hb⟩
        have L2 := HLK.out _ hb
        obtain ⟨y1, y2⟩ := HO1.out _ L2
        have HS2 := Lib.hid (HST.out _ L2)
        clear L2 hb k0 k1 k2 hcell hqr HLK HST HO1 HC
        go_wp2_with fail
        go_roundw
        case rel => exact ⟨k + 1, by omega, by go_num, HS2.out⟩
        case measure => simp [intOf]; omega
    · obtain rfl : k = LL.length := by omega
      rw [List.take_length, lstL_congr (n + 1) (fun q => htcL (bt xs) n q LL) (pH n (bt xs) n 0 0) (fun q _ => HFIN.out q)] at L
      have HL := Lib.hid L.tl
      clear L
      go_wp2_with fail
      go_ret
      exact ⟨_, _, rfl, HL.out.ownLo, HL.out.below⟩
end Go.Proofs.Ytaipcmplpjkebaa
end
