/- The colour board, in both texts. No condition but the sizes. -/
import Derived.Test.YtakdiiccdkjjcaaEf
import Derived.Test.YtakdiiccdkjjcaaI
namespace Go.Proofs.Ytakdiiccdkjjcaa
open Go.RowKit Go.WideShapes

/-- Is it a board with places of this colour? -/
def colOk (r c : Int) (xs : List Int) (k : Int) : Bool := goodB r c xs && (inB 0 k 1 && decide (0 < lnI r.toNat c.toNat k.toNat))
def colR (r c : Int) (xs : List Int) (k : Int) : BR := if colOk r c xs k then ⟨(lnI r.toNat c.toNat k.toNat : Nat), (lnI r.toNat c.toNat (fdI c.toNat k.toNat) : Nat), colL r.toNat c.toNat k.toNat xs, true⟩ else BR.zero
theorem colR_len (r c : Int) (xs : List Int) (k : Int) : (colR r c xs k).xs.length ≤ 1048576 := by
  unfold colR
  split
  · rename_i h
    unfold colOk at h
    rw [Bool.and_eq_true] at h
    obtain ⟨h1, h2, _⟩ := good_facts h.1
    have := ln_le r.toNat c.toNat k.toNat (by omega) (by omega)
    show (colL _ _ _ _).length ≤ _
    rw [colL_len]
    omega
  · simp [BR.zero]
theorem colOk_yes {r c : Int} {xs : List Int} {k : Int} (h : colOk r c xs k = true) : ∃ n m q : Nat, r = n ∧ c = m ∧ k = q ∧ 1 ≤ n ∧ n ≤ 6 ∧ 1 ≤ m ∧ m ≤ 6 ∧ q < 2 ∧ 0 < lnI n m q ∧ goodB n m xs = true := by
  unfold colOk at h
  rw [Bool.and_eq_true, Bool.and_eq_true, inB_iff, decide_eq_true_eq] at h
  obtain ⟨h1, h2, h3⟩ := h
  obtain ⟨g1, g2, _⟩ := good_facts h1
  refine ⟨r.toNat, c.toNat, k.toNat, by omega, by omega, by omega, by omega, by omega, by omega, by omega, by omega, h3, ?_⟩
  rw [Int.toNat_of_nonneg (by omega), Int.toNat_of_nonneg (by omega)]
  exact h1
theorem col_good (n m k : Nat) (xs : List Int) (hn : 1 ≤ n ∧ n ≤ 6) (hm : 1 ≤ m ∧ m ≤ 6) (hk : k < 2) (h : 0 < lnI n m k) : goodB (lnI n m k : Nat) (lnI n m (fdI m k) : Nat) (colL n m k xs) = true := by
  have h1 := ln_le n m k (by omega) (by omega)
  have h2 := ln_le n m (fdI m k) (by omega) (by omega)
  have h3 : 1 ≤ lnI n m (fdI m k) := by
    have := fd_le m k
    unfold lnI fdI at *
    omega
  unfold goodB
  rw [inB_yes (by omega) (by omega), inB_yes (by omega) (by omega), colL_len]
  simp only [Bool.true_and, decide_true]
  unfold within
  rw [List.all_eq_true]
  intro x hx
  unfold colL lstI at hx
  obtain ⟨i, _, rfl⟩ := List.mem_map.1 hx
  rw [decide_eq_true_eq]
  have h4 := rowM_lt (colB n m k (fun a b => (xs.getD a 0).toNat.testBit b) i) (lnI n m (fdI m k))
  have h5 : pw ((lnI n m (fdI m k) : Nat) : Int) = ((2 ^ lnI n m (fdI m k) : Nat) : Int) := by
    unfold pw
    rw [Int.toNat_natCast]
    push_cast
    rfl
  rw [h5]
  omega
theorem col_bad (n m k : Nat) (xs : List Int) (h : ¬ 0 < lnI n m k) : goodB (lnI n m k : Nat) (lnI n m (fdI m k) : Nat) (colL n m k xs) = false := by
  unfold goodB
  rw [inB_no (by omega), Bool.false_and]

theorem turnedOf_no (r c : Int) (a : Option Addr) (cap : Nat) (xs : List Int) (k : Int) (w : World) (hx : xs.length ≤ 1048576) (hr : Reads w a xs.length xs) (h : colOk r c xs k = false) :
    ∃ (r0 c0 : Int) (M0 : Nat → Int) (k0 : Int), Calls Try.prog 61 #[.agg #[.int .i64 r, .int .i64 c, .slice a xs.length cap], .int .i64 k] w fun e w' => e = .returned (.tuple #[tv r0 c0 M0 k0, .bool false]) ∧ Below w.heap.size w w' := by
  cases hg : goodB r c xs
  · exact ⟨_, _, _, _, turnedOf_bad r c a cap xs k w hx hr hg⟩
  · by_cases hk : 0 ≤ k ∧ k < 2
    · obtain ⟨g1, g2, _⟩ := good_facts hg
      obtain ⟨n, rfl⟩ := Int.eq_ofNat_of_zero_le (show 0 ≤ r by omega)
      obtain ⟨m, rfl⟩ := Int.eq_ofNat_of_zero_le (show 0 ≤ c by omega)
      obtain ⟨q, rfl⟩ := Int.eq_ofNat_of_zero_le hk.1
      have h0 : decide (0 < lnI n m q) = false := by
        unfold colOk at h
        rw [hg, inB_yes (by omega) (by omega)] at h
        simpa using h
      have := turnedOf_good n m a cap xs q w hx hr hg (by omega) (fun q => xs.getD q 0) (fun _ => rfl)
      rw [h0] at this
      exact ⟨_, _, _, _, this⟩
    · exact ⟨_, _, _, _, turnedOf_out r c a cap xs k w hx hr hg hk⟩
theorem turnedOf_yes (n m : Nat) (a : Option Addr) (cap : Nat) (xs : List Int) (k : Nat) (w : World) (hx : xs.length ≤ 1048576) (hr : Reads w a xs.length xs) (hg : goodB n m xs = true) (hk : k < 2) (h : 0 < lnI n m k) (M : Nat → Int) (hM : ∀ q, M q = xs.getD q 0) :
    Calls Try.prog 61 #[.agg #[.int .i64 n, .int .i64 m, .slice a xs.length cap], .int .i64 k] w fun e w' => e = .returned (.tuple #[tv n m M k, .bool true]) ∧ Below w.heap.size w w' := by
  have := turnedOf_good n m a cap xs k w hx hr hg hk M hM
  rwa [decide_eq_true h] at this
theorem drawn_take (p : Nat → Nat → Bool) (m n : Nat) (hn : n ≤ 6) : ([drawn p m n 0 0, drawn p m n 0 1, drawn p m n 0 2, drawn p m n 0 3, drawn p m n 0 4, drawn p m n 0 5].take n) = lstI n (fun k => (rowM (p k) m : Int)) := by
  have : n = 0 ∨ n = 1 ∨ n = 2 ∨ n = 3 ∨ n = 4 ∨ n = 5 ∨ n = 6 := by omega
  rcases this with rfl | rfl | rfl | rfl | rfl | rfl | rfl <;> simp [drawn, lstI, List.range_succ]

set_option maxRecDepth 100000 in
set_option maxHeartbeats 6400000 in
theorem implCol_any (r c : Int) (xs : List Int) (k : Int) (w : World) (hx : xs.length ≤ 1048576) (lo : Nat) (s : Value) (hO : Own w lo s xs) :
    Calls Try.prog 21 #[.agg #[.int .i64 r, .int .i64 c, s], .int .i64 k] w fun e w' => AnsB (colR r c xs k) w e w' := by
  have L0 := ((Law.start w).box (.int .i64 r) (.int .i64 c) s 28).box (.int .i64 0) (.int .i64 0) (.slice none 0 0) 28
  simp only [World.size_alloc] at L0
  obtain ⟨a, cap, rfl, hr⟩ := hO.reads
  have hr0 := L0.reads hr
  have HL := Lib.hid L0
  clear hO L0 hr
  cases ho : colOk r c xs k
  · rw [show colR r c xs k = BR.zero by simp [colR, ho]]
    obtain ⟨r0, c0, M0, k0, hc⟩ := turnedOf_no r c a cap xs k _ hx hr0 ho
    have HC := Lib.hid hc
    clear hc hr0 ho
    go_enter Try.func21, Try.ntmps21
    go_upto_region 1 with fail
    generalize (w.alloc _).alloc _ = w1 at *
    have ⟨_, b0, b1, b2, _⟩ := HL.out.tl.ownBox
    go_wp2_with fail
    refine HC.out.mono ?_
    rintro e w2 ⟨rfl, hb⟩
    replace HL := Lib.hid ((HL.out.kept hb).kept (below_new (.cells (tl9 r0 c0 M0 k0).toArray 73)))
    rw [show w2.alloc (.cells (tl9 r0 c0 M0 k0).toArray 73) = w2.alloc (.cells #[.int .i64 r0, .int .i64 c0, .int .i64 (M0 0), .int .i64 (M0 1), .int .i64 (M0 2), .int .i64 (M0 3), .int .i64 (M0 4), .int .i64 (M0 5), .int .i64 k0] 73) from rfl] at HL
    clear hb HC b0 b1 b2
    go_upto_region 2 with fail
    generalize w2.alloc _ = w3 at *
    have ⟨_, n0, n1, n2, nf⟩ := HL.out.ownBox
    have HB := Lib.hid HL.out.below
    clear HL
    go_wp2_with fail
    refine bodyPost_ret (v := .tuple #[.agg #[.int .i64 0, .int .i64 0, .slice none 0 0], .bool false]) (by simp [results, Try.results21, go_sem, n0, n1, n2]) rfl ⟨_, rfl, Own.nil _ _, ?_⟩
    exact ((HB.out.setCell (by simp <;> omega) _).setCell (by simp <;> omega) _).setCell (by simp <;> omega) _
  · obtain ⟨n, m, q, rfl, rfl, rfl, n1, n6, m1, m6, q2, hl, hg⟩ := colOk_yes ho
    rw [show colR n m xs q = ⟨(lnI n m q : Nat), (lnI n m (fdI m q) : Nat), colL n m q xs, true⟩ by simp [colR, ho]]
    have hgc := good_cell hg
    obtain ⟨M, hM⟩ : ∃ M : Nat → Int, ∀ k, M k = xs.getD k 0 := ⟨_, fun _ => rfl⟩
    have HC := Lib.hid (turnedOf_yes n m a cap xs q _ hx hr0 hg q2 hl M hM)
    simp only [← hM] at hgc
    have HCG := Lib.hid (fun W => colourGrid_any n m M q W n1 n6 m1 m6 q2 (fun k _ => hgc k))
    have hl1 := ln_le n m q n6 m6
    have HBD := Lib.hid (fun (m0 m1 m2 m3 m4 m5 : Int) W => board_any (lnI n m q) (lnI n m (fdI m q) : Nat) m0 m1 m2 m3 m4 m5 W hl1)
    have HDT := Lib.hid (show ([colM n m q (fun a b => (M a).toNat.testBit b) 0, colM n m q (fun a b => (M a).toNat.testBit b) 1, colM n m q (fun a b => (M a).toNat.testBit b) 2, colM n m q (fun a b => (M a).toNat.testBit b) 3, colM n m q (fun a b => (M a).toNat.testBit b) 4, colM n m q (fun a b => (M a).toNat.testBit b) 5].take (lnI n m q)) = colL n m q xs by
      unfold colM colL
      rw [drawn_take _ _ _ hl1, show (fun a b => (M a).toNat.testBit b) = (fun a b => (xs.getD a 0).toNat.testBit b) from by funext a b; rw [hM]])
    have HLL := Lib.hid (colL_len n m q xs)
    clear hM hg hr0 hgc ho hl
    generalize colL n m q xs = out at *
    generalize colM n m q (fun a b => (M a).toNat.testBit b) = CM at *
    generalize lnI n m (fdI m q) = c2 at *
    generalize lnI n m q = c1 at *
    go_enter Try.func21, Try.ntmps21
    go_upto_region 1 with fail
    generalize (w.alloc _).alloc _ = w1 at *
    have ⟨_, b0, b1, b2, _⟩ := HL.out.tl.ownBox
    go_wp2_with fail
    refine HC.out.mono ?_
    rintro e w2 ⟨rfl, hb⟩
    replace HL := Lib.hid ((HL.out.kept hb).has (tl9 n m M q) 73)
    rw [show w2.alloc (.cells (tl9 n m M q).toArray 73) = w2.alloc (.cells #[.int .i64 n, .int .i64 m, .int .i64 (M 0), .int .i64 (M 1), .int .i64 (M 2), .int .i64 (M 3), .int .i64 (M 4), .int .i64 (M 5), .int .i64 q] 73) from rfl] at HL
    clear hb HC b0 b1 b2
    go_upto_region 2 with fail
    generalize w2.alloc _ = w3 at *
    obtain ⟨e0, e1, e2, e3, e4, e5, e6, e7, e8, _⟩ := HL.out.ownHas.nine
    go_wp2_with fail
    refine (HCG.out _).mono ?_
    rintro e w4 ⟨rfl, hb⟩
    replace HL := Lib.hid (HL.out.kept hb)
    clear hb e0 e1 e2 e3 e4 e5 e6 e7 e8
    go_wp2_with fail
    refine (HBD.out _ _ _ _ _ _ _).mono ?_
    rintro e w5 ⟨v, rfl, hO, hb⟩
    rw [HDT.out] at hO
    replace HL := Lib.hid (HL.out.own hb hO)
    obtain ⟨a1, p1, hv, _⟩ := hO.reads
    subst hv
    have ⟨_, n0, n1, n2, nf⟩ := HL.out.tl.tl.ownBox
    have hfin := HL.out.fin3 (n := w.heap.size + 1) (x := .int .i64 0) (y := .int .i64 0) (z := .slice none 0 0) (by simp) (.int .i64 (c1 : Nat)) (.int .i64 (c2 : Nat)) (.slice a1 out.length p1)
    have HF := Lib.hid hfin
    rw [HLL.out] at HF ⊢
    clear HL hO hb hfin
    go_wp2_with fail
    exact bodyPost_ret (v := .tuple #[.agg #[.int .i64 (c1 : Nat), .int .i64 (c2 : Nat), .slice a1 c1 p1], .bool true]) (by simp [results, Try.results21, go_sem, n0, n1, n2]) rfl ⟨_, rfl, HF.out.1, HF.out.2⟩

end Go.Proofs.Ytakdiiccdkjjcaa
