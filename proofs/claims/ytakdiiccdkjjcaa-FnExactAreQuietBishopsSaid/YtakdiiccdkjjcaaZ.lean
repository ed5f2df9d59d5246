/- A board without a row and a column, in the program. No condition but the sizes. -/
import Derived.Test.YtakdiiccdkjjcaaQ
import Derived.Test.YtakdiiccdkjjcaaT3
import Derived.Deep.RegionLaw
namespace Go.Proofs.Ytakdiiccdkjjcaa
open Go.RowKit Go.WideShapes

/-- The index that i was, before a line went away. -/
def sk (i s : Nat) : Nat := if i < s then i else i + 1
/-- A row without its place j: m places are left. -/
def skv (x : Int) (j m : Nat) : Int := (rowM (fun c => x.toNat.testBit (sk c j)) m : Int)
def strikeL (xs : List Int) (i j m : Nat) : List Int := (xs.eraseIdx i).map (fun x => skv x j m)
def strikeB (r c : Int) (xs : List Int) (i j : Int) : BR := if placeB r c xs i j && (!(r == 1) && !(c == 1)) then ⟨r - 1, c - 1, strikeL xs i.toNat j.toNat (c - 1).toNat, true⟩ else BR.zero
theorem strikeL_len (xs : List Int) (i j m : Nat) (h : i < xs.length) : (strikeL xs i j m).length = xs.length - 1 := by
  simp [strikeL, List.length_eraseIdx, h]
theorem strikeB_len (r c : Int) (xs : List Int) (i j : Int) : (strikeB r c xs i j).xs.length ≤ 1048576 := by
  unfold strikeB
  split
  · rename_i h
    rw [Bool.and_eq_true, placeB, Bool.and_eq_true] at h
    have := good_facts h.1.1
    have := insB_iff.1 h.1.2
    rw [strikeL_len _ _ _ _ (by omega)]
    omega
  · simp [BR.zero]
theorem strike_cells (M : Nat → Int) (xs : List Int) (i j m n : Nat) (hM : ∀ k, M k = xs.getD k 0) (hl : xs.length = n + 1) (hn : n ≤ 6) (hi : i < n + 1) :
    (([0, 1, 2, 3, 4, 5].take n).map fun k => (rowM ((fun k l => (M (sk k i)).toNat.testBit (sk l j) : Nat → Nat → Bool) k) m : Int)) = strikeL xs i j m :=
  cells_n n _ _ (by rw [strikeL_len _ _ _ _ (by omega)]; omega) hn (fun k hk => by
    simp only [hM]
    show skv (xs.getD (sk k i) 0) j m = _
    have e : (xs.eraseIdx i)[k]? = xs[sk k i]? := by
      rw [List.getElem?_eraseIdx]
      unfold sk
      split <;> rfl
    have hs : sk k i < xs.length := by unfold sk; split <;> omega
    rw [List.getD_eq_getElem?_getD, List.getD_eq_getElem?_getD, strikeL, List.getElem?_map, e]
    simp [hs])

theorem gridOf_good (r c : Int) (a : Option Addr) (cap : Nat) (xs : List Int) (w : World) (hx : xs.length ≤ 1048576) (hr : Reads w a xs.length xs) (hg : goodB r c xs = true) :
    ∃ M : Nat → Int, (∀ k, M k = xs.getD k 0) ∧ Calls Try.prog 56 #[.agg #[.int .i64 r, .int .i64 c, .slice a xs.length cap]] w
      fun e w' => e = .returned (.tuple #[gv r c M, .bool true]) ∧ Below w.heap.size w w' :=
  ⟨_, fun _ => rfl, gridOf_yes r c a cap xs w hx hr hg⟩

set_option maxHeartbeats 800000 in
theorem skip_any (i st : Nat) (w : World) (hi : i < 100) :
    Calls Try.prog 89 #[.int .i64 i, .int .i64 st] w fun e w' => e = .returned (.int .i64 ((sk i st : Nat) : Int)) ∧ w = w' := by
  by_cases h : i < st
  · have hs := Lib.hid (show sk i st = i by unfold sk; rw [if_pos h])
    go_enter Try.func89, Try.ntmps89
    go_wp2
    all_goals go_ret
    all_goals exact ⟨ret_int (by rw [hs.out]), rfl⟩
  · have hs := Lib.hid (show sk i st = i + 1 by unfold sk; rw [if_neg h])
    go_enter Try.func89, Try.ntmps89
    go_wp2
    all_goals go_ret
    all_goals exact ⟨ret_int (by rw [hs.out]; simp), rfl⟩

set_option maxRecDepth 100000 in
set_option maxHeartbeats 3200000 in
theorem strike1_any (r c : Int) (M : Nat → Int) (bg bi bj i j k l : Nat) (w : World) (hk : sk k i < 6) (hl : sk l j < 6) (hm : 0 ≤ M (sk k i) ∧ M (sk k i) < 64)
    (hg : Has w bg (gl r c M) 66) (h1 : w.cell? ⟨bi, 0, none⟩ = some (.int .i64 i)) (h2 : w.cell? ⟨bj, 0, none⟩ = some (.int .i64 j)) :
    Calls Try.prog 87 (#[] ++ (#[.int .i64 k, .int .i64 l] ++ #[.pointer (some ⟨bg, 0, none⟩), .pointer (some ⟨bi, 0, none⟩), .pointer (some ⟨bj, 0, none⟩)])) w
      fun e w' => e = .returned (.bool ((M (sk k i)).toNat.testBit (sk l j))) ∧ Below w.heap.size w w' := by
  have hk6 : k < 100 := by unfold sk at hk; split at hk <;> omega
  have hl6 : l < 100 := by unfold sk at hl; split at hl <;> omega
  have L0 := (Below.refl w.heap.size w).drew
  obtain ⟨e0, e1, e2, e3, e4, e5, e6, e7, _⟩ := (show Has w.drew bg (gl r c M) 66 from hg.drew).eight
  have h1' : w.drew.cell? ⟨bi, 0, none⟩ = some (.int .i64 i) := h1
  have h2' : w.drew.cell? ⟨bj, 0, none⟩ = some (.int .i64 j) := h2
  have HC := Lib.hid (fun W => skip_any k i W hk6)
  have HD := Lib.hid (fun W => skip_any l j W hl6)
  have HA := Lib.hid (fun W => at_any r c M (sk k i) (sk l j) W hk hl hm)
  have HB := Lib.hid L0
  clear hm hk hl L0 hg h1 h2
  go_enter Try.func87, Try.ntmps87
  go_wp2_with fail
  go_region_held3 (fun w' => w'.cell? ⟨bg, 0, none⟩ = some (.int .i64 r) ∧ w'.cell? ⟨bg, 1, none⟩ = some (.int .i64 c) ∧ w'.cell? ⟨bg, 2, none⟩ = some (.int .i64 (M 0)) ∧ w'.cell? ⟨bg, 3, none⟩ = some (.int .i64 (M 1)) ∧ w'.cell? ⟨bg, 4, none⟩ = some (.int .i64 (M 2)) ∧ w'.cell? ⟨bg, 5, none⟩ = some (.int .i64 (M 3)) ∧ w'.cell? ⟨bg, 6, none⟩ = some (.int .i64 (M 4)) ∧ w'.cell? ⟨bg, 7, none⟩ = some (.int .i64 (M 5)) ∧ w'.cell? ⟨bi, 0, none⟩ = some (.int .i64 i) ∧ w'.cell? ⟨bj, 0, none⟩ = some (.int .i64 j)) (first | (repeat' apply And.intro) <;> first | with_reducible assumption | assumption) ((first | (go_at_call 89; first | ((with_reducible refine (HC.out _).mono ?_); rintro e w' ⟨rfl, rfl⟩) | ((with_reducible refine (HD.out _).mono ?_); rintro e w' ⟨rfl, rfl⟩)) | (go_at_call 88; ((with_reducible refine (HA.out _).mono ?_); rintro e w1 ⟨rfl, hb⟩; have m0 := cell_later hb e0; have m1 := cell_later hb e1; have m2 := cell_later hb e2; have m3 := cell_later hb e3; have m4 := cell_later hb e4; have m5 := cell_later hb e5; have m6 := cell_later hb e6; have m7 := cell_later hb e7; have m8 := cell_later hb h1'; have m9 := cell_later hb h2'; have HB2 := Lib.hid (below_on (w0 := w) (w := w.drew) HB.out hb); clear hb))))
  all_goals
    go_wp2_with fail
    go_ret
    exact ⟨rfl, HB2.out⟩

set_option maxRecDepth 100000 in
set_option maxHeartbeats 6400000 in
theorem implStrike_any (r c : Int) (xs : List Int) (i j : Int) (w : World) (hx : xs.length ≤ 1048576) (lo : Nat) (s : Value) (hO : Own w lo s xs) :
    Calls Try.prog 48 #[.agg #[.int .i64 r, .int .i64 c, s], .int .i64 i, .int .i64 j] w fun e w' => AnsB (strikeB r c xs i j) w e w' := by
  have L0 := ((((Law.start w).box (.int .i64 r) (.int .i64 c) s 28).has [.int .i64 i] 3).has [.int .i64 j] 3).box (.int .i64 0) (.int .i64 0) (.slice none 0 0) 28
  simp only [World.size_alloc] at L0
  obtain ⟨a, cap, rfl, hr⟩ := hO.reads
  have hr0 := L0.reads hr
  clear hO
  cases hg : goodB r c xs
  · rw [show strikeB r c xs i j = BR.zero by simp [strikeB, placeB, hg]]
    go_enter Try.func48, Try.ntmps48
    go_wp2_with fail
    refine (gridOf_no r c a cap xs _ hx hr0 hg).mono ?_
    rintro e w1 ⟨rfl, hb⟩
    have L1 := (L0.kept hb).kept (below_new (.cells #[.int .i64 0, .int .i64 0, .int .i64 0, .int .i64 0, .int .i64 0, .int .i64 0, .int .i64 0, .int .i64 0] 66))
    have ⟨_, n0, n1, n2, nf⟩ := L1.ownBox
    have HB := Lib.hid L1.below
    clear L0 L1 hb hg hr0
    go_wp2_with fail
    refine bodyPost_ret (v := .tuple #[.agg #[.int .i64 0, .int .i64 0, .slice none 0 0], .bool false]) (by simp [results, Try.results48, go_sem, n0, n1, n2]) rfl (ansB_zero _ _ ?_)
    exact ((HB.out.setCell (by simp <;> omega) _).setCell (by simp <;> omega) _).setCell (by simp <;> omega) _
  · have hgc := good_cell hg
    obtain ⟨⟨g1l, g1h⟩, ⟨g2l, g2h⟩, g3, _⟩ := good_facts hg
    obtain ⟨M, hM, hc⟩ := gridOf_good r c a cap xs _ hx hr0 hg
    have HC := Lib.hid hc; clear hc
    simp only [← hM] at hgc
    by_cases hin : insB r c i j = true ∧ r ≠ 1 ∧ c ≠ 1
    · obtain ⟨hi, hr1, hc1⟩ := hin
      obtain ⟨i1, i2, j1, j2⟩ := insB_iff.1 hi
      obtain ⟨n, rfl⟩ : ∃ n : Nat, r = (n : Int) + 1 := ⟨(r - 1).toNat, by omega⟩
      obtain ⟨m, rfl⟩ : ∃ m : Nat, c = (m : Int) + 1 := ⟨(c - 1).toNat, by omega⟩
      obtain ⟨i, rfl⟩ := Int.eq_ofNat_of_zero_le i1
      obtain ⟨j, rfl⟩ := Int.eq_ofNat_of_zero_le j1
      rw [show strikeB ((n : Int) + 1) ((m : Int) + 1) xs i j = ⟨n, m, strikeL xs i j m, true⟩ by
        have t1 : (((n : Int) + 1) == 1) = false := by rw [beq_eq_false_iff_ne]; exact hr1
        have t2 : (((m : Int) + 1) == 1) = false := by rw [beq_eq_false_iff_ne]; exact hc1
        simp [strikeB, placeB, hg, hi, t1, t2]]
      have HJ := Lib.hid (strike_cells M xs i j m n hM (by omega) (by omega) (by omega))
      have HZ := Lib.hid (show (strikeL xs i j m).length = n by rw [strikeL_len _ _ _ _ (by omega)]; omega)
      have t1 : (((n : Int) + 1) == 1) = false := by rw [beq_eq_false_iff_ne]; exact hr1
      have t2 : (((m : Int) + 1) == 1) = false := by rw [beq_eq_false_iff_ne]; exact hc1
      have HI := Lib.hid hi
      clear hi g3 hr1 hc1 hM hg hr0
      go_enter Try.func48, Try.ntmps48
      go_wp2_with fail
      refine HC.out.mono ?_
      rintro e w1 ⟨rfl, hb⟩
      have L1 := (L0.kept hb).has (gl ((n : Int) + 1) ((m : Int) + 1) M) 66
      rw [show w1.alloc (.cells (gl ((n : Int) + 1) ((m : Int) + 1) M).toArray 66) = w1.alloc (.cells #[.int .i64 ((n : Int) + 1), .int .i64 ((m : Int) + 1), .int .i64 (M 0), .int .i64 (M 1), .int .i64 (M 2), .int .i64 (M 3), .int .i64 (M 4), .int .i64 (M 5)] 66) from rfl] at L1
      have HL := Lib.hid L1
      have y1 := Lib.hid (L1.tl.tl.ownHas.cell 0); have y2 := Lib.hid (L1.tl.tl.tl.ownHas.cell 0)
      clear L0 hb L1
      go_upto_region 2 with fail
      generalize w1.alloc (.cells #[.int .i64 ((n : Int) + 1), .int .i64 ((m : Int) + 1), .int .i64 (M 0), .int .i64 (M 1), .int .i64 (M 2), .int .i64 (M 3), .int .i64 (M 4), .int .i64 (M 5)] 66) = w5 at *
      obtain ⟨e0, e1, e2, e3, e4, e5, e6, e7, _⟩ := HL.out.ownHas.eight
      have y1 := y1.out; have y2 := y2.out
      simp only [List.getElem?_cons_zero] at y1 y2
      go_wp2_with fail
      refine (inside_any ((n : Int) + 1) ((m : Int) + 1) i j M _).mono ?_
      rintro e w2 ⟨rfl, hb⟩
      rw [HI.out]
      have L2 := HL.out.kept hb
      clear e0 e1 e2 e3 e4 e5 e6 e7 HL hb y1 y2
      have ⟨e0, e1, _⟩ := L2.ownHas.eight
      have HL := Lib.hid L2
      clear L2
      go_wp2_with fail
      refine (drawBoard_any n m 87 #[] _ (fun k l => (M (sk k i)).toNat.testBit (sk l j)) _ (by omega) (by omega) (fun _ _ => by kernel_rfl) (fun k l w' hk hl hb => strike1_any ((n : Int) + 1) ((m : Int) + 1) M _ _ _ i j k l w' (by unfold sk; split <;> omega) (by unfold sk; split <;> omega) (hgc _) (HL.out.kept hb).ownHas ((HL.out.kept hb).tl.tl.tl.ownHas.cell 0) ((HL.out.kept hb).tl.tl.ownHas.cell 0))).mono ?_
      rintro e w3 ⟨v, rfl, hO, hb⟩
      rw [HJ.out] at hO
      have L3 := HL.out.own hb hO
      obtain ⟨a1, p1, hv, _⟩ := hO.reads
      subst hv
      have ⟨_, n0, n1, n2, nf⟩ := L3.tl.tl.ownBox
      have hfin := L3.fin3 (n := w.heap.size + 1 + 1 + 1) (x := .int .i64 0) (y := .int .i64 0) (z := .slice none 0 0) (by simp) (.int .i64 n) (.int .i64 m) (.slice a1 (strikeL xs i j m).length p1)
      have HF := Lib.hid hfin
      rw [HZ.out] at HF ⊢
      clear HL L3 hO hb hfin e0 e1
      go_wp2_with fail
      exact bodyPost_ret (v := .tuple #[.agg #[.int .i64 n, .int .i64 m, .slice a1 n p1], .bool true]) (by simp [results, Try.results48, go_sem, n0, n1, n2]) rfl ⟨_, rfl, HF.out.1, HF.out.2⟩
    · have hz : strikeB r c xs i j = BR.zero := by
        unfold strikeB placeB
        rw [if_neg]
        intro h
        simp only [Bool.and_eq_true, Bool.not_eq_true', beq_eq_false_iff_ne] at h
        exact hin ⟨h.1.2, h.2.1, h.2.2⟩
      rw [hz]
      clear hz
      have hcase : insB r c i j = false ∨ (insB r c i j = true ∧ (r == 1) = true) ∨ (insB r c i j = true ∧ (r == 1) = false ∧ (c == 1) = true) := by
        cases h : insB r c i j
        · exact .inl rfl
        · by_cases h1 : r = 1
          · exact .inr (.inl ⟨rfl, by simp [h1]⟩)
          · by_cases h2 : c = 1
            · exact .inr (.inr ⟨rfl, by simp [h1], by simp [h2]⟩)
            · exact absurd ⟨h, h1, h2⟩ hin
      clear hin hM hg hr0 hgc
      rcases hcase with hi | ⟨hi, t1⟩ | ⟨hi, t1, t2⟩
      all_goals
        have HI := Lib.hid hi
        clear hi
        go_enter Try.func48, Try.ntmps48
        go_wp2_with fail
        refine HC.out.mono ?_
        rintro e w1 ⟨rfl, hb⟩
        have L1 := (L0.kept hb).has (gl r c M) 66
        rw [show w1.alloc (.cells (gl r c M).toArray 66) = w1.alloc (.cells #[.int .i64 r, .int .i64 c, .int .i64 (M 0), .int .i64 (M 1), .int .i64 (M 2), .int .i64 (M 3), .int .i64 (M 4), .int .i64 (M 5)] 66) from rfl] at L1
        have HL := Lib.hid L1
        have y1 := Lib.hid (L1.tl.tl.ownHas.cell 0); have y2 := Lib.hid (L1.tl.tl.tl.ownHas.cell 0)
        clear L0 hb L1
        go_upto_region 2 with fail
        generalize w1.alloc (.cells #[.int .i64 r, .int .i64 c, .int .i64 (M 0), .int .i64 (M 1), .int .i64 (M 2), .int .i64 (M 3), .int .i64 (M 4), .int .i64 (M 5)] 66) = w5 at *
        obtain ⟨e0, e1, e2, e3, e4, e5, e6, e7, _⟩ := HL.out.ownHas.eight
        have y1 := y1.out; have y2 := y2.out
        simp only [List.getElem?_cons_zero] at y1 y2
        go_wp2_with fail
        refine (inside_any r c i j M _).mono ?_
        rintro e w2 ⟨rfl, hb⟩
        rw [HI.out]
        have L2 := HL.out.kept hb
        clear e0 e1 e2 e3 e4 e5 e6 e7 HL hb y1 y2
        have ⟨e0, e1, _⟩ := L2.ownHas.eight
        have ⟨_, n0, n1, n2, nf⟩ := L2.tl.ownBox
        have HB := Lib.hid L2.below
        clear L2
        go_wp2_with fail
        refine bodyPost_ret (v := .tuple #[.agg #[.int .i64 0, .int .i64 0, .slice none 0 0], .bool false]) (by simp [results, Try.results48, go_sem, n0, n1, n2]) rfl (ansB_zero _ _ ?_)
        exact ((HB.out.setCell (by simp <;> omega) _).setCell (by simp <;> omega) _).setCell (by simp <;> omega) _

end Go.Proofs.Ytakdiiccdkjjcaa
