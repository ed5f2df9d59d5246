/- The least of eight lists, in both texts. No condition but the sizes. -/
import Derived.Test.YtmhlpaenfknofaaUl
import Derived.Test.YtmhlpaenfknofaaUg
import Derived.Deep.RegionHeld3
namespace Go.Proofs.Ytmhlpaenfknofaa
open Go.RowKit Go.WideShapes

/-- Two numbers compared; two lists. -/
def cmpQ (x y : Int) : Int := if x < y then -1 else if y < x then 1 else 0
def cmpL : List Int → List Int → Int
  | x :: a, y :: b => if x = y then cmpL a b else cmpQ x y
  | _, _ => 0
def lessL : List Int → List Int → Bool
  | x :: a, y :: b => if x = y then lessL a b else decide (x < y)
  | _, _ => false
theorem cmpL_zero (n : Nat) : cmpL (List.replicate n 0) (List.replicate n 0) = 0 := by
  induction n with
  | zero => rfl
  | succ n ih => rw [List.replicate_succ, cmpL, if_pos rfl, ih]
theorem cmpL_pad (n : Nat) (a : List Int) : ∀ b : List Int, a.length = b.length → decide (cmpL (a ++ List.replicate n 0) (b ++ List.replicate n 0) < 0) = lessL a b := by
  induction a with
  | nil =>
    intro b hb
    have : b = [] := by cases b with
      | nil => rfl
      | cons x t => simp at hb
    subst this
    rw [List.nil_append, cmpL_zero]
    rfl
  | cons x a ih =>
    intro b hb
    cases b with
    | nil => simp at hb
    | cons y b =>
      rw [List.cons_append, List.cons_append, cmpL, lessL]
      by_cases h : x = y
      · rw [if_pos h, if_pos h, ih b (by simpa using hb)]
      · rw [if_neg h, if_neg h]
        unfold cmpQ
        by_cases h2 : x < y
        · rw [if_pos h2]; simp [h2]
        · rw [if_neg h2, if_pos (by omega)]; simp [h2]
def col8 (F : Nat → Int) : List Int := [F 0, F 1, F 2, F 3, F 4, F 5, F 6, F 7]
theorem col8_len (F : Nat → Int) : (col8 F).length = 8 := rfl
theorem col8_get (F : Nat → Int) (k : Nat) (hk : k < 8) : (col8 F).getD k 0 = F k := by
  rcases eight_cases hk with rfl | rfl | rfl | rfl | rfl | rfl | rfl | rfl <;> rfl
theorem col8_pad (n : Nat) (q : List Int) (h : q.length = n) (h8 : n ≤ 8) : col8 (cF q) = q ++ List.replicate (8 - n) 0 := by
  refine List.ext_getElem (by rw [col8_len]; simp; omega) (fun i h1 h2 => ?_)
  rw [col8_len] at h1
  have e := col8_get (cF q) i h1
  simp only [List.getD, List.getElem?_eq_getElem (show i < (col8 (cF q)).length by rw [col8_len]; exact h1), Option.getD_some] at e
  rw [e]
  unfold cF
  by_cases hi : i < q.length
  · rw [List.getElem_append_left hi]; simp [List.getD, hi]
  · rw [List.getElem_append_right (by omega)]; simp [List.getD, hi]
theorem less_col (n : Nat) (a b : List Int) (ha : a.length = n) (hb : b.length = n) (h8 : n ≤ 8) : decide (cmpL (col8 (cF a)) (col8 (cF b)) < 0) = lessL a b := by
  rw [col8_pad n a ha h8, col8_pad n b hb h8]
  exact cmpL_pad _ _ _ (by omega)
theorem Reads.col {w : World} {b : Nat} {c : Int} {F : Nat → Int} {t : TypeId} (h : Has w b (ql c F) t) : Reads w (some ⟨b, 1, none⟩) 8 (col8 F) := by
  refine ⟨rfl, .inr ⟨b, 1, rfl, h.lt, fun j hj => ?_⟩⟩
  rw [h.cell (1 + j), ql_get _ _ j hj, col8_get F j hj]

theorem isNaNQ_any (x : Int) (w : World) : Calls Try.prog 81 #[.int .i64 x] w fun e w' => e = .returned (.bool false) ∧ w' = w := by
  go_enter Try.func81, Try.ntmps81
  go_wp2
  go_ret
  exact ⟨ret_bool (by simp), rfl⟩
set_option maxRecDepth 100000 in
theorem compareQ_any (x y : Int) (w : World) : Calls Try.prog 80 #[.int .i64 x, .int .i64 y] w fun e w' => e = .returned (.int .i64 (cmpQ x y)) ∧ w' = w := by
  by_cases h : x < y
  · rw [show cmpQ x y = -1 by simp [cmpQ, h]]
    go_enter Try.func80, Try.ntmps80
    go_wp2_with (go_at_call 81; refine (isNaNQ_any _ _).mono ?_; rintro e w' ⟨rfl, rfl⟩)
    go_ret
    exact ⟨rfl, rfl⟩
  · by_cases h2 : y < x
    · rw [show cmpQ x y = 1 by simp [cmpQ, h, h2]]
      go_enter Try.func80, Try.ntmps80
      go_wp2_with (go_at_call 81; refine (isNaNQ_any _ _).mono ?_; rintro e w' ⟨rfl, rfl⟩)
      go_ret
      exact ⟨rfl, rfl⟩
    · rw [show cmpQ x y = 0 by simp [cmpQ, h, h2]]
      go_enter Try.func80, Try.ntmps80
      go_wp2_with (go_at_call 81; refine (isNaNQ_any _ _).mono ?_; rintro e w' ⟨rfl, rfl⟩)
      go_ret
      exact ⟨rfl, rfl⟩
theorem cmpL_drop (xs ys : List Int) (k : Nat) (hx : k < xs.length) (hy : k < ys.length) : cmpL (xs.drop k) (ys.drop k) = if xs.getD k 0 = ys.getD k 0 then cmpL (xs.drop (k + 1)) (ys.drop (k + 1)) else cmpQ (xs.getD k 0) (ys.getD k 0) := by
  rw [List.drop_eq_getElem_cons hx, List.drop_eq_getElem_cons hy, cmpL]
  simp only [List.getD, List.getElem?_eq_getElem hx, List.getElem?_eq_getElem hy, Option.getD_some]
theorem lessL_drop (xs ys : List Int) (k : Nat) (hx : k < xs.length) (hy : k < ys.length) : lessL (xs.drop k) (ys.drop k) = if xs.getD k 0 = ys.getD k 0 then lessL (xs.drop (k + 1)) (ys.drop (k + 1)) else decide (xs.getD k 0 < ys.getD k 0) := by
  rw [List.drop_eq_getElem_cons hx, List.drop_eq_getElem_cons hy, lessL]
  simp only [List.getD, List.getElem?_eq_getElem hx, List.getElem?_eq_getElem hy, Option.getD_some]
theorem cmpQ_ne (x y : Int) (h : x ≠ y) : cmpQ x y ≠ 0 := by
  unfold cmpQ
  split
  · decide
  · split
    · decide
    · omega
set_option maxRecDepth 100000 in
set_option maxHeartbeats 3200000 in
theorem compareS_any (n : Nat) (a a' : Option Addr) (p p' : Nat) (xs ys : List Int) (w : World) (hn : n ≤ 1048576) (hx : xs.length = n) (hy : ys.length = n) (h1 : Reads w a n xs) (h2 : Reads w a' n ys) :
    Calls Try.prog 77 #[.slice a n p, .slice a' n p'] w fun e w' => e = .returned (.int .i64 (cmpL xs ys)) ∧ w' = w := by
  have HX := Lib.hid hx
  have HY := Lib.hid hy
  have HD := Lib.hid (cmpL_drop xs ys)
  have HC := Lib.hid (fun x y W => compareQ_any x y W)
  obtain ⟨z, hz⟩ : ∃ z, z = cmpL xs ys := ⟨_, rfl⟩
  rw [← hz]
  have HZ := Lib.hid (show cmpL (xs.drop 0) (ys.drop 0) = z by rw [List.drop_zero, List.drop_zero, hz])
  clear hx hy hz
  go_enter Try.func77, Try.ntmps77
  go_wp2_with fail
  go_loop [11] (fun i => ∃ k : Nat, k ≤ n ∧ i = .int .i64 k ∧ Hid (cmpL (xs.drop k) (ys.drop k) = z)) (fun i => n - (intOf i).toNat)
  case atStart => exact ⟨0, Nat.zero_le _, rfl, HZ⟩
  case round =>
    clear HZ
    obtain ⟨k, hk, rfl, HE⟩ := hrel
    by_cases hlt : k < n
    · obtain ⟨b, off, rfl, _, hc⟩ := reads_row h1 (by omega)
      obtain ⟨b', off', rfl, _, hc'⟩ := reads_row h2 (by omega)
      have hck := hc k hlt
      have hck' := hc' k hlt
      have hd := HD.out k (by rw [HX.out]; exact hlt) (by rw [HY.out]; exact hlt)
      rw [HE.out] at hd
      clear hc hc'
      generalize xs.getD k 0 = x at *
      generalize ys.getD k 0 = y at *
      have HCC := Lib.hid (HC.out x y w)
      by_cases he : x = y
      · rw [if_pos he] at hd
        have HN := Lib.hid hd.symm
        subst he
        rw [show cmpQ x x = 0 by simp [cmpQ]] at HCC
        clear hd
        go_wp2_with (go_at_call 80; ((with_reducible refine HCC.out.mono ?_); rintro e wQ ⟨rfl, hw⟩; subst wQ))
        clear hck hck'
        go_round
        case rel => first | exact ⟨k + 1, by omega, by go_num, HN⟩ | ((repeat apply Exists.intro); exact ⟨⟨k + 1, by omega, by go_num, HN⟩, rfl⟩)
        case measure => simp [intOf]; omega
      · rw [if_neg he] at hd
        have hne := cmpQ_ne x y he
        have HZZ := Lib.hid hd
        generalize cmpQ x y = v at *
        have hv : (v != 0) = true := bne_iff_ne.2 hne
        clear hd he hne
        go_wp2_with (go_at_call 80; ((with_reducible refine HCC.out.mono ?_); rintro e wQ ⟨rfl, hw⟩; subst wQ))
        go_ret
        exact ⟨ret_int HZZ.out.symm, rfl⟩
    · obtain rfl : k = n := by omega
      have hE := HE.out
      rw [List.drop_eq_nil_of_le (by rw [HX.out]; exact Nat.le_refl _)] at hE
      have HZZ := Lib.hid (show (0 : Int) = z from hE)
      clear hE
      go_wp2_with fail
      go_ret
      exact ⟨ret_int HZZ.out, rfl⟩
set_option maxRecDepth 100000 in
set_option maxHeartbeats 3200000 in
theorem quLess_any (n : Nat) (a a' : Option Addr) (p p' : Nat) (xs ys : List Int) (w : World) (hn : n ≤ 1048576) (hx : xs.length = n) (hy : ys.length = n) (h1 : Reads w a n xs) (h2 : Reads w a' n ys) :
    Calls Try.prog 76 #[.slice a n p, .slice a' n p'] w fun e w' => e = .returned (.bool (lessL xs ys)) ∧ w = w' := by
  have HX := Lib.hid hx
  have HY := Lib.hid hy
  have HD := Lib.hid (lessL_drop xs ys)
  obtain ⟨z, hz⟩ : ∃ z, z = lessL xs ys := ⟨_, rfl⟩
  rw [← hz]
  have HZ := Lib.hid (show lessL (xs.drop 0) (ys.drop 0) = z by rw [List.drop_zero, List.drop_zero, hz])
  clear hx hy hz
  go_enter Try.func76, Try.ntmps76
  go_wp2_with fail
  go_loop [9] (fun i => ∃ k : Nat, k ≤ n ∧ i = .int .i64 k ∧ Hid (lessL (xs.drop k) (ys.drop k) = z)) (fun i => n - (intOf i).toNat)
  case atStart => exact ⟨0, Nat.zero_le _, rfl, HZ⟩
  case round =>
    clear HZ
    obtain ⟨k, hk, rfl, HE⟩ := hrel
    by_cases hlt : k < n
    · obtain ⟨b, off, rfl, _, hc⟩ := reads_row h1 (by omega)
      obtain ⟨b', off', rfl, _, hc'⟩ := reads_row h2 (by omega)
      have hck := hc k hlt
      have hck' := hc' k hlt
      have hd := HD.out k (by rw [HX.out]; exact hlt) (by rw [HY.out]; exact hlt)
      rw [HE.out] at hd
      clear hc hc'
      generalize xs.getD k 0 = x at *
      generalize ys.getD k 0 = y at *
      by_cases he : x = y
      · rw [if_pos he] at hd
        have HN := Lib.hid hd.symm
        subst he
        have hxx : (x != x) = false := by simp
        clear hd
        go_wp2_with fail
        clear hck hck'
        go_round
        case rel => first | exact ⟨k + 1, by omega, by go_num, HN⟩ | ((repeat apply Exists.intro); exact ⟨⟨k + 1, by omega, by go_num, HN⟩, rfl⟩)
        case measure => simp [intOf]; omega
      · rw [if_neg he] at hd
        have hxx : (x != y) = true := bne_iff_ne.2 he
        have HZZ := Lib.hid hd
        clear hd he
        go_wp2_with fail
        go_ret
        exact ⟨ret_bool HZZ.out.symm, rfl⟩
    · obtain rfl : k = n := by omega
      have hE := HE.out
      rw [List.drop_eq_nil_of_le (by rw [HX.out]; exact Nat.le_refl _)] at hE
      have HZZ := Lib.hid (show false = z from hE)
      clear hE
      go_wp2_with fail
      go_ret
      exact ⟨ret_bool HZZ.out, rfl⟩

/-- The lesser one; both lists behind a turn. -/
def pickL (o b : List Int) : List Int := if lessL o b then o else b
def stepQ (s : List Int × List Int) : List Int × List Int := (turnL s.1, pickL (mirL (turnL s.1)) (pickL (turnL s.1) s.2))
def iterQ (q : List Int) : Nat → List Int × List Int
  | 0 => (q, q)
  | k + 1 => stepQ (iterQ q k)
def leastL (q : List Int) : List Int := (iterQ q 4).2
theorem pickL_rg {n : Nat} {a b : List Int} (h1 : RgB n a) (h2 : RgB n b) : RgB n (pickL a b) := by
  unfold pickL
  split
  · exact h1
  · exact h2
theorem iterQ_rg {n : Nat} {q : List Int} (h : RgB n q) (hn : 1 ≤ n) (k : Nat) : RgB n (iterQ q k).1 ∧ RgB n (iterQ q k).2 := by
  induction k with
  | zero => exact ⟨h, h⟩
  | succ k ih =>
    have h1 := turnL_rg ih.1 hn
    exact ⟨h1, pickL_rg (mirL_rg h1) (pickL_rg h1 ih.2)⟩
theorem leastL_rg {n : Nat} {q : List Int} (h : RgB n q) (hn : 1 ≤ n) : RgB n (leastL q) := (iterQ_rg h hn 4).2
def leaR (q : List Int) : LR := if gdB q then ⟨leastL q, true⟩ else ⟨[], false⟩
theorem leaR_len (q : List Int) : (leaR q).ys.length ≤ 1048576 := by
  unfold leaR
  cases h : gdB q
  · simp
  · have h1 := (leastL_rg (gd_rg h) (gd_facts h).1).1
    have := (gd_facts h).2.1
    simp only [if_true, h1]
    omega
set_option maxRecDepth 100000 in
set_option maxHeartbeats 6400000 in
theorem quLeast_any (n : Nat) (q : List Int) (w : World) (h : RgB n q) (hn : 1 ≤ n) (h8 : n ≤ 8) (lo : Nat) (s : Value) (hO : Own w lo s q) :
    Calls Try.prog 63 #[s] w fun e w' => ∃ v, e = .returned v ∧ Own w' w.heap.size v (leastL q) ∧ Below w.heap.size w w' := by
  obtain ⟨a, cap, rfl, hr, hcap⟩ := own_form hO
  have HC := Lib.hid (l1Own_any q w (by rw [h.1]; omega) _ hO.src)
  have HRG := Lib.hid (fun k => iterQ_rg h hn k)
  have HIT := Lib.hid (fun k => show iterQ q (k + 1) = (turnL (iterQ q k).1, pickL (mirL (turnL (iterQ q k).1)) (pickL (turnL (iterQ q k).1) (iterQ q k).2)) from rfl)
  have HQ := Lib.hid (show Own w lo (.slice a n cap) (iterQ q 0).1 by rw [← h.1]; exact hO)
  have HLQ := Lib.hid (show leastL q = (iterQ q 4).2 from rfl)
  have HI0 := Lib.hid (show (iterQ q 0).2 = q from rfl)
  rw [h.1] at HC ⊢
  rw [HLQ.out]
  clear hO h hr hcap
  go_enter Try.func63, Try.ntmps63
  go_wp2_with fail
  refine HC.out.mono ?_
  rintro e w2 ⟨v, rfl, hO, hb⟩
  have HB := Lib.hid hb
  have HO := Lib.hid (show Own w2 w.heap.size v (iterQ q 0).2 by rw [HI0.out]; exact hO)
  clear hO hb HC
  go_wp2_with fail
  go_loopw [0, 3, 4, 5] (fun sq sb i _ wr => ∃ (k lo2 : Nat), k ≤ 4 ∧ i = .int .i64 k ∧ Hid (Own wr lo2 sq (iterQ q k).1) ∧ Hid (Own wr w.heap.size sb (iterQ q k).2) ∧ Hid (Below w.heap.size w wr)) (fun _ _ i _ _ => 4 - (intOf i).toNat)
  case atStart => exact ⟨0, lo, Nat.zero_le _, rfl, Lib.hid (HQ.out.kept HB.out), HO, HB⟩
  case round =>
    clear HB HO HQ
    obtain ⟨k, lo2, hk, rfl, HQ, HO, HB⟩ := hrel
    obtain ⟨wo, rfl⟩ : ∃ wo : World, wo = wr := ⟨_, rfl⟩
    by_cases hlt : k < 4
    · obtain ⟨⟨q1l, q1r⟩, ⟨b1l, b1r⟩⟩ := HRG.out k
      obtain ⟨aq, cq, rfl, hrq, _⟩ := own_form HQ.out
      obtain ⟨ab, cb, rfl, hrb, _⟩ := own_form HO.out
      have hit := HIT.out k
      have hT := quTurn_any n aq cq (iterQ q k).1 wo ⟨q1l, q1r⟩ hn h8 hrq
      have hrg1 := turnL_rg ⟨q1l, q1r⟩ hn
      have hOB := HO.out
      obtain ⟨Q1, hQ1⟩ : ∃ Q1, Q1 = turnL (iterQ q k).1 := ⟨_, rfl⟩
      rw [← hQ1] at hT hit hrg1
      rw [q1l] at hT ⊢
      have HT := Lib.hid hT
      obtain ⟨B, hBB⟩ : ∃ B, B = (iterQ q k).2 := ⟨_, rfl⟩
      rw [← hBB] at hit hOB b1l b1r hrb ⊢
      rw [b1l] at hOB hrb ⊢
      have HIT1 := Lib.hid hit
      have HOB := Lib.hid hOB
      have HRG1 := Lib.hid hrg1
      have HB1 := Lib.hid b1l
      clear hT hit hOB hQ1 hBB q1l q1r b1r hrq HQ HO hrg1 b1l
      go_wp2_with fail
      refine HT.out.mono ?_
      rintro e w3 ⟨v1, rfl, hO1, hb1⟩
      obtain ⟨a1, c1, rfl, hr1, _⟩ := own_form hO1
      rw [HRG1.out.1] at hr1 hO1 ⊢
      have hL1 := quLess_any n a1 ab c1 cb Q1 B w3 (by omega) HRG1.out.1 HB1.out hr1 (hrb.kept hb1)
      have hM := quMirror_any n a1 c1 Q1 w3 HRG1.out h8 (by rw [HRG1.out.1]; exact hr1)
      rw [HRG1.out.1] at hM
      have HM := Lib.hid hM
      have HBW := Lib.hid (below_on HB.out hb1)
      have HO1 := Lib.hid (hO1.lower HB.out.size)
      have HOB1 := Lib.hid (HOB.out.kept hb1)
      have HRB := Lib.hid (hrb.kept hb1)
      have HR1 := Lib.hid hr1
      clear hb1 hO1 hr1 hM HT HB hrb HOB
      cases hl1 : lessL Q1 B
      · have hp1 : pickL Q1 B = B := by unfold pickL; rw [hl1]; rfl
        rw [hp1] at HIT1
        rw [hl1] at hL1
        have HL1 := Lib.hid hL1
        clear hl1 hp1 hL1
        go_wp2_with (go_at_call 76; ((with_reducible refine HL1.out.mono ?_); rintro e wQ ⟨rfl, hw⟩; subst wQ))
        refine HM.out.mono ?_
        rintro e w4 ⟨v2, rfl, hO2, hb2⟩
        obtain ⟨a2, c2, rfl, hr2, _⟩ := own_form hO2
        have hml := (mirL_rg HRG1.out).1
        rw [hml] at hr2 hO2 ⊢
        have hL2 := quLess_any n a2 ab c2 cb (mirL Q1) B w4 (by omega) hml HB1.out hr2 (HRB.out.kept hb2)
        have HBW2 := Lib.hid (below_on HBW.out hb2)
        have HO2 := Lib.hid (hO2.lower HBW.out.size)
        have HO1K := Lib.hid (HO1.out.kept hb2)
        have HOBK := Lib.hid (HOB1.out.kept hb2)
        clear hO2 hb2 hr2 HM HL1
        cases hl2 : lessL (mirL Q1) B
        · have HN := Lib.hid (show iterQ q (k + 1) = (Q1, B) by rw [HIT1.out]; unfold pickL; rw [hl2]; rfl)
          rw [hl2] at hL2
          have HL2 := Lib.hid hL2
          clear hl2 hL2 hml
          go_wp2_with (go_at_call 76; ((with_reducible refine HL2.out.mono ?_); rintro e wQ ⟨rfl, hw⟩; subst wQ))
          go_roundw
          case rel => first | exact ⟨k + 1, w.heap.size, by omega, by go_num, by rw [HN.out]; exact HO1K, by rw [HN.out]; exact HOBK, HBW2⟩ | ((repeat apply Exists.intro); exact ⟨⟨k + 1, w.heap.size, by omega, by go_num, by rw [HN.out]; exact HO1K, by rw [HN.out]; exact HOBK, HBW2⟩, rfl⟩)
          case measure => simp [intOf]; omega
        · have HN := Lib.hid (show iterQ q (k + 1) = (Q1, mirL Q1) by rw [HIT1.out]; unfold pickL; rw [hl2]; rfl)
          rw [hl2] at hL2
          have HL2 := Lib.hid hL2
          clear hl2 hL2 hml
          go_wp2_with (go_at_call 76; ((with_reducible refine HL2.out.mono ?_); rintro e wQ ⟨rfl, hw⟩; subst wQ))
          go_roundw
          case rel => first | exact ⟨k + 1, w.heap.size, by omega, by go_num, by rw [HN.out]; exact HO1K, by rw [HN.out]; exact HO2, HBW2⟩ | ((repeat apply Exists.intro); exact ⟨⟨k + 1, w.heap.size, by omega, by go_num, by rw [HN.out]; exact HO1K, by rw [HN.out]; exact HO2, HBW2⟩, rfl⟩)
          case measure => simp [intOf]; omega
      · have hp1 : pickL Q1 B = Q1 := by unfold pickL; rw [hl1]; rfl
        rw [hp1] at HIT1
        rw [hl1] at hL1
        have HL1 := Lib.hid hL1
        clear hl1 hp1 hL1
        go_wp2_with (go_at_call 76; ((with_reducible refine HL1.out.mono ?_); rintro e wQ ⟨rfl, hw⟩; subst wQ))
        refine HM.out.mono ?_
        rintro e w4 ⟨v2, rfl, hO2, hb2⟩
        obtain ⟨a2, c2, rfl, hr2, _⟩ := own_form hO2
        have hml := (mirL_rg HRG1.out).1
        rw [hml] at hr2 hO2 ⊢
        have hL2 := quLess_any n a2 a1 c2 c1 (mirL Q1) Q1 w4 (by omega) hml HRG1.out.1 hr2 (HR1.out.kept hb2)
        have HBW2 := Lib.hid (below_on HBW.out hb2)
        have HO2 := Lib.hid (hO2.lower HBW.out.size)
        have HO1K := Lib.hid (HO1.out.kept hb2)
        have HOBK := Lib.hid (HO1.out.kept hb2)
        clear hO2 hb2 hr2 HM HL1
        cases hl2 : lessL (mirL Q1) Q1
        · have HN := Lib.hid (show iterQ q (k + 1) = (Q1, Q1) by rw [HIT1.out]; unfold pickL; rw [hl2]; rfl)
          rw [hl2] at hL2
          have HL2 := Lib.hid hL2
          clear hl2 hL2 hml
          go_wp2_with (go_at_call 76; ((with_reducible refine HL2.out.mono ?_); rintro e wQ ⟨rfl, hw⟩; subst wQ))
          go_roundw
          case rel => first | exact ⟨k + 1, w.heap.size, by omega, by go_num, by rw [HN.out]; exact HO1K, by rw [HN.out]; exact HOBK, HBW2⟩ | ((repeat apply Exists.intro); exact ⟨⟨k + 1, w.heap.size, by omega, by go_num, by rw [HN.out]; exact HO1K, by rw [HN.out]; exact HOBK, HBW2⟩, rfl⟩)
          case measure => simp [intOf]; omega
        · have HN := Lib.hid (show iterQ q (k + 1) = (Q1, mirL Q1) by rw [HIT1.out]; unfold pickL; rw [hl2]; rfl)
          rw [hl2] at hL2
          have HL2 := Lib.hid hL2
          clear hl2 hL2 hml
          go_wp2_with (go_at_call 76; ((with_reducible refine HL2.out.mono ?_); rintro e wQ ⟨rfl, hw⟩; subst wQ))
          go_roundw
          case rel => first | exact ⟨k + 1, w.heap.size, by omega, by go_num, by rw [HN.out]; exact HO1K, by rw [HN.out]; exact HO2, HBW2⟩ | ((repeat apply Exists.intro); exact ⟨⟨k + 1, w.heap.size, by omega, by go_num, by rw [HN.out]; exact HO1K, by rw [HN.out]; exact HO2, HBW2⟩, rfl⟩)
          case measure => simp [intOf]; omega
    · obtain rfl : k = 4 := by omega
      go_wp2_with fail
      go_ret
      exact ⟨_, rfl, HO.out, HB.out⟩

set_option maxRecDepth 100000 in
set_option maxHeartbeats 3200000 in
theorem specLea_any (xs : List Int) (w : World) (hx : xs.length ≤ 1048576) (lo : Nat) (s : Value) (hO : Own w lo s xs) :
    Calls Try.prog 44 #[s] w fun e w' => AnsL (leaR xs) w e w' := by
  obtain ⟨a, cap, hs, hr, hcap⟩ := own_form hO
  have HG := Lib.hid (quGood_any a cap xs w hx hcap hr)
  rw [← hs] at HG
  cases hg : gdB xs
  · rw [show leaR xs = ⟨[], false⟩ by simp [leaR, hg]]
    rw [hg] at HG
    subst hs
    clear hg hr hO hcap
    generalize xs.length = m at *
    go_enter Try.func44, Try.ntmps44
    go_wp2_with (go_at_call 46; ((with_reducible refine HG.out.mono ?_); rintro e w' ⟨rfl, rfl⟩))
    go_ret2
    exact ⟨_, rfl, Own.nil _ _, Below.refl _ _⟩
  · rw [show leaR xs = ⟨leastL xs, true⟩ by simp [leaR, hg]]
    have HC := Lib.hid (quLeast_any xs.length xs w (gd_rg hg) (gd_facts hg).1 (gd_facts hg).2.1 lo s hO)
    rw [hg] at HG
    subst hs
    clear hg hr hO hcap
    generalize leastL xs = S at *
    generalize xs.length = m at *
    go_enter Try.func44, Try.ntmps44
    go_wp2_with (first | (go_at_call 46; ((with_reducible refine HG.out.mono ?_); rintro e w' ⟨rfl, rfl⟩)) | fail)
    refine HC.out.mono ?_
    rintro e w2 ⟨v, rfl, hO, hb⟩
    have HO := Lib.hid hO
    have HB := Lib.hid hb
    clear hO hb HC
    go_wp2_with fail
    go_ret2
    exact ⟨_, rfl, HO.out, HB.out⟩

end Go.Proofs.Ytmhlpaenfknofaa
