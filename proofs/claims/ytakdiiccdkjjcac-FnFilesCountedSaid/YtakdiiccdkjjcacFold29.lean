import Derived.Test.YtakdiiccdkjjcacFold28
import Derived.Test.YtakdiiccdkjjcacFold5

section
namespace Go.Proofs.Ytakdiiccdkjjcac
open Go.RowKit Go.WideShapes

theorem row3_own {w0 w : World} {ts : List Thing} (x0 x1 x2 : Int) (L : Law w0 ts w) : Law w0 (tOwn (.slice (some ⟨w.heap.size, 0, none⟩) 3 3) [x0, x1, x2] :: ts) (w.alloc (.cells #[.int .i64 x0, .int .i64 x1, .int .i64 x2] 3)) :=
  L.own (below_new _) (own_of_has (lo := w.heap.size) (xs := [x0, x1, x2]) (Has.new w [.int .i64 x0, .int .i64 x1, .int .i64 x2] 3) (Nat.le_refl _) rfl (by show 3 ≤ maxLen; unfold maxLen; omega))
theorem row3_ownA {w0 w : World} {ts ts' : List Thing} (x0 x1 x2 : Int) (L : Law w0 (ts ++ ts') w) : Law w0 ((tOwn (.slice (some ⟨w.heap.size, 0, none⟩) 3 3) [x0, x1, x2] :: ts) ++ ts') (w.alloc (.cells #[.int .i64 x0, .int .i64 x1, .int .i64 x2] 3)) := row3_own x0 x1 x2 L
theorem row3_b {w0 w : World} {bc n p K b0 : Nat} {a : Option Addr} {x0 x1 x2 : Int} {ts ts' : List Thing} (hs : Src0 w0 bc a n) (hK : K ≤ 1000000000) (L : Law w0 ((tOwn (.slice (some ⟨b0, 0, none⟩) 3 3) [x0, x1, x2] :: ts) ++ tCur bc a n p K :: ts') w) :
    Calls Try.prog 73 #[.pointer (some ⟨bc, 0, none⟩), .slice (some ⟨b0, 0, none⟩) 3 3] w fun e w' => ∃ x : Int, e = .returned (.int .i64 x) ∧ x ∈ [x0, x1, x2] ∧ Law w0 (ts ++ tCur bc a n p (K + 2) :: ts') w' := by
  have hz : Reads w (some ⟨b0, 0, none⟩) 3 [x0, x1, x2] := by
    obtain ⟨a', q, e, h⟩ := L.ownInts.reads
    cases e
    exact h
  have hne : b0 ≠ bc := fun e => (List.pairwise_cons.1 L.dis).1 (tCur bc a n p K) (by simp) b0 rfl e
  refine (among_law (ts := tOwn (.slice (some ⟨b0, 0, none⟩) 3 3) [x0, x1, x2] :: ts) hs (by omega) hne hz hK L).mono ?_
  rintro e w' ⟨x, rfl, hx, L2⟩
  exact ⟨x, rfl, hx, L2.tl⟩
theorem row3_law {w0 w : World} {bc n p K : Nat} {a : Option Addr} {x0 x1 x2 : Int} {ts ts' : List Thing} (hs : Src0 w0 bc a n) (hK : K ≤ 1000000000) (L : Law w0 (ts ++ tCur bc a n p K :: ts') w) :
    Calls Try.prog 73 #[.pointer (some ⟨bc, 0, none⟩), .slice (some ⟨w.heap.size, 0, none⟩) 3 3] (w.alloc (.cells #[.int .i64 x0, .int .i64 x1, .int .i64 x2] 3)) fun e w' => ∃ x : Int, e = .returned (.int .i64 x) ∧ x ∈ [x0, x1, x2] ∧ Law w0 (ts ++ tCur bc a n p (K + 2) :: ts') w' :=
  row3_b hs hK (row3_own x0 x1 x2 L)
theorem row4_own {w0 w : World} {ts : List Thing} (x0 x1 x2 x3 : Int) (L : Law w0 ts w) : Law w0 (tOwn (.slice (some ⟨w.heap.size, 0, none⟩) 4 4) [x0, x1, x2, x3] :: ts) (w.alloc (.cells #[.int .i64 x0, .int .i64 x1, .int .i64 x2, .int .i64 x3] 3)) :=
  L.own (below_new _) (own_of_has (lo := w.heap.size) (xs := [x0, x1, x2, x3]) (Has.new w [.int .i64 x0, .int .i64 x1, .int .i64 x2, .int .i64 x3] 3) (Nat.le_refl _) rfl (by show 4 ≤ maxLen; unfold maxLen; omega))
theorem row4_ownA {w0 w : World} {ts ts' : List Thing} (x0 x1 x2 x3 : Int) (L : Law w0 (ts ++ ts') w) : Law w0 ((tOwn (.slice (some ⟨w.heap.size, 0, none⟩) 4 4) [x0, x1, x2, x3] :: ts) ++ ts') (w.alloc (.cells #[.int .i64 x0, .int .i64 x1, .int .i64 x2, .int .i64 x3] 3)) := row4_own x0 x1 x2 x3 L
theorem row4_b {w0 w : World} {bc n p K b0 : Nat} {a : Option Addr} {x0 x1 x2 x3 : Int} {ts ts' : List Thing} (hs : Src0 w0 bc a n) (hK : K ≤ 1000000000) (L : Law w0 ((tOwn (.slice (some ⟨b0, 0, none⟩) 4 4) [x0, x1, x2, x3] :: ts) ++ tCur bc a n p K :: ts') w) :
    Calls Try.prog 73 #[.pointer (some ⟨bc, 0, none⟩), .slice (some ⟨b0, 0, none⟩) 4 4] w fun e w' => ∃ x : Int, e = .returned (.int .i64 x) ∧ x ∈ [x0, x1, x2, x3] ∧ Law w0 (ts ++ tCur bc a n p (K + 2) :: ts') w' := by
  have hz : Reads w (some ⟨b0, 0, none⟩) 4 [x0, x1, x2, x3] := by
    obtain ⟨a', q, e, h⟩ := L.ownInts.reads
    cases e
    exact h
  have hne : b0 ≠ bc := fun e => (List.pairwise_cons.1 L.dis).1 (tCur bc a n p K) (by simp) b0 rfl e
  refine (among_law (ts := tOwn (.slice (some ⟨b0, 0, none⟩) 4 4) [x0, x1, x2, x3] :: ts) hs (by omega) hne hz hK L).mono ?_
  rintro e w' ⟨x, rfl, hx, L2⟩
  exact ⟨x, rfl, hx, L2.tl⟩
theorem row4_law {w0 w : World} {bc n p K : Nat} {a : Option Addr} {x0 x1 x2 x3 : Int} {ts ts' : List Thing} (hs : Src0 w0 bc a n) (hK : K ≤ 1000000000) (L : Law w0 (ts ++ tCur bc a n p K :: ts') w) :
    Calls Try.prog 73 #[.pointer (some ⟨bc, 0, none⟩), .slice (some ⟨w.heap.size, 0, none⟩) 4 4] (w.alloc (.cells #[.int .i64 x0, .int .i64 x1, .int .i64 x2, .int .i64 x3] 3)) fun e w' => ∃ x : Int, e = .returned (.int .i64 x) ∧ x ∈ [x0, x1, x2, x3] ∧ Law w0 (ts ++ tCur bc a n p (K + 2) :: ts') w' :=
  row4_b hs hK (row4_own x0 x1 x2 x3 L)
theorem row5_own {w0 w : World} {ts : List Thing} (x0 x1 x2 x3 x4 : Int) (L : Law w0 ts w) : Law w0 (tOwn (.slice (some ⟨w.heap.size, 0, none⟩) 5 5) [x0, x1, x2, x3, x4] :: ts) (w.alloc (.cells #[.int .i64 x0, .int .i64 x1, .int .i64 x2, .int .i64 x3, .int .i64 x4] 3)) :=
  L.own (below_new _) (own_of_has (lo := w.heap.size) (xs := [x0, x1, x2, x3, x4]) (Has.new w [.int .i64 x0, .int .i64 x1, .int .i64 x2, .int .i64 x3, .int .i64 x4] 3) (Nat.le_refl _) rfl (by show 5 ≤ maxLen; unfold maxLen; omega))
theorem row5_ownA {w0 w : World} {ts ts' : List Thing} (x0 x1 x2 x3 x4 : Int) (L : Law w0 (ts ++ ts') w) : Law w0 ((tOwn (.slice (some ⟨w.heap.size, 0, none⟩) 5 5) [x0, x1, x2, x3, x4] :: ts) ++ ts') (w.alloc (.cells #[.int .i64 x0, .int .i64 x1, .int .i64 x2, .int .i64 x3, .int .i64 x4] 3)) := row5_own x0 x1 x2 x3 x4 L
theorem row5_b {w0 w : World} {bc n p K b0 : Nat} {a : Option Addr} {x0 x1 x2 x3 x4 : Int} {ts ts' : List Thing} (hs : Src0 w0 bc a n) (hK : K ≤ 1000000000) (L : Law w0 ((tOwn (.slice (some ⟨b0, 0, none⟩) 5 5) [x0, x1, x2, x3, x4] :: ts) ++ tCur bc a n p K :: ts') w) :
    Calls Try.prog 73 #[.pointer (some ⟨bc, 0, none⟩), .slice (some ⟨b0, 0, none⟩) 5 5] w fun e w' => ∃ x : Int, e = .returned (.int .i64 x) ∧ x ∈ [x0, x1, x2, x3, x4] ∧ Law w0 (ts ++ tCur bc a n p (K + 2) :: ts') w' := by
  have hz : Reads w (some ⟨b0, 0, none⟩) 5 [x0, x1, x2, x3, x4] := by
    obtain ⟨a', q, e, h⟩ := L.ownInts.reads
    cases e
    exact h
  have hne : b0 ≠ bc := fun e => (List.pairwise_cons.1 L.dis).1 (tCur bc a n p K) (by simp) b0 rfl e
  refine (among_law (ts := tOwn (.slice (some ⟨b0, 0, none⟩) 5 5) [x0, x1, x2, x3, x4] :: ts) hs (by omega) hne hz hK L).mono ?_
  rintro e w' ⟨x, rfl, hx, L2⟩
  exact ⟨x, rfl, hx, L2.tl⟩
theorem row5_law {w0 w : World} {bc n p K : Nat} {a : Option Addr} {x0 x1 x2 x3 x4 : Int} {ts ts' : List Thing} (hs : Src0 w0 bc a n) (hK : K ≤ 1000000000) (L : Law w0 (ts ++ tCur bc a n p K :: ts') w) :
    Calls Try.prog 73 #[.pointer (some ⟨bc, 0, none⟩), .slice (some ⟨w.heap.size, 0, none⟩) 5 5] (w.alloc (.cells #[.int .i64 x0, .int .i64 x1, .int .i64 x2, .int .i64 x3, .int .i64 x4] 3)) fun e w' => ∃ x : Int, e = .returned (.int .i64 x) ∧ x ∈ [x0, x1, x2, x3, x4] ∧ Law w0 (ts ++ tCur bc a n p (K + 2) :: ts') w' :=
  row5_b hs hK (row5_own x0 x1 x2 x3 x4 L)
theorem row9_own {w0 w : World} {ts : List Thing} (x0 x1 x2 x3 x4 x5 x6 x7 x8 : Int) (L : Law w0 ts w) : Law w0 (tOwn (.slice (some ⟨w.heap.size, 0, none⟩) 9 9) [x0, x1, x2, x3, x4, x5, x6, x7, x8] :: ts) (w.alloc (.cells #[.int .i64 x0, .int .i64 x1, .int .i64 x2, .int .i64 x3, .int .i64 x4, .int .i64 x5, .int .i64 x6, .int .i64 x7, .int .i64 x8] 3)) :=
  L.own (below_new _) (own_of_has (lo := w.heap.size) (xs := [x0, x1, x2, x3, x4, x5, x6, x7, x8]) (Has.new w [.int .i64 x0, .int .i64 x1, .int .i64 x2, .int .i64 x3, .int .i64 x4, .int .i64 x5, .int .i64 x6, .int .i64 x7, .int .i64 x8] 3) (Nat.le_refl _) rfl (by show 9 ≤ maxLen; unfold maxLen; omega))
theorem row9_ownA {w0 w : World} {ts ts' : List Thing} (x0 x1 x2 x3 x4 x5 x6 x7 x8 : Int) (L : Law w0 (ts ++ ts') w) : Law w0 ((tOwn (.slice (some ⟨w.heap.size, 0, none⟩) 9 9) [x0, x1, x2, x3, x4, x5, x6, x7, x8] :: ts) ++ ts') (w.alloc (.cells #[.int .i64 x0, .int .i64 x1, .int .i64 x2, .int .i64 x3, .int .i64 x4, .int .i64 x5, .int .i64 x6, .int .i64 x7, .int .i64 x8] 3)) := row9_own x0 x1 x2 x3 x4 x5 x6 x7 x8 L
theorem row9_b {w0 w : World} {bc n p K b0 : Nat} {a : Option Addr} {x0 x1 x2 x3 x4 x5 x6 x7 x8 : Int} {ts ts' : List Thing} (hs : Src0 w0 bc a n) (hK : K ≤ 1000000000) (L : Law w0 ((tOwn (.slice (some ⟨b0, 0, none⟩) 9 9) [x0, x1, x2, x3, x4, x5, x6, x7, x8] :: ts) ++ tCur bc a n p K :: ts') w) :
    Calls Try.prog 73 #[.pointer (some ⟨bc, 0, none⟩), .slice (some ⟨b0, 0, none⟩) 9 9] w fun e w' => ∃ x : Int, e = .returned (.int .i64 x) ∧ x ∈ [x0, x1, x2, x3, x4, x5, x6, x7, x8] ∧ Law w0 (ts ++ tCur bc a n p (K + 2) :: ts') w' := by
  have hz : Reads w (some ⟨b0, 0, none⟩) 9 [x0, x1, x2, x3, x4, x5, x6, x7, x8] := by
    obtain ⟨a', q, e, h⟩ := L.ownInts.reads
    cases e
    exact h
  have hne : b0 ≠ bc := fun e => (List.pairwise_cons.1 L.dis).1 (tCur bc a n p K) (by simp) b0 rfl e
  refine (among_law (ts := tOwn (.slice (some ⟨b0, 0, none⟩) 9 9) [x0, x1, x2, x3, x4, x5, x6, x7, x8] :: ts) hs (by omega) hne hz hK L).mono ?_
  rintro e w' ⟨x, rfl, hx, L2⟩
  exact ⟨x, rfl, hx, L2.tl⟩
theorem row9_law {w0 w : World} {bc n p K : Nat} {a : Option Addr} {x0 x1 x2 x3 x4 x5 x6 x7 x8 : Int} {ts ts' : List Thing} (hs : Src0 w0 bc a n) (hK : K ≤ 1000000000) (L : Law w0 (ts ++ tCur bc a n p K :: ts') w) :
    Calls Try.prog 73 #[.pointer (some ⟨bc, 0, none⟩), .slice (some ⟨w.heap.size, 0, none⟩) 9 9] (w.alloc (.cells #[.int .i64 x0, .int .i64 x1, .int .i64 x2, .int .i64 x3, .int .i64 x4, .int .i64 x5, .int .i64 x6, .int .i64 x7, .int .i64 x8] 3)) fun e w' => ∃ x : Int, e = .returned (.int .i64 x) ∧ x ∈ [x0, x1, x2, x3, x4, x5, x6, x7, x8] ∧ Law w0 (ts ++ tCur bc a n p (K + 2) :: ts') w' :=
  row9_b hs hK (row9_own x0 x1 x2 x3 x4 x5 x6 x7 x8 L)

theorem pick_nat {q x : Nat} (h : (q : Int) < x ∨ (q : Int) = 0) (h1 : 1 ≤ x) : q < x ∧ (0 : Int) ≤ q ∧ (q : Int) < x := by omega
theorem p3 (a b c : Thing) (ts : List Thing) : (a :: b :: c :: ts).Perm (c :: a :: b :: ts) := by
  have h1 : (a :: b :: c :: ts).Perm (a :: c :: b :: ts) := List.Perm.cons _ (List.Perm.swap ..)
  exact h1.trans (List.Perm.swap ..)
set_option maxRecDepth 100000 in
set_option maxHeartbeats 6400000 in
theorem board_law {w0 w : World} {bc n p K : Nat} {a : Option Addr} {ts : List Thing} (hs : Src0 w0 bc a n) (hK : K ≤ 1000000) (L : Law w0 (tCur bc a n p K :: ts) w) :
    Calls Try.prog 72 #[.pointer (some ⟨bc, 0, none⟩)] w fun e w' => ∃ (r c : Int) (g len cap : Nat) (xs : List Int), e = .returned (.agg #[.int .i64 r, .int .i64 c, .slice (some ⟨g, 0, none⟩) len cap]) ∧ xs.length = len ∧ 1 ≤ len ∧ len ≤ 7 ∧ Law w0 (tOwn (.slice (some ⟨g, 0, none⟩) len cap) xs :: tCur bc a n p (K + 50) :: ts) w' := by
  have HS := Lib.hid hs
  have L0 := Law.perm (L.has [.int .i64 0, .int .i64 0, .slice none 0 0] 28) (List.Perm.swap (tCur bc a n p K) (tHas w.heap.size [.int .i64 0, .int .i64 0, .slice none 0 0] 28) ts)
  have HL := Lib.hid L0
  have hbcw : bc < w.heap.size := (Law.cur L).choose_spec.choose_spec.1.lt
  clear hs L L0
  go_enter Try.func72, Try.ntmps72
  go_wp2_with fail
  refine (sides_law HS.out (ts := []) (by omega) HL.out).mono ?_
  rintro e w1 ⟨x, hx1, hx2, rfl, L⟩
  have HL1 := Lib.hid L
  clear HL L
  go_wp2_with fail
  refine (sides_law HS.out (ts := []) (by omega) HL1.out).mono ?_
  rintro e w2 ⟨y, hy1, hy2, rfl, L⟩
  have HL2 := Lib.hid L
  clear HL1 L
  go_wp2_with fail
  refine (boardOf_law HS.out (by omega) x y ⟨hx1, hx2⟩ ⟨hy1, hy2⟩ HL2.out).mono ?_
  rintro e w3 ⟨g, cap, xs, rfl, hxs, L⟩
  have HXS := Lib.hid hxs
  have L3 := L.has [.int .i64 x, .int .i64 y, .slice (some ⟨g, 0, none⟩) x cap] 28
  have HX := Lib.hid L3
  clear HL2 hxs L L3
  go_upto_region 2 with fail
  generalize w3.alloc _ = w4 at *
  obtain ⟨bb, hbb⟩ : ∃ bb, bb = w3.heap.size := ⟨_, rfl⟩
  rw [← hbb] at HX ⊢
  clear hbb
  go_wp2_with fail
  refine (pick_law HS.out (ts := [_, _]) 18 (by omega) (by omega) HX.out).mono ?_
  rintro e w5 ⟨v, v0, v1, rfl, L⟩
  clear HX
  have HX := Lib.hid L
  clear L
  have hw : IntKind.i64.wrap ((x : Int) + 1) = x + 1 := IntWalk.i64_in _ (by omega)
  by_cases e0 : v = 0
  · subst e0
    have ⟨m0, m1, m2, _⟩ := (Law.ownHas HX.out).three
    go_wp2_with fail
    refine (row4_law HS.out (ts := [_, _]) (by omega) HX.out).mono ?_
    rintro e w6 ⟨z, rfl, _, L⟩
    clear m0 m1 m2 HX
    have HX := Lib.hid L
    clear L
    have ⟨m0, m1, m2, _⟩ := (Law.ownHas HX.out).three
    have hH : Has w6 w.heap.size [.int .i64 0, .int .i64 0, .slice none 0 0] 28 := (Law.tl (Law.tl (Law.tl HX.out))).ownHas
    have ⟨r0, r1, r2, _⟩ := hH.three
    have hbr : bb ≠ w.heap.size := fun e => (List.pairwise_cons.1 HX.out.dis).1 (tHas w.heap.size [.int .i64 0, .int .i64 0, .slice none 0 0] 28) (by simp) bb rfl e
    have hrb : w.heap.size ≠ bb := fun e => hbr e.symm
    clear hH
    have L0 : Law w0 ([tHas bb [.int .i64 (z), .int .i64 (y), .slice (some ⟨g, 0, none⟩) x cap] 28, tOwn (.slice (some ⟨g, 0, none⟩) x cap) xs, tCur bc a n p (K + 4 + 4 + 36 + 2 + 2)] ++ tHas w.heap.size [.int .i64 0, .int .i64 0, .slice none 0 0] 28 :: ts) (w6.setCell ⟨bb, 0, none⟩ (.int .i64 z)) := Law.setHas (ts := []) HX.out 0 (.int .i64 z)
    have L1 := Law.setHas L0 0 (.int .i64 (z))
    have L2 := Law.setHas L1 1 (.int .i64 (y))
    have L3 := Law.setHas L2 2 (.slice (some ⟨g, 0, none⟩) x cap)
    have L4 : Law w0 ([tOwn (.slice (some ⟨g, 0, none⟩) x cap) xs] ++ tCur bc a n p (K + 4 + 4 + 36 + 2 + 2) :: ts) _ := (Law.perm (Law.tl L3) (p3 _ _ _ _)).tl
    have HF := Lib.hid (Law.drawn (ts := [_]) L4 (Chg.refl _ _) ((Law.cur L4.tl).more (show K + 4 + 4 + 36 + 2 + 2 ≤ K + 50 by omega)))
    clear L0 L1 L2 L3 L4 HX
    go_wp2_with fail
    exact bodyPost_ret (v := .agg #[.int .i64 (z), .int .i64 (y), .slice (some ⟨g, 0, none⟩) x cap]) (by simp [results, Try.results72, go_sem, r0, r1, r2]) rfl ⟨z, y, g, x, cap, xs, rfl, HXS.out, by omega, by omega, HF.out⟩
  by_cases e1 : v = 1
  · clear e0
    subst e1
    have ⟨m0, m1, m2, _⟩ := (Law.ownHas HX.out).three
    go_wp2_with fail
    refine (row4_law HS.out (ts := [_, _]) (by omega) HX.out).mono ?_
    rintro e w6 ⟨z, rfl, _, L⟩
    clear m0 m1 m2 HX
    have HX := Lib.hid L
    clear L
    have ⟨m0, m1, m2, _⟩ := (Law.ownHas HX.out).three
    have hH : Has w6 w.heap.size [.int .i64 0, .int .i64 0, .slice none 0 0] 28 := (Law.tl (Law.tl (Law.tl HX.out))).ownHas
    have ⟨r0, r1, r2, _⟩ := hH.three
    have hbr : bb ≠ w.heap.size := fun e => (List.pairwise_cons.1 HX.out.dis).1 (tHas w.heap.size [.int .i64 0, .int .i64 0, .slice none 0 0] 28) (by simp) bb rfl e
    have hrb : w.heap.size ≠ bb := fun e => hbr e.symm
    clear hH
    have L0 : Law w0 ([tHas bb [.int .i64 (x), .int .i64 (z), .slice (some ⟨g, 0, none⟩) x cap] 28, tOwn (.slice (some ⟨g, 0, none⟩) x cap) xs, tCur bc a n p (K + 4 + 4 + 36 + 2 + 2)] ++ tHas w.heap.size [.int .i64 0, .int .i64 0, .slice none 0 0] 28 :: ts) (w6.setCell ⟨bb, 1, none⟩ (.int .i64 z)) := Law.setHas (ts := []) HX.out 1 (.int .i64 z)
    have L1 := Law.setHas L0 0 (.int .i64 (x))
    have L2 := Law.setHas L1 1 (.int .i64 (z))
    have L3 := Law.setHas L2 2 (.slice (some ⟨g, 0, none⟩) x cap)
    have L4 : Law w0 ([tOwn (.slice (some ⟨g, 0, none⟩) x cap) xs] ++ tCur bc a n p (K + 4 + 4 + 36 + 2 + 2) :: ts) _ := (Law.perm (Law.tl L3) (p3 _ _ _ _)).tl
    have HF := Lib.hid (Law.drawn (ts := [_]) L4 (Chg.refl _ _) ((Law.cur L4.tl).more (show K + 4 + 4 + 36 + 2 + 2 ≤ K + 50 by omega)))
    clear L0 L1 L2 L3 L4 HX
    go_wp2_with fail
    exact bodyPost_ret (v := .agg #[.int .i64 (x), .int .i64 (z), .slice (some ⟨g, 0, none⟩) x cap]) (by simp [results, Try.results72, go_sem, r0, r1, r2]) rfl ⟨x, z, g, x, cap, xs, rfl, HXS.out, by omega, by omega, HF.out⟩
  by_cases e2 : v = 2
  · subst e2
    have hK1 : K + 4 + 4 + 36 + 2 ≤ 1000000000 := by omega
    have hK2 : K + 4 + 4 + 36 + 2 + 2 ≤ 1000000000 := by omega
    have HP := Lib.hid (fun W (K' : Nat) (hK' : K' ≤ 1000000000) (L : Law w0 ([tHas bb [.int .i64 x, .int .i64 y, .slice (some ⟨g, 0, none⟩) x cap] 28, tOwn (.slice (some ⟨g, 0, none⟩) x cap) xs] ++ tCur bc a n p K' :: tHas w.heap.size [.int .i64 0, .int .i64 0, .slice none 0 0] 28 :: ts) W) => pick_law HS.out (x : Int) (by omega) hK' L)
    have HPr := Lib.hid (fun W (b0 K' : Nat) (hK' : K' ≤ 1000000000) (L : Law w0 ((tOwn (.slice (some ⟨b0, 0, none⟩) 3 3) [-1, 64, 4611686018427387904] :: [tHas bb [.int .i64 x, .int .i64 y, .slice (some ⟨g, 0, none⟩) x cap] 28, tOwn (.slice (some ⟨g, 0, none⟩) x cap) xs]) ++ tCur bc a n p K' :: tHas w.heap.size [.int .i64 0, .int .i64 0, .slice none 0 0] 28 :: ts) W) => pick_law HS.out (x : Int) (by omega) hK' L)
    have HA := Lib.hid (fun W (K' : Nat) (hK' : K' ≤ 1000000000) (L : Law w0 ([tHas bb [.int .i64 x, .int .i64 y, .slice (some ⟨g, 0, none⟩) x cap] 28, tOwn (.slice (some ⟨g, 0, none⟩) x cap) xs] ++ tCur bc a n p K' :: tHas w.heap.size [.int .i64 0, .int .i64 0, .slice none 0 0] 28 :: ts) W) => row3_law (x0 := -1) (x1 := 64) (x2 := 4611686018427387904) HS.out hK' L)
    have HAr := Lib.hid (fun W (b0 K' : Nat) (hK' : K' ≤ 1000000000) (L : Law w0 ((tOwn (.slice (some ⟨b0, 0, none⟩) 3 3) [-1, 64, 4611686018427387904] :: [tHas bb [.int .i64 x, .int .i64 y, .slice (some ⟨g, 0, none⟩) x cap] 28, tOwn (.slice (some ⟨g, 0, none⟩) x cap) xs]) ++ tCur bc a n p K' :: tHas w.heap.size [.int .i64 0, .int .i64 0, .slice none 0 0] 28 :: ts) W) => row3_b (x0 := -1) (x1 := 64) (x2 := 4611686018427387904) HS.out hK' L)
    have HCY := Lib.hid (fun W K' (L : Law w0 ([tHas bb [.int .i64 x, .int .i64 y, .slice (some ⟨g, 0, none⟩) x cap] 28, tOwn (.slice (some ⟨g, 0, none⟩) x cap) xs] ++ tCur bc a n p K' :: tHas w.heap.size [.int .i64 0, .int .i64 0, .slice none 0 0] 28 :: ts) W) (q : Nat) (hq : q < x) => (by
      have o := (Law.tl L).ownInts
      have hl := HXS.out
      exact ⟨Own.cell (by rw [hl]; exact o) q (by omega), Own.free (by rw [hl]; exact o) q⟩ : W.cell? ⟨g, q, none⟩ = some (.int .i64 (xs.getD q 0)) ∧ W.frozen? ⟨g, q, none⟩ = false))
    have ⟨m0, m1, m2, _⟩ := (Law.ownHas HX.out).three
    have j2 := m2
    have hbg : bb ≠ g := fun e => (List.pairwise_cons.1 HX.out.dis).1 (tOwn (.slice (some ⟨g, 0, none⟩) x cap) xs) (by simp) bb rfl (by rw [e]; rfl)
    have hgb : g ≠ bb := fun e => hbg e.symm
    clear m0 m1
    have HX : Hid (Law w0 ([tHas bb [.int .i64 x, .int .i64 y, .slice (some ⟨g, 0, none⟩) x cap] 28, tOwn (.slice (some ⟨g, 0, none⟩) x cap) xs] ++ tCur bc a n p (K + 4 + 4 + 36 + 2) :: tHas w.heap.size [.int .i64 0, .int .i64 0, .slice none 0 0] 28 :: ts) w5) := Lib.hid HX.out
    go_wp2_with fail
    go_region_held3 (fun w' => w'.cell? ⟨bb, 2, none⟩ = some (.slice (some ⟨g, 0, none⟩) x cap)) (first | exact j2 | exact m2 | exact cell_later (below_new _) j2 | exact cell_later (below_new _).drew j2 | exact (World.cell?_setCell_other _ _ _ _ (by intro e; injection e with e1; first | exact hgb e1 | exact hbg e1)).trans j2) ((first
      | (go_at_call 83; ((with_reducible refine (HP.out _ _ (by first | exact hK1 | exact hK2) HX.out).mono ?_); rintro rr wA ⟨q0, q00, q01, rfl, LA⟩; obtain ⟨q, hq'⟩ := Int.eq_ofNat_of_zero_le q00; subst hq'; obtain ⟨hq, hq0, hqx⟩ := pick_nat q01 hx1; (try (obtain ⟨y1, y2⟩ := HCY.out _ _ LA q hq)); clear HX j2; obtain ⟨_, _, j2, _⟩ := (Law.ownHas LA).three; have HX : Hid (Law w0 ([tHas bb [.int .i64 x, .int .i64 y, .slice (some ⟨g, 0, none⟩) x cap] 28, tOwn (.slice (some ⟨g, 0, none⟩) x cap) xs] ++ _ :: tHas w.heap.size [.int .i64 0, .int .i64 0, .slice none 0 0] 28 :: ts) _) := Lib.hid LA; clear LA))
      | (go_at_call 83; ((with_reducible refine (HP.out _ _ (by first | exact hK1 | exact hK2) HX.out.drew).mono ?_); rintro rr wA ⟨q0, q00, q01, rfl, LA⟩; obtain ⟨q, hq'⟩ := Int.eq_ofNat_of_zero_le q00; subst hq'; obtain ⟨hq, hq0, hqx⟩ := pick_nat q01 hx1; (try (obtain ⟨y1, y2⟩ := HCY.out _ _ LA q hq)); clear HX j2; obtain ⟨_, _, j2, _⟩ := (Law.ownHas LA).three; have HX : Hid (Law w0 ([tHas bb [.int .i64 x, .int .i64 y, .slice (some ⟨g, 0, none⟩) x cap] 28, tOwn (.slice (some ⟨g, 0, none⟩) x cap) xs] ++ _ :: tHas w.heap.size [.int .i64 0, .int .i64 0, .slice none 0 0] 28 :: ts) _) := Lib.hid LA; clear LA))
      | (go_at_call 83; ((with_reducible refine (HPr.out _ _ _ (by first | exact hK1 | exact hK2) (row3_ownA (-1) 64 4611686018427387904 HX.out)).mono ?_); rintro rr wA ⟨q0, q00, q01, rfl, LA⟩; obtain ⟨q, hq'⟩ := Int.eq_ofNat_of_zero_le q00; subst hq'; obtain ⟨hq, hq0, hqx⟩ := pick_nat q01 hx1; skip; clear HX j2; obtain ⟨_, _, j2, _⟩ := (Law.ownHas LA.tl).three; have HX := Lib.hid LA; clear LA))
      | (go_at_call 83; ((with_reducible refine (HPr.out _ _ _ (by first | exact hK1 | exact hK2) (row3_ownA (-1) 64 4611686018427387904 HX.out).drew).mono ?_); rintro rr wA ⟨q0, q00, q01, rfl, LA⟩; obtain ⟨q, hq'⟩ := Int.eq_ofNat_of_zero_le q00; subst hq'; obtain ⟨hq, hq0, hqx⟩ := pick_nat q01 hx1; skip; clear HX j2; obtain ⟨_, _, j2, _⟩ := (Law.ownHas LA.tl).three; have HX := Lib.hid LA; clear LA))
      | (go_at_call 83; ((with_reducible refine (HPr.out _ _ _ (by first | exact hK1 | exact hK2) (row3_ownA (-1) 64 4611686018427387904 HX.out.drew)).mono ?_); rintro rr wA ⟨q0, q00, q01, rfl, LA⟩; obtain ⟨q, hq'⟩ := Int.eq_ofNat_of_zero_le q00; subst hq'; obtain ⟨hq, hq0, hqx⟩ := pick_nat q01 hx1; skip; clear HX j2; obtain ⟨_, _, j2, _⟩ := (Law.ownHas LA.tl).three; have HX := Lib.hid LA; clear LA))
      | (go_at_call 73; ((with_reducible refine (HAr.out _ _ _ (by first | exact hK1 | exact hK2) (row3_ownA (-1) 64 4611686018427387904 HX.out)).mono ?_); rintro rr wB ⟨z, rfl, _, LA⟩; (try (obtain ⟨y1, y2⟩ := HCY.out _ _ LA q hq)); clear HX j2; obtain ⟨_, _, j2, _⟩ := (Law.ownHas LA).three; have HX : Hid (Law w0 ([tHas bb [.int .i64 x, .int .i64 y, .slice (some ⟨g, 0, none⟩) x cap] 28, tOwn (.slice (some ⟨g, 0, none⟩) x cap) xs] ++ _ :: tHas w.heap.size [.int .i64 0, .int .i64 0, .slice none 0 0] 28 :: ts) _) := Lib.hid LA; clear LA))
      | (go_at_call 73; ((with_reducible refine (HAr.out _ _ _ (by first | exact hK1 | exact hK2) (row3_ownA (-1) 64 4611686018427387904 HX.out).drew).mono ?_); rintro rr wB ⟨z, rfl, _, LA⟩; (try (obtain ⟨y1, y2⟩ := HCY.out _ _ LA q hq)); clear HX j2; obtain ⟨_, _, j2, _⟩ := (Law.ownHas LA).three; have HX : Hid (Law w0 ([tHas bb [.int .i64 x, .int .i64 y, .slice (some ⟨g, 0, none⟩) x cap] 28, tOwn (.slice (some ⟨g, 0, none⟩) x cap) xs] ++ _ :: tHas w.heap.size [.int .i64 0, .int .i64 0, .slice none 0 0] 28 :: ts) _) := Lib.hid LA; clear LA))
      | (go_at_call 73; ((with_reducible refine (HAr.out _ _ _ (by first | exact hK1 | exact hK2) (row3_ownA (-1) 64 4611686018427387904 HX.out.drew)).mono ?_); rintro rr wB ⟨z, rfl, _, LA⟩; (try (obtain ⟨y1, y2⟩ := HCY.out _ _ LA q hq)); clear HX j2; obtain ⟨_, _, j2, _⟩ := (Law.ownHas LA).three; have HX : Hid (Law w0 ([tHas bb [.int .i64 x, .int .i64 y, .slice (some ⟨g, 0, none⟩) x cap] 28, tOwn (.slice (some ⟨g, 0, none⟩) x cap) xs] ++ _ :: tHas w.heap.size [.int .i64 0, .int .i64 0, .slice none 0 0] 28 :: ts) _) := Lib.hid LA; clear LA))
      | (go_at_call 73; ((with_reducible refine (HAr.out _ _ _ (by first | exact hK1 | exact hK2) HX.out).mono ?_); rintro rr wB ⟨z, rfl, _, LA⟩; (try (obtain ⟨y1, y2⟩ := HCY.out _ _ LA q hq)); clear HX j2; obtain ⟨_, _, j2, _⟩ := (Law.ownHas LA).three; have HX : Hid (Law w0 ([tHas bb [.int .i64 x, .int .i64 y, .slice (some ⟨g, 0, none⟩) x cap] 28, tOwn (.slice (some ⟨g, 0, none⟩) x cap) xs] ++ _ :: tHas w.heap.size [.int .i64 0, .int .i64 0, .slice none 0 0] 28 :: ts) _) := Lib.hid LA; clear LA))
      | fail))
    all_goals
      have hS := Law.store (ts := [_]) (show Law w0 ([tHas bb [.int .i64 x, .int .i64 y, .slice (some ⟨g, 0, none⟩) x cap] 28] ++ tOwn (.slice (some ⟨g, 0, none⟩) x cap) xs :: tCur bc a n p (K + 4 + 4 + 36 + 2 + 2 + 2) :: tHas w.heap.size [.int .i64 0, .int .i64 0, .slice none 0 0] 28 :: ts) _ from HX.out) HXS.out q z
      have hzl : (xs.set q z).length = x := by rw [List.length_set]; exact HXS.out
      obtain ⟨zs, hzs⟩ : ∃ zs, zs = xs.set q z := ⟨_, rfl⟩
      rw [← hzs] at hS hzl
      clear HX j2 y1 y2 hzs
      generalize World.setCell _ ⟨g, q, none⟩ (.int .i64 z) = w6 at *
      have HX := Lib.hid hS
      have HZ := Lib.hid hzl
      clear hS hzl
      have ⟨m0, m1, m2, _⟩ := (Law.ownHas HX.out).three
      have hH : Has w6 w.heap.size [.int .i64 0, .int .i64 0, .slice none 0 0] 28 := (Law.tl (Law.tl (Law.tl HX.out))).ownHas
      have ⟨r0, r1, r2, _⟩ := hH.three
      have hbr : bb ≠ w.heap.size := fun e => (List.pairwise_cons.1 HX.out.dis).1 (tHas w.heap.size [.int .i64 0, .int .i64 0, .slice none 0 0] 28) (by simp) bb rfl e
      have hrb : w.heap.size ≠ bb := fun e => hbr e.symm
      clear hH
      have L0 : Law w0 ([tHas bb [.int .i64 (x), .int .i64 (y), .slice (some ⟨g, 0, none⟩) x cap] 28, tOwn (.slice (some ⟨g, 0, none⟩) x cap) zs, tCur bc a n p (K + 4 + 4 + 36 + 2 + 2 + 2)] ++ tHas w.heap.size [.int .i64 0, .int .i64 0, .slice none 0 0] 28 :: ts) w6 := HX.out
      have L1 := Law.setHas L0 0 (.int .i64 (x))
      have L2 := Law.setHas L1 1 (.int .i64 (y))
      have L3 := Law.setHas L2 2 (.slice (some ⟨g, 0, none⟩) x cap)
      have L4 : Law w0 ([tOwn (.slice (some ⟨g, 0, none⟩) x cap) zs] ++ tCur bc a n p (K + 4 + 4 + 36 + 2 + 2 + 2) :: ts) _ := (Law.perm (Law.tl L3) (p3 _ _ _ _)).tl
      have HF := Lib.hid (Law.drawn (ts := [_]) L4 (Chg.refl _ _) ((Law.cur L4.tl).more (show K + 4 + 4 + 36 + 2 + 2 + 2 ≤ K + 50 by omega)))
      clear L0 L1 L2 L3 L4 HX
      go_wp2_with fail
      exact bodyPost_ret (v := .agg #[.int .i64 (x), .int .i64 (y), .slice (some ⟨g, 0, none⟩) x cap]) (by simp [results, Try.results72, go_sem, r0, r1, r2]) rfl ⟨x, y, g, x, cap, zs, rfl, HZ.out, by omega, by omega, HF.out⟩
  by_cases e3 : v = 3
  · subst e3
    have hq1 := HXS.out
    obtain ⟨zs, hzs⟩ : ∃ zs, zs = xs ++ [0] := ⟨_, rfl⟩
    have hzl : zs.length = x + 1 := by rw [hzs, List.length_append, hq1]; rfl
    have LA := (Law.perm HX.out (List.Perm.swap (tOwn (.slice (some ⟨g, 0, none⟩) x cap) xs) (tHas bb [.int .i64 x, .int .i64 y, .slice (some ⟨g, 0, none⟩) x cap] 28) _)).kept (below_new (.cells #[.int .i64 0] 3))
    have HZ := Lib.hid hzs
    have ⟨_, _, m2, _⟩ := (Law.ownHas HX.out).three
    have hnew : (w5.alloc (.cells #[.int .i64 0] 3)).cell? ⟨w5.heap.size, 0, none⟩ = some (.int .i64 0) := by simp
    have HLA := Lib.hid LA
    clear LA HX hzs
    have HQ := Lib.hid hq1
    clear hq1
    go_wp2_with (at_builtin; refine wp_appendI rfl _ _ rfl 0 HLA.out w5.heap.size rfl rfl hnew (by rw [HQ.out]; omega) zs HZ.out.symm ?_)
    intro g1 cap1 w6 L6
    have HX := Lib.hid (Law.perm L6 (List.Perm.swap (tHas bb [.int .i64 x, .int .i64 y, .slice (some ⟨g, 0, none⟩) x cap] 28) (tOwn (.slice (some ⟨g1, 0, none⟩) (x + 1) cap1) zs) _))
    clear L6 HLA m2 hnew
    have ⟨m0, m1, m2, _⟩ := (Law.ownHas HX.out).three
    have hH : Has w6 w.heap.size [.int .i64 0, .int .i64 0, .slice none 0 0] 28 := (Law.tl (Law.tl (Law.tl HX.out))).ownHas
    have ⟨r0, r1, r2, _⟩ := hH.three
    have hbr : bb ≠ w.heap.size := fun e => (List.pairwise_cons.1 HX.out.dis).1 (tHas w.heap.size [.int .i64 0, .int .i64 0, .slice none 0 0] 28) (by simp) bb rfl e
    have hrb : w.heap.size ≠ bb := fun e => hbr e.symm
    clear hH
    have L0 : Law w0 ([tHas bb [.int .i64 (x), .int .i64 (y), .slice (some ⟨g1, 0, none⟩) (x + 1) cap1] 28, tOwn (.slice (some ⟨g1, 0, none⟩) (x + 1) cap1) zs, tCur bc a n p (K + 4 + 4 + 36 + 2)] ++ tHas w.heap.size [.int .i64 0, .int .i64 0, .slice none 0 0] 28 :: ts) (w6.setCell ⟨bb, 2, none⟩ (.slice (some ⟨g1, 0, none⟩) (x + 1) cap1)) := Law.setHas (ts := []) HX.out 2 (.slice (some ⟨g1, 0, none⟩) (x + 1) cap1)
    have L1 := Law.setHas L0 0 (.int .i64 (x))
    have L2 := Law.setHas L1 1 (.int .i64 (y))
    have L3 := Law.setHas L2 2 (.slice (some ⟨g1, 0, none⟩) (x + 1) cap1)
    have L4 : Law w0 ([tOwn (.slice (some ⟨g1, 0, none⟩) (x + 1) cap1) zs] ++ tCur bc a n p (K + 4 + 4 + 36 + 2) :: ts) _ := (Law.perm (Law.tl L3) (p3 _ _ _ _)).tl
    have HF := Lib.hid (Law.drawn (ts := [_]) L4 (Chg.refl _ _) ((Law.cur L4.tl).more (show K + 4 + 4 + 36 + 2 ≤ K + 50 by omega)))
    clear L0 L1 L2 L3 L4 HX
    go_wp2_with fail
    exact bodyPost_ret (v := .agg #[.int .i64 (x), .int .i64 (y), .slice (some ⟨g1, 0, none⟩) (x + 1) cap1]) (by simp [results, Try.results72, go_sem, r0, r1, r2]) rfl ⟨x, y, g1, (x + 1), cap1, zs, rfl, hzl, by omega, by omega, HF.out⟩
  · have ⟨m0, m1, m2, _⟩ := (Law.ownHas HX.out).three
    have hH : Has w5 w.heap.size [.int .i64 0, .int .i64 0, .slice none 0 0] 28 := (Law.tl (Law.tl (Law.tl HX.out))).ownHas
    have ⟨r0, r1, r2, _⟩ := hH.three
    have hbr : bb ≠ w.heap.size := fun e => (List.pairwise_cons.1 HX.out.dis).1 (tHas w.heap.size [.int .i64 0, .int .i64 0, .slice none 0 0] 28) (by simp) bb rfl e
    have hrb : w.heap.size ≠ bb := fun e => hbr e.symm
    clear hH
    have L0 : Law w0 ([tHas bb [.int .i64 (x), .int .i64 (y), .slice (some ⟨g, 0, none⟩) x cap] 28, tOwn (.slice (some ⟨g, 0, none⟩) x cap) xs, tCur bc a n p (K + 4 + 4 + 36 + 2)] ++ tHas w.heap.size [.int .i64 0, .int .i64 0, .slice none 0 0] 28 :: ts) w5 := HX.out
    have L1 := Law.setHas L0 0 (.int .i64 (x))
    have L2 := Law.setHas L1 1 (.int .i64 (y))
    have L3 := Law.setHas L2 2 (.slice (some ⟨g, 0, none⟩) x cap)
    have L4 : Law w0 ([tOwn (.slice (some ⟨g, 0, none⟩) x cap) xs] ++ tCur bc a n p (K + 4 + 4 + 36 + 2) :: ts) _ := (Law.perm (Law.tl L3) (p3 _ _ _ _)).tl
    have HF := Lib.hid (Law.drawn (ts := [_]) L4 (Chg.refl _ _) ((Law.cur L4.tl).more (show K + 4 + 4 + 36 + 2 ≤ K + 50 by omega)))
    clear L0 L1 L2 L3 L4 HX
    go_wp2_with fail
    exact bodyPost_ret (v := .agg #[.int .i64 (x), .int .i64 (y), .slice (some ⟨g, 0, none⟩) x cap]) (by simp [results, Try.results72, go_sem, r0, r1, r2]) rfl ⟨x, y, g, x, cap, xs, rfl, HXS.out, by omega, by omega, HF.out⟩
end Go.Proofs.Ytakdiiccdkjjcac
end

section
namespace Go.Proofs.Ytakdiiccdkjjcac
open Go.RowKit Go.WideShapes

def bdV (r c : Int) (g len cap : Nat) : Value := .agg #[.int .i64 r, .int .i64 c, .slice (some ⟨g, 0, none⟩) len cap]
def AnsBd (w : World) : Ending → World → Prop := fun e w' => ∃ (r c : Int) (g len cap : Nat) (xs : List Int), e = .returned (bdV r c g len cap) ∧ xs.length = len ∧ 1 ≤ len ∧ len ≤ 7 ∧ Own w' w.heap.size (.slice (some ⟨g, 0, none⟩) len cap) xs ∧ Below w.heap.size w w'

set_option maxRecDepth 100000 in
set_option maxHeartbeats 3200000 in
theorem drawDrawFileNumbers_any (a : Option Addr) (n p : Nat) (w : World) (hn : n ≤ 4611686018427387904) (hr : ReadsY w a n) : Calls Try.prog 20 #[.slice a n p] w (AnsBd w) := by
  have L0 := (Law.start w).has [.int .i64 0, .int .i64 0, .slice none 0 0] 28
  rw [show w.alloc (.cells ([.int .i64 0, .int .i64 0, .slice none 0 0] : List Value).toArray 28) = w.alloc (.cells #[.int .i64 0, .int .i64 0, .slice none 0 0] 28) from rfl] at L0
  have L1 := Law.newCur L0 a n p
  simp only [World.size_alloc] at L1
  have HS : Hid (Src0 w (w.heap.size + 1) a n) := Lib.hid ⟨hr, hn, fun b off h0 e => by have := hr.fresh b off h0 e; omega⟩
  have HL := Lib.hid L1
  clear L0 L1 hr
  go_enter Try.func20, Try.ntmps20
  go_wp2_with fail
  generalize (w.alloc (.cells #[.int .i64 0, .int .i64 0, .slice none 0 0] 28)).alloc _ = w5 at *
  refine (board_law HS.out (by omega) HL.out).mono ?_
  rintro e w6 ⟨r, c, g, len, cap, xs, rfl, hl, h1, h7, L⟩
  have L1 := Law.setHas (ts := [_, _]) L 0 (.int .i64 r)
  have L2 := Law.setHas L1 1 (.int .i64 c)
  have L3 := Law.setHas L2 2 (.slice (some ⟨g, 0, none⟩) len cap)
  have ⟨r0, r1, r2, _⟩ := (Law.ownHas L.tl.tl).three
  have HF := Lib.hid (And.intro L3.ownLo L3.below)
  have HXS := Lib.hid hl
  clear L L1 L2 L3 HL hl
  go_wp2_with fail
  exact bodyPost_ret (v := .agg #[.int .i64 r, .int .i64 c, .slice (some ⟨g, 0, none⟩) len cap]) (by simp [results, Try.results20, go_sem, r0, r1, r2]) rfl ⟨r, c, g, len, cap, xs, rfl, HXS.out, h1, h7, HF.out.1, HF.out.2⟩

set_option maxRecDepth 100000 in
set_option maxHeartbeats 3200000 in
theorem drawDrawFileValue_any (a : Option Addr) (n p : Nat) (w : World) (hn : n ≤ 4611686018427387904) (hr : ReadsY w a n) : Calls Try.prog 22 #[.slice a n p] w fun e w' => ∃ (z r c : Int) (g len cap : Nat) (xs : List Int), e = .returned (.tuple #[bdV r c g len cap, .int .i64 z]) ∧ (-101 ≤ z ∧ z ≤ 101) ∧ xs.length = len ∧ 1 ≤ len ∧ len ≤ 7 ∧ Own w' w.heap.size (.slice (some ⟨g, 0, none⟩) len cap) xs ∧ Below w.heap.size w w' := by
  have L0 := (Law.start w).has [.int .i64 0, .int .i64 0, .slice none 0 0] 28
  rw [show w.alloc (.cells ([.int .i64 0, .int .i64 0, .slice none 0 0] : List Value).toArray 28) = w.alloc (.cells #[.int .i64 0, .int .i64 0, .slice none 0 0] 28) from rfl] at L0
  have L1 := Law.newCur L0 a n p
  simp only [World.size_alloc] at L1
  have HS : Hid (Src0 w (w.heap.size + 1) a n) := Lib.hid ⟨hr, hn, fun b off h0 e => by have := hr.fresh b off h0 e; omega⟩
  have HL := Lib.hid L1
  clear L0 L1 hr
  go_enter Try.func22, Try.ntmps22
  go_wp2_with fail
  generalize (w.alloc (.cells #[.int .i64 0, .int .i64 0, .slice none 0 0] 28)).alloc _ = w5 at *
  refine (board_law HS.out (by omega) HL.out).mono ?_
  rintro e w6 ⟨r, c, g, len, cap, xs, rfl, hl, h1, h7, L⟩
  have HL2 := Lib.hid L
  clear HL L
  go_wp2_with fail
  refine (row9_law HS.out (ts := [_]) (by omega) HL2.out).mono ?_
  rintro e w7 ⟨z, rfl, hz, L⟩
  have hz2 : -101 ≤ z ∧ z ≤ 101 := by
    simp at hz
    omega
  have HZ := Lib.hid hz2
  have L1 := Law.setHas (ts := [_, _]) L 0 (.int .i64 r)
  have L2 := Law.setHas L1 1 (.int .i64 c)
  have L3 := Law.setHas L2 2 (.slice (some ⟨g, 0, none⟩) len cap)
  have ⟨r0, r1, r2, _⟩ := (Law.ownHas L.tl.tl).three
  have HF := Lib.hid (And.intro L3.ownLo L3.below)
  have HXS := Lib.hid hl
  clear L L1 L2 L3 hl HL2 hz hz2
  go_wp2_with fail
  exact bodyPost_ret (v := .tuple #[.agg #[.int .i64 r, .int .i64 c, .slice (some ⟨g, 0, none⟩) len cap], .int .i64 z]) (by simp [results, Try.results22, go_sem, r0, r1, r2]) rfl ⟨z, r, c, g, len, cap, xs, rfl, HZ.out, HXS.out, h1, h7, HF.out.1, HF.out.2⟩
end Go.Proofs.Ytakdiiccdkjjcac
end
