/- Square boards and arguments drawn. No condition but the sizes. -/
import Derived.Test.YthiddoaefhmpaaaYf
namespace Go.Proofs.Ythiddoaefhmpaaa
open Go.RowKit Go.WideShapes

theorem Law.drop3 {w0 w : World} {x y z : Thing} {ts : List Thing} (h : Law w0 ([x, y] ++ z :: ts) w) : Law w0 ([x] ++ y :: ts) w := by
  have hsub : List.Sublist (x :: y :: ts) (x :: y :: z :: ts) := ((List.sublist_cons_self z ts).cons_cons y).cons_cons x
  exact ⟨h.below, fun t ht => h.holds t (hsub.subset ht), fun t ht => h.range t (hsub.subset ht), h.dis.sublist hsub⟩
set_option maxRecDepth 100000 in
set_option maxHeartbeats 3200000 in
theorem square_law {w0 w : World} {bc n p K : Nat} {a : Option Addr} {ts : List Thing} (hs : Src0 w0 bc a n) (hK : K ≤ 900000) (L : Law w0 (tCur bc a n p K :: ts) w) :
    Calls Try.prog 15 #[.pointer (some ⟨bc, 0, none⟩)] w fun e w' => ∃ (r c : Int) (g len cap : Nat) (xs : List Int), e = .returned (.agg #[.int .i64 r, .int .i64 c, .slice (some ⟨g, 0, none⟩) len cap]) ∧ xs.length = len ∧ 1 ≤ len ∧ len ≤ 7 ∧ Law w0 (tOwn (.slice (some ⟨g, 0, none⟩) len cap) xs :: tCur bc a n p (K + 60) :: ts) w' := by
  have HS := Lib.hid hs
  have L0 := Law.perm (L.has [.int .i64 0, .int .i64 0, .slice none 0 0] 26) (List.Perm.swap (tCur bc a n p K) (tHas w.heap.size [.int .i64 0, .int .i64 0, .slice none 0 0] 26) ts)
  have HL := Lib.hid L0
  have hbcw : bc < w.heap.size := (Law.cur L).choose_spec.choose_spec.1.lt
  clear hs L L0
  go_enter Try.func15, Try.ntmps15
  go_wp2_with fail
  refine (one_law HS.out (ts := []) 8 (by omega) (by omega) HL.out).mono ?_
  rintro e w1 ⟨b, rfl, L⟩
  have HL1 := Lib.hid L
  clear HL L
  cases b
  · go_wp2_with fail
    refine (sides_law HS.out (ts := []) (by omega) HL1.out).mono ?_
    rintro e w2 ⟨x, hx1, hx2, rfl, L⟩
    have HL2 := Lib.hid L
    clear HL1 L
    go_wp2_with fail
    refine (boardOf_law HS.out (by omega) x x ⟨hx1, hx2⟩ ⟨hx1, hx2⟩ HL2.out).mono ?_
    rintro e w3 ⟨g, cap, xs, rfl, hxs, L⟩
    clear HL2
    have L1 := Law.setHas (ts := [_, _]) L 0 (.int .i64 (x))
    have L2 := Law.setHas L1 1 (.int .i64 (x))
    have L3 := Law.setHas L2 2 (.slice (some ⟨g, 0, none⟩) x cap)
    have ⟨r0, r1, r2, _⟩ := (Law.ownHas (Law.tl (Law.tl L))).three
    have L4 := Law.drop3 L3
    have HF := Lib.hid (Law.drawn (ts := [_]) L4 (Chg.refl _ _) ((Law.cur L4.tl).more (show _ ≤ K + 60 by omega)))
    have HXS := Lib.hid hxs
    clear L L1 L2 L3 L4 hxs
    go_wp2_with fail
    exact bodyPost_ret (v := .agg #[.int .i64 (x), .int .i64 (x), .slice (some ⟨g, 0, none⟩) x cap]) (by simp [results, Try.results15, go_sem, r0, r1, r2]) rfl ⟨x, x, g, x, cap, xs, rfl, HXS.out, by omega, by omega, HF.out⟩
  · go_wp2_with fail
    refine (board_law HS.out (by omega) HL1.out).mono ?_
    rintro e w3 ⟨r, c, g, len, cap, xs, rfl, hxs, hl1, hl7, L⟩
    clear HL1
    have L1 := Law.setHas (ts := [_, _]) L 0 (.int .i64 (r))
    have L2 := Law.setHas L1 1 (.int .i64 (c))
    have L3 := Law.setHas L2 2 (.slice (some ⟨g, 0, none⟩) len cap)
    have ⟨r0, r1, r2, _⟩ := (Law.ownHas (Law.tl (Law.tl L))).three
    have L4 := Law.drop3 L3
    have HF := Lib.hid (Law.drawn (ts := [_]) L4 (Chg.refl _ _) ((Law.cur L4.tl).more (show _ ≤ K + 60 by omega)))
    have HXS := Lib.hid hxs
    clear L L1 L2 L3 L4 hxs
    go_wp2_with fail
    exact bodyPost_ret (v := .agg #[.int .i64 (r), .int .i64 (c), .slice (some ⟨g, 0, none⟩) len cap]) (by simp [results, Try.results15, go_sem, r0, r1, r2]) rfl ⟨r, c, g, len, cap, xs, rfl, HXS.out, by omega, by omega, HF.out⟩
set_option maxRecDepth 100000 in
set_option maxHeartbeats 3200000 in
theorem argument_law {w0 w : World} {bc n p K : Nat} {a : Option Addr} {ts ts' : List Thing} (hs : Src0 w0 bc a n) (hK : K ≤ 900000) (L : Law w0 (ts ++ tCur bc a n p K :: ts') w) :
    Calls Try.prog 16 #[.pointer (some ⟨bc, 0, none⟩)] w fun e w' => ∃ x : Int, e = .returned (.int .i64 x) ∧ Law w0 (ts ++ tCur bc a n p (K + 4) :: ts') w' := by
  have HS := Lib.hid hs
  have HL := Lib.hid L
  clear hs L
  go_enter Try.func16, Try.ntmps16
  go_wp2_with fail
  refine (one_law HS.out 12 (by omega) (by omega) HL.out).mono ?_
  rintro e w1 ⟨b, rfl, L⟩
  have HL1 := Lib.hid L
  clear HL L
  cases b
  · go_wp2_with fail
    refine (pick_law HS.out 13 (by omega) (by omega) HL1.out).mono ?_
    rintro e w2 ⟨x, x0, x1, rfl, L⟩
    have HL2 := Lib.hid L
    have hw : IntKind.i64.wrap (x - 4) = x - 4 := IntWalk.i64_in _ (by omega)
    clear HL1 L
    go_wp2_with fail
    go_ret
    exact ⟨x - 4, by first | rfl | simp, HL2.out⟩
  · go_wp2_with fail
    refine (row5_law HS.out (by omega) HL1.out).mono ?_
    rintro e w2 ⟨x, rfl, _, L⟩
    have HL2 := Lib.hid L
    clear HL1 L
    go_wp2_with fail
    go_ret
    exact ⟨x, rfl, HL2.out⟩
def AnsBI (w : World) : Ending → World → Prop := fun e w' => ∃ (z r c : Int) (g len cap : Nat) (xs : List Int), e = .returned (.tuple #[bdV r c g len cap, .int .i64 z]) ∧ xs.length = len ∧ 1 ≤ len ∧ len ≤ 7 ∧ Own w' w.heap.size (.slice (some ⟨g, 0, none⟩) len cap) xs ∧ Below w.heap.size w w'

set_option maxRecDepth 100000 in
set_option maxHeartbeats 3200000 in
theorem drawDrawFactorialAt_any (a : Option Addr) (n p : Nat) (w : World) (hn : n ≤ 4611686018427387904) (hr : ReadsY w a n) : Calls Try.prog 5 #[.slice a n p] w (AnsBI w) := by
  have L0 := (Law.start w).has [.int .i64 0, .int .i64 0, .slice none 0 0] 26
  rw [show w.alloc (.cells ([.int .i64 0, .int .i64 0, .slice none 0 0] : List Value).toArray 26) = w.alloc (.cells #[.int .i64 0, .int .i64 0, .slice none 0 0] 26) from rfl] at L0
  have L1 := Law.newCur L0 a n p
  simp only [World.size_alloc] at L1
  have HS : Hid (Src0 w (w.heap.size + 1) a n) := Lib.hid ⟨hr, hn, fun b off h0 e => by have := hr.fresh b off h0 e; omega⟩
  have HL := Lib.hid L1
  clear L0 L1 hr
  go_enter Try.func5, Try.ntmps5
  go_wp2_with fail
  generalize (w.alloc (.cells #[.int .i64 0, .int .i64 0, .slice none 0 0] 26)).alloc _ = w5 at *
  refine (square_law HS.out (by omega) HL.out).mono ?_
  rintro e w6 ⟨r, c, g, len, cap, xs, rfl, hl, h1, h7, L⟩
  have HL2 := Lib.hid L
  clear HL L
  go_wp2_with fail
  refine (argument_law HS.out (ts := [_]) (by omega) HL2.out).mono ?_
  rintro e w7 ⟨z, rfl, L⟩
  have L1 := Law.setHas (ts := [_, _]) L 0 (.int .i64 r)
  have L2 := Law.setHas L1 1 (.int .i64 c)
  have L3 := Law.setHas L2 2 (.slice (some ⟨g, 0, none⟩) len cap)
  have ⟨r0, r1, r2, _⟩ := (Law.ownHas (Law.tl (Law.tl L))).three
  have HF := Lib.hid (And.intro (Law.ownLo L3) L3.below)
  have HXS := Lib.hid hl
  clear L L1 L2 L3 hl HL2
  go_wp2_with fail
  exact bodyPost_ret (v := .tuple #[.agg #[.int .i64 r, .int .i64 c, .slice (some ⟨g, 0, none⟩) len cap], .int .i64 z]) (by simp [results, Try.results5, go_sem, r0, r1, r2]) rfl ⟨z, r, c, g, len, cap, xs, rfl, HXS.out, h1, h7, HF.out.1, HF.out.2⟩

set_option maxRecDepth 100000 in
set_option maxHeartbeats 3200000 in
theorem drawDrawRookPolynomialAt_any (a : Option Addr) (n p : Nat) (w : World) (hn : n ≤ 4611686018427387904) (hr : ReadsY w a n) : Calls Try.prog 8 #[.slice a n p] w (AnsBI w) := by
  have L0 := (Law.start w).has [.int .i64 0, .int .i64 0, .slice none 0 0] 26
  rw [show w.alloc (.cells ([.int .i64 0, .int .i64 0, .slice none 0 0] : List Value).toArray 26) = w.alloc (.cells #[.int .i64 0, .int .i64 0, .slice none 0 0] 26) from rfl] at L0
  have L1 := Law.newCur L0 a n p
  simp only [World.size_alloc] at L1
  have HS : Hid (Src0 w (w.heap.size + 1) a n) := Lib.hid ⟨hr, hn, fun b off h0 e => by have := hr.fresh b off h0 e; omega⟩
  have HL := Lib.hid L1
  clear L0 L1 hr
  go_enter Try.func8, Try.ntmps8
  go_wp2_with fail
  generalize (w.alloc (.cells #[.int .i64 0, .int .i64 0, .slice none 0 0] 26)).alloc _ = w5 at *
  refine (board_law HS.out (by omega) HL.out).mono ?_
  rintro e w6 ⟨r, c, g, len, cap, xs, rfl, hl, h1, h7, L⟩
  have HL2 := Lib.hid L
  clear HL L
  go_wp2_with fail
  refine (argument_law HS.out (ts := [_]) (by omega) HL2.out).mono ?_
  rintro e w7 ⟨z, rfl, L⟩
  have L1 := Law.setHas (ts := [_, _]) L 0 (.int .i64 r)
  have L2 := Law.setHas L1 1 (.int .i64 c)
  have L3 := Law.setHas L2 2 (.slice (some ⟨g, 0, none⟩) len cap)
  have ⟨r0, r1, r2, _⟩ := (Law.ownHas (Law.tl (Law.tl L))).three
  have HF := Lib.hid (And.intro (Law.ownLo L3) L3.below)
  have HXS := Lib.hid hl
  clear L L1 L2 L3 hl HL2
  go_wp2_with fail
  exact bodyPost_ret (v := .tuple #[.agg #[.int .i64 r, .int .i64 c, .slice (some ⟨g, 0, none⟩) len cap], .int .i64 z]) (by simp [results, Try.results8, go_sem, r0, r1, r2]) rfl ⟨z, r, c, g, len, cap, xs, rfl, HXS.out, h1, h7, HF.out.1, HF.out.2⟩

set_option maxRecDepth 100000 in
set_option maxHeartbeats 3200000 in
theorem drawDrawPermanentOf_any (a : Option Addr) (n p : Nat) (w : World) (hn : n ≤ 4611686018427387904) (hr : ReadsY w a n) : Calls Try.prog 12 #[.slice a n p] w (AnsBd w) := by
  have L0 := (Law.start w).has [.int .i64 0, .int .i64 0, .slice none 0 0] 26
  rw [show w.alloc (.cells ([.int .i64 0, .int .i64 0, .slice none 0 0] : List Value).toArray 26) = w.alloc (.cells #[.int .i64 0, .int .i64 0, .slice none 0 0] 26) from rfl] at L0
  have L1 := Law.newCur L0 a n p
  simp only [World.size_alloc] at L1
  have HS : Hid (Src0 w (w.heap.size + 1) a n) := Lib.hid ⟨hr, hn, fun b off h0 e => by have := hr.fresh b off h0 e; omega⟩
  have HL := Lib.hid L1
  clear L0 L1 hr
  go_enter Try.func12, Try.ntmps12
  go_wp2_with fail
  generalize (w.alloc (.cells #[.int .i64 0, .int .i64 0, .slice none 0 0] 26)).alloc _ = w5 at *
  refine (square_law HS.out (by omega) HL.out).mono ?_
  rintro e w6 ⟨r, c, g, len, cap, xs, rfl, hl, h1, h7, L⟩
  have L1 := Law.setHas (ts := [_, _]) L 0 (.int .i64 r)
  have L2 := Law.setHas L1 1 (.int .i64 c)
  have L3 := Law.setHas L2 2 (.slice (some ⟨g, 0, none⟩) len cap)
  have ⟨r0, r1, r2, _⟩ := (Law.ownHas (Law.tl (Law.tl L))).three
  have HF := Lib.hid (And.intro (Law.ownLo L3) L3.below)
  have HXS := Lib.hid hl
  clear L L1 L2 L3 HL hl
  go_wp2_with fail
  exact bodyPost_ret (v := .agg #[.int .i64 r, .int .i64 c, .slice (some ⟨g, 0, none⟩) len cap]) (by simp [results, Try.results12, go_sem, r0, r1, r2]) rfl ⟨r, c, g, len, cap, xs, rfl, HXS.out, h1, h7, HF.out.1, HF.out.2⟩
end Go.Proofs.Ythiddoaefhmpaaa
