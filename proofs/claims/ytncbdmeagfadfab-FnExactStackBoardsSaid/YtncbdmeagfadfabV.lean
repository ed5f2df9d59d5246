/- Boards joined cell by cell, in both texts. No condition but the sizes. -/
import Derived.Test.YtncbdmeagfadfabU
namespace Go.Proofs.Ytncbdmeagfadfab
open Go.RowKit Go.WideShapes

theorem gridsOf_yes (r c r2 c2 : Int) (a a2 : Option Addr) (cap cap2 : Nat) (xs ys : List Int) (w : World) (hx : xs.length ≤ 1048576) (hy : ys.length ≤ 1048576) (hr : Reads w a xs.length xs) (hr2 : Reads w a2 ys.length ys)
    (hp : goodB r c xs = true) (hq : goodB r2 c2 ys = true) :
    Calls Try.prog 43 #[.agg #[.int .i64 r, .int .i64 c, .slice a xs.length cap], .agg #[.int .i64 r2, .int .i64 c2, .slice a2 ys.length cap2]] w
      fun e w' => e = .returned (.tuple #[gv r c (fun k => xs.getD k 0), gv r2 c2 (fun k => ys.getD k 0), .bool true]) ∧ Below w.heap.size w w' :=
  gridsOf_any r c r2 c2 a a2 cap cap2 xs ys true true w hx hy hr hr2 hp hq
theorem gridsOf_good (r c r2 c2 : Int) (a a2 : Option Addr) (cap cap2 : Nat) (xs ys : List Int) (w : World) (hx : xs.length ≤ 1048576) (hy : ys.length ≤ 1048576) (hr : Reads w a xs.length xs) (hr2 : Reads w a2 ys.length ys)
    (hp : goodB r c xs = true) (hq : goodB r2 c2 ys = true) :
    ∃ M1 M2 : Nat → Int, (∀ k, M1 k = xs.getD k 0) ∧ (∀ k, M2 k = ys.getD k 0) ∧ Calls Try.prog 43 #[.agg #[.int .i64 r, .int .i64 c, .slice a xs.length cap], .agg #[.int .i64 r2, .int .i64 c2, .slice a2 ys.length cap2]] w
      fun e w' => e = .returned (.tuple #[gv r c M1, gv r2 c2 M2, .bool true]) ∧ Below w.heap.size w w' :=
  ⟨_, _, fun _ => rfl, fun _ => rfl, gridsOf_yes r c r2 c2 a a2 cap cap2 xs ys w hx hy hr hr2 hp hq⟩
theorem gridsOf_no (r c r2 c2 : Int) (a a2 : Option Addr) (cap cap2 : Nat) (xs ys : List Int) (w : World) (hx : xs.length ≤ 1048576) (hy : ys.length ≤ 1048576) (hr : Reads w a xs.length xs) (hr2 : Reads w a2 ys.length ys)
    (h : (goodB r c xs && goodB r2 c2 ys) = false) :
    ∃ R1 C1 M1 R2 C2 M2, Calls Try.prog 43 #[.agg #[.int .i64 r, .int .i64 c, .slice a xs.length cap], .agg #[.int .i64 r2, .int .i64 c2, .slice a2 ys.length cap2]] w
      fun e w' => e = .returned (.tuple #[gv R1 C1 M1, gv R2 C2 M2, .bool false]) ∧ Below w.heap.size w w' := by
  have := gridsOf_any r c r2 c2 a a2 cap cap2 xs ys _ _ w hx hy hr hr2 rfl rfl
  rw [h] at this
  exact ⟨_, _, _, _, _, _, this⟩

theorem Law.grids {w0 w w' : World} {ts : List Thing} (h : Law w0 ts w) {A B : List Value} {t : TypeId} (hw : w' = (w.alloc (.cells A.toArray t)).alloc (.cells B.toArray t)) : Law w0 (tHas (w.heap.size + 1) B t :: tHas w.heap.size A t :: ts) w' := by
  subst hw
  have := (h.has A t).has B t
  rw [World.size_alloc] at this
  exact this

/-- Two boards joined, place by place. -/
def joinB (op : Int → Int → Int) (r c : Int) (xs : List Int) (r2 c2 : Int) (ys : List Int) : BR :=
  if goodB r c xs && goodB r2 c2 ys && fitB r c r2 c2 then ⟨r, c, List.zipWith op xs ys, true⟩ else BR.zero
theorem joinB_len (op : Int → Int → Int) (r c : Int) (xs : List Int) (r2 c2 : Int) (ys : List Int) : (joinB op r c xs r2 c2 ys).xs.length ≤ 1048576 := by
  unfold joinB
  split
  · rename_i h
    rw [Bool.and_eq_true, Bool.and_eq_true] at h
    have := good_facts h.1.1
    simp; omega
  · simp [BR.zero]
theorem joinB_no1 {op : Int → Int → Int} {r c : Int} {xs : List Int} {r2 c2 : Int} {ys : List Int} (h : (goodB r c xs && goodB r2 c2 ys) = false) : joinB op r c xs r2 c2 ys = BR.zero := by simp [joinB, h]
theorem joinB_no2 {op : Int → Int → Int} {r c : Int} {xs : List Int} {r2 c2 : Int} {ys : List Int} (h : fitB r c r2 c2 = false) : joinB op r c xs r2 c2 ys = BR.zero := by simp [joinB, h]
theorem joinB_yes {op : Int → Int → Int} {r c : Int} {xs : List Int} {r2 c2 : Int} {ys : List Int} (h1 : goodB r c xs = true) (h2 : goodB r2 c2 ys = true) (h3 : fitB r c r2 c2 = true) : joinB op r c xs r2 c2 ys = ⟨r, c, List.zipWith op xs ys, true⟩ := by simp [joinB, h1, h2, h3]
theorem zip_get (op : Int → Int → Int) (xs ys : List Int) (n : Nat) (hx : xs.length = n) (hy : ys.length = n) (k : Nat) (hk : k < n) : (List.zipWith op xs ys).getD k 0 = op (xs.getD k 0) (ys.getD k 0) := by
  simp [List.getD, List.getElem?_zipWith, show k < xs.length by omega, show k < ys.length by omega]

/-- The masks behind k rounds. -/
def jn (op : Int → Int → Int) (A B : Nat → Int) (k : Nat) : Nat → Int := fun q => if q < k then op (A q) (B q) else A q
theorem jn_zero (op : Int → Int → Int) (A B : Nat → Int) : jn op A B 0 = A := by funext q; simp [jn]
theorem jn_at (op : Int → Int → Int) (A B : Nat → Int) (k : Nat) : jn op A B k k = A k := by simp [jn]
theorem jn_put (op : Int → Int → Int) (A B : Nat → Int) (k : Nat) : jn op A B (k + 1) k = op (A k) (B k) := by simp [jn]
theorem jn_off (op : Int → Int → Int) (A B : Nat → Int) (k q : Nat) (h : q ≠ k) : jn op A B (k + 1) q = jn op A B k q := by
  unfold jn
  by_cases h1 : q < k
  · rw [if_pos h1, if_pos (by omega)]
  · rw [if_neg h1, if_neg (by omega)]
theorem jn_end (op : Int → Int → Int) (A B : Nat → Int) (xs ys : List Int) (n : Nat) (hx : xs.length = n) (hy : ys.length = n) (hn : n ≤ 6) (hA : ∀ k, A k = xs.getD k 0) (hB : ∀ k, B k = ys.getD k 0) :
    [jn op A B 6 0, jn op A B 6 1, jn op A B 6 2, jn op A B 6 3, jn op A B 6 4, jn op A B 6 5].take n = List.zipWith op xs ys := by
  have := cells_n n (jn op A B 6) (List.zipWith op xs ys) (by simp; omega) hn (fun k hk => by
    rw [zip_get op xs ys n hx hy k hk]
    unfold jn
    rw [if_pos (by omega), hA, hB])
  rw [← this, List.map_take]
  rfl

set_option maxHeartbeats 3200000 in
theorem implUnionOf_any (r c : Int) (xs : List Int) (r2 c2 : Int) (ys : List Int) (w : World) (hx : xs.length ≤ 1048576) (hy : ys.length ≤ 1048576) (lo : Nat) (s : Value) (lo2 : Nat) (s2 : Value) (hO : Own w lo s xs) (hO2 : Own w lo2 s2 ys) :
    Calls Try.prog 13 #[.agg #[.int .i64 r, .int .i64 c, s], .agg #[.int .i64 r2, .int .i64 c2, s2]] w fun e w' => AnsB (joinB (bits .or .i64) r c xs r2 c2 ys) w e w' := by
  have L0 := (((Law.start w).box (.int .i64 r) (.int .i64 c) s 26).box (.int .i64 r2) (.int .i64 c2) s2 26).box (.int .i64 0) (.int .i64 0) (.slice none 0 0) 26
  simp only [World.size_alloc] at L0
  obtain ⟨a, cap, rfl, hr⟩ := hO.reads
  obtain ⟨a2, cap2, rfl, hr2⟩ := hO2.reads
  have hr0 := L0.reads hr
  have hr20 := L0.reads hr2
  clear hO hO2
  cases hpq : (goodB r c xs && goodB r2 c2 ys)
  · rw [joinB_no1 hpq]
    obtain ⟨R1, C1, M1, R2, C2, M2, hc⟩ := gridsOf_no r c r2 c2 a a2 cap cap2 xs ys _ hx hy hr0 hr20 hpq
    have HC := Lib.hid hc; clear hc hpq
    go_enter Try.func13, Try.ntmps13
    go_wp2_with fail
    refine HC.out.mono ?_
    rintro e w1 ⟨rfl, hb⟩
    have L1 := (L0.kept hb).grids (A := gl R1 C1 M1) (B := gl R2 C2 M2) (t := 56) rfl
    rw [show (w1.alloc (.cells (gl R1 C1 M1).toArray 56)).alloc (.cells (gl R2 C2 M2).toArray 56) = (w1.alloc (.cells #[.int .i64 R1, .int .i64 C1, .int .i64 (M1 0), .int .i64 (M1 1), .int .i64 (M1 2), .int .i64 (M1 3), .int .i64 (M1 4), .int .i64 (M1 5)] 56)).alloc (.cells #[.int .i64 R2, .int .i64 C2, .int .i64 (M2 0), .int .i64 (M2 1), .int .i64 (M2 2), .int .i64 (M2 3), .int .i64 (M2 4), .int .i64 (M2 5)] 56) from rfl] at L1
    clear L0 hb HC hr0 hr20
    go_upto_region 2 with fail
    generalize (w1.alloc (.cells #[.int .i64 R1, .int .i64 C1, .int .i64 (M1 0), .int .i64 (M1 1), .int .i64 (M1 2), .int .i64 (M1 3), .int .i64 (M1 4), .int .i64 (M1 5)] 56)).alloc (.cells #[.int .i64 R2, .int .i64 C2, .int .i64 (M2 0), .int .i64 (M2 1), .int .i64 (M2 2), .int .i64 (M2 3), .int .i64 (M2 4), .int .i64 (M2 5)] 56) = w5 at *
    have ⟨_, n0, n1, n2, nf⟩ := L1.tl.tl.ownBox
    have HB := Lib.hid L1.below
    clear L1
    go_wp2_with fail
    refine bodyPost_ret (v := .tuple #[.agg #[.int .i64 0, .int .i64 0, .slice none 0 0], .bool false]) (by simp [results, Try.results13, go_sem, n0, n1, n2]) rfl (ansB_zero _ _ ?_)
    exact ((HB.out.setCell (by simp <;> omega) _).setCell (by simp <;> omega) _).setCell (by simp <;> omega) _
  · rw [Bool.and_eq_true] at hpq
    obtain ⟨hp, hq⟩ := hpq
    cases hf : fitB r c r2 c2
    · rw [joinB_no2 hf]
      have HFI := Lib.hid hf; clear hf
      obtain ⟨M1, M2, hA, hB, hc⟩ := gridsOf_good r c r2 c2 a a2 cap cap2 xs ys _ hx hy hr0 hr20 hp hq
      clear hA hB
      have HC := Lib.hid hc; clear hc
      go_enter Try.func13, Try.ntmps13
      go_wp2_with fail
      refine HC.out.mono ?_
      rintro e w1 ⟨rfl, hb⟩
      have L1 := (L0.kept hb).grids (A := gl r c M1) (B := gl r2 c2 M2) (t := 56) rfl
      rw [show (w1.alloc (.cells (gl r c M1).toArray 56)).alloc (.cells (gl r2 c2 M2).toArray 56) = (w1.alloc (.cells #[.int .i64 r, .int .i64 c, .int .i64 (M1 0), .int .i64 (M1 1), .int .i64 (M1 2), .int .i64 (M1 3), .int .i64 (M1 4), .int .i64 (M1 5)] 56)).alloc (.cells #[.int .i64 r2, .int .i64 c2, .int .i64 (M2 0), .int .i64 (M2 1), .int .i64 (M2 2), .int .i64 (M2 3), .int .i64 (M2 4), .int .i64 (M2 5)] 56) from rfl] at L1
      clear L0 hb hr0 hr20 hp hq HC
      go_upto_region 2 with fail
      generalize (w1.alloc (.cells #[.int .i64 r, .int .i64 c, .int .i64 (M1 0), .int .i64 (M1 1), .int .i64 (M1 2), .int .i64 (M1 3), .int .i64 (M1 4), .int .i64 (M1 5)] 56)).alloc (.cells #[.int .i64 r2, .int .i64 c2, .int .i64 (M2 0), .int .i64 (M2 1), .int .i64 (M2 2), .int .i64 (M2 3), .int .i64 (M2 4), .int .i64 (M2 5)] 56) = w5 at *
      obtain ⟨e0, e1, e2, e3, e4, e5, e6, e7, _⟩ := L1.ownHas.eight
      obtain ⟨d0, d1, d2, d3, d4, d5, d6, d7, _⟩ := L1.tl.ownHas.eight
      go_wp2_with fail
      refine (at_boolB (fits_any r c r2 c2 M1 M2 _) HFI.out).mono ?_
      rintro e w2 ⟨rfl, hb⟩
      have L2 := L1.kept hb
      have ⟨_, n0, n1, n2, nf⟩ := L2.tl.tl.ownBox
      have HB := Lib.hid L2.below
      clear L1 L2 hb e0 e1 e2 e3 e4 e5 e6 e7 d0 d1 d2 d3 d4 d5 d6 d7
      go_wp2_with fail
      refine bodyPost_ret (v := .tuple #[.agg #[.int .i64 0, .int .i64 0, .slice none 0 0], .bool false]) (by simp [results, Try.results13, go_sem, n0, n1, n2]) rfl (ansB_zero _ _ ?_)
      exact ((HB.out.setCell (by simp <;> omega) _).setCell (by simp <;> omega) _).setCell (by simp <;> omega) _
    · rw [joinB_yes hp hq hf]
      have hf' := hf
      simp only [fitB, decide_eq_true_eq] at hf'
      obtain ⟨h1, h2⟩ := hf'
      subst h1 h2
      obtain ⟨g1, g2, g3, _⟩ := good_facts hp
      obtain ⟨_, _, g4, _⟩ := good_facts hq
      obtain ⟨n, rfl⟩ := Int.eq_ofNat_of_zero_le (show 0 ≤ r by omega)
      obtain ⟨M1, M2, hA, hB, hc⟩ := gridsOf_good n c n c a a2 cap cap2 xs ys _ hx hy hr0 hr20 hp hq
      have HJ := Lib.hid (jn_end (bits .or .i64) M1 M2 xs ys n (by omega) (by omega) (by omega) hA hB)
      clear hA hB
      have hzl : (List.zipWith (bits .or .i64) xs ys).length = n := by simp; omega
      have HZ := Lib.hid hzl; clear hzl
      have HFI := Lib.hid hf; clear hf
      have HC := Lib.hid hc; clear hc
      go_enter Try.func13, Try.ntmps13
      go_wp2_with fail
      refine HC.out.mono ?_
      rintro e w1 ⟨rfl, hb⟩
      have L1 := (L0.kept hb).grids (A := gl n c M1) (B := gl n c M2) (t := 56) rfl
      rw [show (w1.alloc (.cells (gl n c M1).toArray 56)).alloc (.cells (gl n c M2).toArray 56) = (w1.alloc (.cells #[.int .i64 n, .int .i64 c, .int .i64 (M1 0), .int .i64 (M1 1), .int .i64 (M1 2), .int .i64 (M1 3), .int .i64 (M1 4), .int .i64 (M1 5)] 56)).alloc (.cells #[.int .i64 n, .int .i64 c, .int .i64 (M2 0), .int .i64 (M2 1), .int .i64 (M2 2), .int .i64 (M2 3), .int .i64 (M2 4), .int .i64 (M2 5)] 56) from rfl] at L1
      clear L0 hb hr0 hr20 hp hq HC
      go_upto_region 2 with fail
      generalize (w1.alloc (.cells #[.int .i64 n, .int .i64 c, .int .i64 (M1 0), .int .i64 (M1 1), .int .i64 (M1 2), .int .i64 (M1 3), .int .i64 (M1 4), .int .i64 (M1 5)] 56)).alloc (.cells #[.int .i64 n, .int .i64 c, .int .i64 (M2 0), .int .i64 (M2 1), .int .i64 (M2 2), .int .i64 (M2 3), .int .i64 (M2 4), .int .i64 (M2 5)] 56) = w5 at *
      obtain ⟨e0, e1, e2, e3, e4, e5, e6, e7, _⟩ := L1.ownHas.eight
      obtain ⟨d0, d1, d2, d3, d4, d5, d6, d7, _⟩ := L1.tl.ownHas.eight
      go_wp2_with fail
      refine (at_boolB (fits_any n c n c M1 M2 _) HFI.out).mono ?_
      rintro e w2 ⟨rfl, hb⟩
      have L2 := L1.kept hb
      rw [← jn_zero (bits .or .i64) M1 M2] at L2
      clear L1 hb e0 e1 e2 e3 e4 e5 e6 e7 d0 d1 d2 d3 d4 d5 d6 d7
      go_wp2_with fail
      go_loopw [26] (fun i wr => ∃ k : Nat, k ≤ 6 ∧ i = .int .i64 k ∧ Law w [tHas (w1.heap.size + 1) (gl n c M2) 56, tHas w1.heap.size (gl n c (jn (bits .or .i64) M1 M2 k)) 56, tBox (w.heap.size + 1 + 1) (.int .i64 0) (.int .i64 0) (.slice none 0 0), tBox (w.heap.size + 1) (.int .i64 n) (.int .i64 c) (.slice a2 ys.length cap2), tBox w.heap.size (.int .i64 n) (.int .i64 c) (.slice a xs.length cap)] wr) (fun i _ => 6 - (intOf i).toNat)
      case atStart => exact ⟨0, by omega, rfl, L2⟩
      case round =>
        clear L2
        obtain ⟨k, hk, rfl, L⟩ := hrel
        by_cases hlt : k < 6
        · have hcx := L.tl.ownHas.cell (2 + k)
          have hcf := L.tl.ownHas.free (2 + k)
          have hcy := L.ownHas.cell (2 + k)
          rw [gl_get _ _ _ k hlt, jn_at] at hcx
          rw [gl_get _ _ _ k hlt] at hcy
          have hS := (Law.setHas (ts := [_]) L (2 + k) (.int .i64 (bits .or .i64 (M1 k) (M2 k))))
          rw [gl_set n c (jn (bits .or .i64) M1 M2 k) (jn (bits .or .i64) M1 M2 (k + 1)) k hlt _ (jn_put _ M1 M2 k) (fun q hq => jn_off _ M1 M2 k q hq)] at hS
          have HS := Lib.hid hS.drew
          clear L hS
          generalize M1 k = x at *
          generalize M2 k = y at *
          go_wp2_with fail
          go_region
          go_wp2_with fail
          go_roundw
          case rel => exact ⟨k + 1, by omega, by go_num, HS.out⟩
          case measure => simp [intOf]; omega
        · obtain rfl : k = 6 := by omega
          obtain ⟨e0, e1, e2, e3, e4, e5, e6, e7, _⟩ := L.tl.ownHas.eight
          go_wp2_with fail
          refine (board_any n c _ _ _ _ _ _ _ (by omega)).mono ?_
          rintro e w4 ⟨s4, rfl, hO, hb⟩
          rw [HJ.out] at hO
          have L4 := L.tl.tl.own hb hO
          obtain ⟨a1, p1, hv, _⟩ := hO.reads
          subst hv
          have ⟨_, n0, n1, n2, nf⟩ := L4.tl.ownBox
          have hfin := L4.fin3 (n := w.heap.size + 1 + 1) (x := .int .i64 0) (y := .int .i64 0) (z := .slice none 0 0) (by simp) (.int .i64 n) (.int .i64 c) (.slice a1 (List.zipWith (bits .or .i64) xs ys).length p1)
          have HF := Lib.hid hfin
          rw [HZ.out] at HF ⊢
          clear L L4 hO hb hfin e0 e1 e2 e3 e4 e5 e6 e7
          go_wp2_with fail
          exact bodyPost_ret (v := .tuple #[.agg #[.int .i64 n, .int .i64 c, .slice a1 n p1], .bool true]) (by simp [results, Try.results13, go_sem, n0, n1, n2]) rfl ⟨_, rfl, HF.out.1, HF.out.2⟩

set_option maxHeartbeats 3200000 in
theorem specUnionOf_any (r c : Int) (xs : List Int) (r2 c2 : Int) (ys : List Int) (w : World) (hx : xs.length ≤ 1048576) (hy : ys.length ≤ 1048576) (lo : Nat) (s : Value) (lo2 : Nat) (s2 : Value) (hO : Own w lo s xs) (hO2 : Own w lo2 s2 ys) :
    Calls Try.prog 11 #[.agg #[.int .i64 r, .int .i64 c, s], .agg #[.int .i64 r2, .int .i64 c2, s2]] w fun e w' => AnsB (joinB (bits .or .i64) r c xs r2 c2 ys) w e w' := by
  have L0 := (((Law.start w).box (.int .i64 r) (.int .i64 c) s 26).box (.int .i64 r2) (.int .i64 c2) s2 26).box (.int .i64 0) (.int .i64 0) (.slice none 0 0) 26
  have hO0 := hO.kept L0.below
  simp only [World.size_alloc] at L0
  obtain ⟨a, cap, rfl, hr⟩ := hO.reads
  obtain ⟨a2, cap2, rfl, hr2⟩ := hO2.reads
  have hr0 := L0.reads hr
  have hr20 := L0.reads hr2
  clear hO hO2
  cases hpf : (goodB r c xs && goodB r2 c2 ys && fitB r c r2 c2)
  · rw [show joinB (bits .or .i64) r c xs r2 c2 ys = BR.zero by simp [joinB, hpf]]
    have hc := at_boolB (boFit_any r c r2 c2 a a2 cap cap2 xs ys _ _ _ hx hy hr0 hr20 rfl rfl) hpf
    have HC := Lib.hid hc; clear hc hpf
    go_enter Try.func11, Try.ntmps11
    go_wp2_with fail
    refine HC.out.mono ?_
    rintro e w1 ⟨rfl, hb⟩
    have L1 := L0.kept hb
    have ⟨_, n0, n1, n2, nf⟩ := L1.ownBox
    have HB := Lib.hid L1.below
    clear L0 L1 hb HC hr0 hr20
    go_wp2_with fail
    refine bodyPost_ret (v := .tuple #[.agg #[.int .i64 0, .int .i64 0, .slice none 0 0], .bool false]) (by simp [results, Try.results11, go_sem, n0, n1, n2]) rfl (ansB_zero _ _ ?_)
    exact ((HB.out.setCell (by simp <;> omega) _).setCell (by simp <;> omega) _).setCell (by simp <;> omega) _
  · rw [show joinB (bits .or .i64) r c xs r2 c2 ys = ⟨r, c, List.zipWith (bits .or .i64) xs ys, true⟩ by simp [joinB, hpf]]
    have hc := at_boolB (boFit_any r c r2 c2 a a2 cap cap2 xs ys _ _ _ hx hy hr0 hr20 rfl rfl) hpf
    have HC := Lib.hid hc; clear hc
    rw [Bool.and_eq_true, Bool.and_eq_true] at hpf
    obtain ⟨⟨hp, hq⟩, hf⟩ := hpf
    simp only [fitB, decide_eq_true_eq] at hf
    obtain ⟨h1, h2⟩ := hf
    subst h1 h2
    obtain ⟨g1, g2, g3, _⟩ := good_facts hp
    obtain ⟨_, _, g4, _⟩ := good_facts hq
    have hzy : ys.length = xs.length := by omega
    have hpos : 0 < xs.length := by omega
    have HZY := Lib.hid hzy; clear hzy
    clear hp hq g1 g2 g3 g4
    go_enter Try.func11, Try.ntmps11
    go_wp2_with fail
    refine HC.out.mono ?_
    rintro e w1 ⟨rfl, hb⟩
    have L1 := L0.kept hb
    have hO1 := hO0.kept hb
    have ⟨_, k0, k1, k2, _⟩ := L1.tl.tl.ownBox
    clear L0 hb HC hr0 hr20 hO0
    go_wp2_with fail
    refine (boOwn_any r c xs _ hx lo _ hO1).mono ?_
    rintro e w2 ⟨v, rfl, hO, hb⟩
    rcases hO.cases with ⟨_, rfl⟩ | ⟨g, p1, rfl, q1, q2, q3, q4⟩
    · simp at hpos
    · have hly : (List.zipWith (bits .or .i64) xs ys).length = xs.length := by have := HZY.out; simp; omega
      have hyk : ∀ k, k < xs.length → (List.zipWith (bits .or .i64) xs ys).getD k 0 = bits .or .i64 (xs.getD k 0) (ys.getD k 0) := fun k hk => zip_get _ xs ys xs.length rfl HZY.out k hk
      have HYK := Lib.hid hyk; clear hyk
      generalize hys : List.zipWith (bits .or .i64) xs ys = zs at *
      have HYS := Lib.hid hys; clear hys
      have HLY := Lib.hid hly; clear hly
      have L2 := (L1.own' hb hO (over_zero zs xs)).box (.int .i64 r) (.int .i64 c) (.slice (some ⟨g, 0, none⟩) xs.length p1) 26
      clear hO hO1 hb k0 k1 k2 L1
      have ⟨_, m0, m1, m2, _⟩ := L2.ownBox
      go_wp2_with fail
      go_loopw [18] (fun i wr => ∃ k : Nat, k ≤ xs.length ∧ i = .int .i64 k ∧ Law w [tBox w2.heap.size (.int .i64 r) (.int .i64 c) (.slice (some ⟨g, 0, none⟩) xs.length p1), tOwn (.slice (some ⟨g, 0, none⟩) xs.length p1) (over zs xs k), tBox (w.heap.size + 1 + 1) (.int .i64 0) (.int .i64 0) (.slice none 0 0), tBox (w.heap.size + 1) (.int .i64 r) (.int .i64 c) (.slice a2 ys.length cap2), tBox w.heap.size (.int .i64 r) (.int .i64 c) (.slice a xs.length cap)] wr) (fun i _ => xs.length - (intOf i).toNat)
      case atStart => exact ⟨0, Nat.zero_le _, rfl, L2⟩
      case round =>
        clear L2 m0 m1 m2
        obtain ⟨k, hk, rfl, L⟩ := hrel
        have ⟨_, m0, m1, m2, _⟩ := L.ownBox
        by_cases hlt : k < xs.length
        · have ⟨_, k0, k1, k2, _⟩ := L.tl.tl.tl.ownBox
          have hOk := L.tl.ownInts
          have hol := over_len zs xs k xs.length HLY.out rfl hk
          have hcz := Own.cell (by rw [hol]; exact hOk) k (by omega)
          rw [over_get zs xs k xs.length HLY.out rfl hlt] at hcz
          have hfz := Own.free (by rw [hol]; exact hOk) k
          have hlt2 : k < ys.length := by have := HZY.out; omega
          obtain ⟨b0, o0, rfl, hb0, hc0⟩ := reads_row (L.reads hr2) (by omega)
          have hcy := hc0 k (by omega)
          have hyv := HYK.out k hlt
          generalize xs.getD k 0 = x at *
          generalize ys.getD k 0 = y at *
          have HS := Lib.hid ((Law.store (ts := [_]) L hol k (bits .or .i64 x y)).drew)
          rw [over_set zs xs k xs.length HLY.out rfl hlt _ hyv] at HS
          clear hOk hol hc0 L hyv
          go_wp2_with fail
          go_region
          go_wp2_with fail
          go_roundw
          case rel => exact ⟨k + 1, by omega, by go_num, HS.out⟩
          case measure => simp [intOf]; omega
        · obtain rfl : k = xs.length := by omega
          have ⟨_, n0, n1, n2, nf⟩ := L.tl.tl.ownBox
          have hfin := L.tl.fin3 (n := w.heap.size + 1 + 1) (x := .int .i64 0) (y := .int .i64 0) (z := .slice none 0 0) (by simp) (.int .i64 r) (.int .i64 c) (.slice (some ⟨g, 0, none⟩) xs.length p1)
          rw [over_full zs xs xs.length HLY.out rfl] at hfin
          have HF := Lib.hid hfin
          clear L hfin
          go_wp2_with fail
          exact bodyPost_ret (v := .tuple #[.agg #[.int .i64 r, .int .i64 c, .slice (some ⟨g, 0, none⟩) xs.length p1], .bool true]) (by simp [results, Try.results11, go_sem, n0, n1, n2]) rfl ⟨_, rfl, by first | exact HF.out.1 | (rw [HYS.out]; exact HF.out.1), HF.out.2⟩

set_option maxHeartbeats 3200000 in
theorem implMeetOf_any (r c : Int) (xs : List Int) (r2 c2 : Int) (ys : List Int) (w : World) (hx : xs.length ≤ 1048576) (hy : ys.length ≤ 1048576) (lo : Nat) (s : Value) (lo2 : Nat) (s2 : Value) (hO : Own w lo s xs) (hO2 : Own w lo2 s2 ys) :
    Calls Try.prog 18 #[.agg #[.int .i64 r, .int .i64 c, s], .agg #[.int .i64 r2, .int .i64 c2, s2]] w fun e w' => AnsB (joinB (bits .and .i64) r c xs r2 c2 ys) w e w' := by
  have L0 := (((Law.start w).box (.int .i64 r) (.int .i64 c) s 26).box (.int .i64 r2) (.int .i64 c2) s2 26).box (.int .i64 0) (.int .i64 0) (.slice none 0 0) 26
  simp only [World.size_alloc] at L0
  obtain ⟨a, cap, rfl, hr⟩ := hO.reads
  obtain ⟨a2, cap2, rfl, hr2⟩ := hO2.reads
  have hr0 := L0.reads hr
  have hr20 := L0.reads hr2
  clear hO hO2
  cases hpq : (goodB r c xs && goodB r2 c2 ys)
  · rw [joinB_no1 hpq]
    obtain ⟨R1, C1, M1, R2, C2, M2, hc⟩ := gridsOf_no r c r2 c2 a a2 cap cap2 xs ys _ hx hy hr0 hr20 hpq
    have HC := Lib.hid hc; clear hc hpq
    go_enter Try.func18, Try.ntmps18
    go_wp2_with fail
    refine HC.out.mono ?_
    rintro e w1 ⟨rfl, hb⟩
    have L1 := (L0.kept hb).grids (A := gl R1 C1 M1) (B := gl R2 C2 M2) (t := 56) rfl
    rw [show (w1.alloc (.cells (gl R1 C1 M1).toArray 56)).alloc (.cells (gl R2 C2 M2).toArray 56) = (w1.alloc (.cells #[.int .i64 R1, .int .i64 C1, .int .i64 (M1 0), .int .i64 (M1 1), .int .i64 (M1 2), .int .i64 (M1 3), .int .i64 (M1 4), .int .i64 (M1 5)] 56)).alloc (.cells #[.int .i64 R2, .int .i64 C2, .int .i64 (M2 0), .int .i64 (M2 1), .int .i64 (M2 2), .int .i64 (M2 3), .int .i64 (M2 4), .int .i64 (M2 5)] 56) from rfl] at L1
    clear L0 hb HC hr0 hr20
    go_upto_region 2 with fail
    generalize (w1.alloc (.cells #[.int .i64 R1, .int .i64 C1, .int .i64 (M1 0), .int .i64 (M1 1), .int .i64 (M1 2), .int .i64 (M1 3), .int .i64 (M1 4), .int .i64 (M1 5)] 56)).alloc (.cells #[.int .i64 R2, .int .i64 C2, .int .i64 (M2 0), .int .i64 (M2 1), .int .i64 (M2 2), .int .i64 (M2 3), .int .i64 (M2 4), .int .i64 (M2 5)] 56) = w5 at *
    have ⟨_, n0, n1, n2, nf⟩ := L1.tl.tl.ownBox
    have HB := Lib.hid L1.below
    clear L1
    go_wp2_with fail
    refine bodyPost_ret (v := .tuple #[.agg #[.int .i64 0, .int .i64 0, .slice none 0 0], .bool false]) (by simp [results, Try.results18, go_sem, n0, n1, n2]) rfl (ansB_zero _ _ ?_)
    exact ((HB.out.setCell (by simp <;> omega) _).setCell (by simp <;> omega) _).setCell (by simp <;> omega) _
  · rw [Bool.and_eq_true] at hpq
    obtain ⟨hp, hq⟩ := hpq
    cases hf : fitB r c r2 c2
    · rw [joinB_no2 hf]
      have HFI := Lib.hid hf; clear hf
      obtain ⟨M1, M2, hA, hB, hc⟩ := gridsOf_good r c r2 c2 a a2 cap cap2 xs ys _ hx hy hr0 hr20 hp hq
      clear hA hB
      have HC := Lib.hid hc; clear hc
      go_enter Try.func18, Try.ntmps18
      go_wp2_with fail
      refine HC.out.mono ?_
      rintro e w1 ⟨rfl, hb⟩
      have L1 := (L0.kept hb).grids (A := gl r c M1) (B := gl r2 c2 M2) (t := 56) rfl
      rw [show (w1.alloc (.cells (gl r c M1).toArray 56)).alloc (.cells (gl r2 c2 M2).toArray 56) = (w1.alloc (.cells #[.int .i64 r, .int .i64 c, .int .i64 (M1 0), .int .i64 (M1 1), .int .i64 (M1 2), .int .i64 (M1 3), .int .i64 (M1 4), .int .i64 (M1 5)] 56)).alloc (.cells #[.int .i64 r2, .int .i64 c2, .int .i64 (M2 0), .int .i64 (M2 1), .int .i64 (M2 2), .int .i64 (M2 3), .int .i64 (M2 4), .int .i64 (M2 5)] 56) from rfl] at L1
      clear L0 hb hr0 hr20 hp hq HC
      go_upto_region 2 with fail
      generalize (w1.alloc (.cells #[.int .i64 r, .int .i64 c, .int .i64 (M1 0), .int .i64 (M1 1), .int .i64 (M1 2), .int .i64 (M1 3), .int .i64 (M1 4), .int .i64 (M1 5)] 56)).alloc (.cells #[.int .i64 r2, .int .i64 c2, .int .i64 (M2 0), .int .i64 (M2 1), .int .i64 (M2 2), .int .i64 (M2 3), .int .i64 (M2 4), .int .i64 (M2 5)] 56) = w5 at *
      obtain ⟨e0, e1, e2, e3, e4, e5, e6, e7, _⟩ := L1.ownHas.eight
      obtain ⟨d0, d1, d2, d3, d4, d5, d6, d7, _⟩ := L1.tl.ownHas.eight
      go_wp2_with fail
      refine (at_boolB (fits_any r c r2 c2 M1 M2 _) HFI.out).mono ?_
      rintro e w2 ⟨rfl, hb⟩
      have L2 := L1.kept hb
      have ⟨_, n0, n1, n2, nf⟩ := L2.tl.tl.ownBox
      have HB := Lib.hid L2.below
      clear L1 L2 hb e0 e1 e2 e3 e4 e5 e6 e7 d0 d1 d2 d3 d4 d5 d6 d7
      go_wp2_with fail
      refine bodyPost_ret (v := .tuple #[.agg #[.int .i64 0, .int .i64 0, .slice none 0 0], .bool false]) (by simp [results, Try.results18, go_sem, n0, n1, n2]) rfl (ansB_zero _ _ ?_)
      exact ((HB.out.setCell (by simp <;> omega) _).setCell (by simp <;> omega) _).setCell (by simp <;> omega) _
    · rw [joinB_yes hp hq hf]
      have hf' := hf
      simp only [fitB, decide_eq_true_eq] at hf'
      obtain ⟨h1, h2⟩ := hf'
      subst h1 h2
      obtain ⟨g1, g2, g3, _⟩ := good_facts hp
      obtain ⟨_, _, g4, _⟩ := good_facts hq
      obtain ⟨n, rfl⟩ := Int.eq_ofNat_of_zero_le (show 0 ≤ r by omega)
      obtain ⟨M1, M2, hA, hB, hc⟩ := gridsOf_good n c n c a a2 cap cap2 xs ys _ hx hy hr0 hr20 hp hq
      have HJ := Lib.hid (jn_end (bits .and .i64) M1 M2 xs ys n (by omega) (by omega) (by omega) hA hB)
      clear hA hB
      have hzl : (List.zipWith (bits .and .i64) xs ys).length = n := by simp; omega
      have HZ := Lib.hid hzl; clear hzl
      have HFI := Lib.hid hf; clear hf
      have HC := Lib.hid hc; clear hc
      go_enter Try.func18, Try.ntmps18
      go_wp2_with fail
      refine HC.out.mono ?_
      rintro e w1 ⟨rfl, hb⟩
      have L1 := (L0.kept hb).grids (A := gl n c M1) (B := gl n c M2) (t := 56) rfl
      rw [show (w1.alloc (.cells (gl n c M1).toArray 56)).alloc (.cells (gl n c M2).toArray 56) = (w1.alloc (.cells #[.int .i64 n, .int .i64 c, .int .i64 (M1 0), .int .i64 (M1 1), .int .i64 (M1 2), .int .i64 (M1 3), .int .i64 (M1 4), .int .i64 (M1 5)] 56)).alloc (.cells #[.int .i64 n, .int .i64 c, .int .i64 (M2 0), .int .i64 (M2 1), .int .i64 (M2 2), .int .i64 (M2 3), .int .i64 (M2 4), .int .i64 (M2 5)] 56) from rfl] at L1
      clear L0 hb hr0 hr20 hp hq HC
      go_upto_region 2 with fail
      generalize (w1.alloc (.cells #[.int .i64 n, .int .i64 c, .int .i64 (M1 0), .int .i64 (M1 1), .int .i64 (M1 2), .int .i64 (M1 3), .int .i64 (M1 4), .int .i64 (M1 5)] 56)).alloc (.cells #[.int .i64 n, .int .i64 c, .int .i64 (M2 0), .int .i64 (M2 1), .int .i64 (M2 2), .int .i64 (M2 3), .int .i64 (M2 4), .int .i64 (M2 5)] 56) = w5 at *
      obtain ⟨e0, e1, e2, e3, e4, e5, e6, e7, _⟩ := L1.ownHas.eight
      obtain ⟨d0, d1, d2, d3, d4, d5, d6, d7, _⟩ := L1.tl.ownHas.eight
      go_wp2_with fail
      refine (at_boolB (fits_any n c n c M1 M2 _) HFI.out).mono ?_
      rintro e w2 ⟨rfl, hb⟩
      have L2 := L1.kept hb
      rw [← jn_zero (bits .and .i64) M1 M2] at L2
      clear L1 hb e0 e1 e2 e3 e4 e5 e6 e7 d0 d1 d2 d3 d4 d5 d6 d7
      go_wp2_with fail
      go_loopw [26] (fun i wr => ∃ k : Nat, k ≤ 6 ∧ i = .int .i64 k ∧ Law w [tHas (w1.heap.size + 1) (gl n c M2) 56, tHas w1.heap.size (gl n c (jn (bits .and .i64) M1 M2 k)) 56, tBox (w.heap.size + 1 + 1) (.int .i64 0) (.int .i64 0) (.slice none 0 0), tBox (w.heap.size + 1) (.int .i64 n) (.int .i64 c) (.slice a2 ys.length cap2), tBox w.heap.size (.int .i64 n) (.int .i64 c) (.slice a xs.length cap)] wr) (fun i _ => 6 - (intOf i).toNat)
      case atStart => exact ⟨0, by omega, rfl, L2⟩
      case round =>
        clear L2
        obtain ⟨k, hk, rfl, L⟩ := hrel
        by_cases hlt : k < 6
        · have hcx := L.tl.ownHas.cell (2 + k)
          have hcf := L.tl.ownHas.free (2 + k)
          have hcy := L.ownHas.cell (2 + k)
          rw [gl_get _ _ _ k hlt, jn_at] at hcx
          rw [gl_get _ _ _ k hlt] at hcy
          have hS := (Law.setHas (ts := [_]) L (2 + k) (.int .i64 (bits .and .i64 (M1 k) (M2 k))))
          rw [gl_set n c (jn (bits .and .i64) M1 M2 k) (jn (bits .and .i64) M1 M2 (k + 1)) k hlt _ (jn_put _ M1 M2 k) (fun q hq => jn_off _ M1 M2 k q hq)] at hS
          have HS := Lib.hid hS.drew
          clear L hS
          generalize M1 k = x at *
          generalize M2 k = y at *
          go_wp2_with fail
          go_region
          go_wp2_with fail
          go_roundw
          case rel => exact ⟨k + 1, by omega, by go_num, HS.out⟩
          case measure => simp [intOf]; omega
        · obtain rfl : k = 6 := by omega
          obtain ⟨e0, e1, e2, e3, e4, e5, e6, e7, _⟩ := L.tl.ownHas.eight
          go_wp2_with fail
          refine (board_any n c _ _ _ _ _ _ _ (by omega)).mono ?_
          rintro e w4 ⟨s4, rfl, hO, hb⟩
          rw [HJ.out] at hO
          have L4 := L.tl.tl.own hb hO
          obtain ⟨a1, p1, hv, _⟩ := hO.reads
          subst hv
          have ⟨_, n0, n1, n2, nf⟩ := L4.tl.ownBox
          have hfin := L4.fin3 (n := w.heap.size + 1 + 1) (x := .int .i64 0) (y := .int .i64 0) (z := .slice none 0 0) (by simp) (.int .i64 n) (.int .i64 c) (.slice a1 (List.zipWith (bits .and .i64) xs ys).length p1)
          have HF := Lib.hid hfin
          rw [HZ.out] at HF ⊢
          clear L L4 hO hb hfin e0 e1 e2 e3 e4 e5 e6 e7
          go_wp2_with fail
          exact bodyPost_ret (v := .tuple #[.agg #[.int .i64 n, .int .i64 c, .slice a1 n p1], .bool true]) (by simp [results, Try.results18, go_sem, n0, n1, n2]) rfl ⟨_, rfl, HF.out.1, HF.out.2⟩

set_option maxHeartbeats 3200000 in
theorem specMeetOf_any (r c : Int) (xs : List Int) (r2 c2 : Int) (ys : List Int) (w : World) (hx : xs.length ≤ 1048576) (hy : ys.length ≤ 1048576) (lo : Nat) (s : Value) (lo2 : Nat) (s2 : Value) (hO : Own w lo s xs) (hO2 : Own w lo2 s2 ys) :
    Calls Try.prog 17 #[.agg #[.int .i64 r, .int .i64 c, s], .agg #[.int .i64 r2, .int .i64 c2, s2]] w fun e w' => AnsB (joinB (bits .and .i64) r c xs r2 c2 ys) w e w' := by
  have L0 := (((Law.start w).box (.int .i64 r) (.int .i64 c) s 26).box (.int .i64 r2) (.int .i64 c2) s2 26).box (.int .i64 0) (.int .i64 0) (.slice none 0 0) 26
  have hO0 := hO.kept L0.below
  simp only [World.size_alloc] at L0
  obtain ⟨a, cap, rfl, hr⟩ := hO.reads
  obtain ⟨a2, cap2, rfl, hr2⟩ := hO2.reads
  have hr0 := L0.reads hr
  have hr20 := L0.reads hr2
  clear hO hO2
  cases hpf : (goodB r c xs && goodB r2 c2 ys && fitB r c r2 c2)
  · rw [show joinB (bits .and .i64) r c xs r2 c2 ys = BR.zero by simp [joinB, hpf]]
    have hc := at_boolB (boFit_any r c r2 c2 a a2 cap cap2 xs ys _ _ _ hx hy hr0 hr20 rfl rfl) hpf
    have HC := Lib.hid hc; clear hc hpf
    go_enter Try.func17, Try.ntmps17
    go_wp2_with fail
    refine HC.out.mono ?_
    rintro e w1 ⟨rfl, hb⟩
    have L1 := L0.kept hb
    have ⟨_, n0, n1, n2, nf⟩ := L1.ownBox
    have HB := Lib.hid L1.below
    clear L0 L1 hb HC hr0 hr20
    go_wp2_with fail
    refine bodyPost_ret (v := .tuple #[.agg #[.int .i64 0, .int .i64 0, .slice none 0 0], .bool false]) (by simp [results, Try.results17, go_sem, n0, n1, n2]) rfl (ansB_zero _ _ ?_)
    exact ((HB.out.setCell (by simp <;> omega) _).setCell (by simp <;> omega) _).setCell (by simp <;> omega) _
  · rw [show joinB (bits .and .i64) r c xs r2 c2 ys = ⟨r, c, List.zipWith (bits .and .i64) xs ys, true⟩ by simp [joinB, hpf]]
    have hc := at_boolB (boFit_any r c r2 c2 a a2 cap cap2 xs ys _ _ _ hx hy hr0 hr20 rfl rfl) hpf
    have HC := Lib.hid hc; clear hc
    rw [Bool.and_eq_true, Bool.and_eq_true] at hpf
    obtain ⟨⟨hp, hq⟩, hf⟩ := hpf
    simp only [fitB, decide_eq_true_eq] at hf
    obtain ⟨h1, h2⟩ := hf
    subst h1 h2
    obtain ⟨g1, g2, g3, _⟩ := good_facts hp
    obtain ⟨_, _, g4, _⟩ := good_facts hq
    have hzy : ys.length = xs.length := by omega
    have hpos : 0 < xs.length := by omega
    have HZY := Lib.hid hzy; clear hzy
    clear hp hq g1 g2 g3 g4
    go_enter Try.func17, Try.ntmps17
    go_wp2_with fail
    refine HC.out.mono ?_
    rintro e w1 ⟨rfl, hb⟩
    have L1 := L0.kept hb
    have hO1 := hO0.kept hb
    have ⟨_, k0, k1, k2, _⟩ := L1.tl.tl.ownBox
    clear L0 hb HC hr0 hr20 hO0
    go_wp2_with fail
    refine (boOwn_any r c xs _ hx lo _ hO1).mono ?_
    rintro e w2 ⟨v, rfl, hO, hb⟩
    rcases hO.cases with ⟨_, rfl⟩ | ⟨g, p1, rfl, q1, q2, q3, q4⟩
    · simp at hpos
    · have hly : (List.zipWith (bits .and .i64) xs ys).length = xs.length := by have := HZY.out; simp; omega
      have hyk : ∀ k, k < xs.length → (List.zipWith (bits .and .i64) xs ys).getD k 0 = bits .and .i64 (xs.getD k 0) (ys.getD k 0) := fun k hk => zip_get _ xs ys xs.length rfl HZY.out k hk
      have HYK := Lib.hid hyk; clear hyk
      generalize hys : List.zipWith (bits .and .i64) xs ys = zs at *
      have HYS := Lib.hid hys; clear hys
      have HLY := Lib.hid hly; clear hly
      have L2 := (L1.own' hb hO (over_zero zs xs)).box (.int .i64 r) (.int .i64 c) (.slice (some ⟨g, 0, none⟩) xs.length p1) 26
      clear hO hO1 hb k0 k1 k2 L1
      have ⟨_, m0, m1, m2, _⟩ := L2.ownBox
      go_wp2_with fail
      go_loopw [18] (fun i wr => ∃ k : Nat, k ≤ xs.length ∧ i = .int .i64 k ∧ Law w [tBox w2.heap.size (.int .i64 r) (.int .i64 c) (.slice (some ⟨g, 0, none⟩) xs.length p1), tOwn (.slice (some ⟨g, 0, none⟩) xs.length p1) (over zs xs k), tBox (w.heap.size + 1 + 1) (.int .i64 0) (.int .i64 0) (.slice none 0 0), tBox (w.heap.size + 1) (.int .i64 r) (.int .i64 c) (.slice a2 ys.length cap2), tBox w.heap.size (.int .i64 r) (.int .i64 c) (.slice a xs.length cap)] wr) (fun i _ => xs.length - (intOf i).toNat)
      case atStart => exact ⟨0, Nat.zero_le _, rfl, L2⟩
      case round =>
        clear L2 m0 m1 m2
        obtain ⟨k, hk, rfl, L⟩ := hrel
        have ⟨_, m0, m1, m2, _⟩ := L.ownBox
        by_cases hlt : k < xs.length
        · have ⟨_, k0, k1, k2, _⟩ := L.tl.tl.tl.ownBox
          have hOk := L.tl.ownInts
          have hol := over_len zs xs k xs.length HLY.out rfl hk
          have hcz := Own.cell (by rw [hol]; exact hOk) k (by omega)
          rw [over_get zs xs k xs.length HLY.out rfl hlt] at hcz
          have hfz := Own.free (by rw [hol]; exact hOk) k
          have hlt2 : k < ys.length := by have := HZY.out; omega
          obtain ⟨b0, o0, rfl, hb0, hc0⟩ := reads_row (L.reads hr2) (by omega)
          have hcy := hc0 k (by omega)
          have hyv := HYK.out k hlt
          generalize xs.getD k 0 = x at *
          generalize ys.getD k 0 = y at *
          have HS := Lib.hid ((Law.store (ts := [_]) L hol k (bits .and .i64 x y)).drew)
          rw [over_set zs xs k xs.length HLY.out rfl hlt _ hyv] at HS
          clear hOk hol hc0 L hyv
          go_wp2_with fail
          go_region
          go_wp2_with fail
          go_roundw
          case rel => exact ⟨k + 1, by omega, by go_num, HS.out⟩
          case measure => simp [intOf]; omega
        · obtain rfl : k = xs.length := by omega
          have ⟨_, n0, n1, n2, nf⟩ := L.tl.tl.ownBox
          have hfin := L.tl.fin3 (n := w.heap.size + 1 + 1) (x := .int .i64 0) (y := .int .i64 0) (z := .slice none 0 0) (by simp) (.int .i64 r) (.int .i64 c) (.slice (some ⟨g, 0, none⟩) xs.length p1)
          rw [over_full zs xs xs.length HLY.out rfl] at hfin
          have HF := Lib.hid hfin
          clear L hfin
          go_wp2_with fail
          exact bodyPost_ret (v := .tuple #[.agg #[.int .i64 r, .int .i64 c, .slice (some ⟨g, 0, none⟩) xs.length p1], .bool true]) (by simp [results, Try.results17, go_sem, n0, n1, n2]) rfl ⟨_, rfl, by first | exact HF.out.1 | (rw [HYS.out]; exact HF.out.1), HF.out.2⟩

end Go.Proofs.Ytncbdmeagfadfab
