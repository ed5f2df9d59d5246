/- One board below another, in both texts. No condition but the sizes. -/
import Derived.Test.YtncbdmeagfadfabV
import Derived.Test.YtncbdmeagfadfabT3
import Derived.Deep.RegionLaw
import Derived.BigRegion
namespace Go.Proofs.Ytncbdmeagfadfab
open Go.RowKit Go.WideShapes

theorem at_boolW {P : Program} {f : FuncId} {args : Array Value} {b c : Bool} (h : ∀ w, Calls P f args w fun e w' => e = .returned (.bool b) ∧ w = w') (e : b = c) : ∀ w, Calls P f args w fun e w' => e = .returned (.bool c) ∧ w = w' := by
  subst e
  exact h

/-- A row of the lower board, moved. -/
def shv (y : Int) (m : Nat) : Int := wrap64 (y * 2 ^ m)
def stackB (r c : Int) (xs : List Int) (r2 c2 : Int) (ys : List Int) : BR :=
  if goodB r c xs && goodB r2 c2 ys && (inB 1 (r + r2) 6 && inB 1 (c + c2) 6) then ⟨r + r2, c + c2, xs ++ ys.map (fun y => shv y c.toNat), true⟩ else BR.zero
theorem stackB_len (r c : Int) (xs : List Int) (r2 c2 : Int) (ys : List Int) : (stackB r c xs r2 c2 ys).xs.length ≤ 1048576 := by
  unfold stackB
  split
  · rename_i h
    rw [Bool.and_eq_true, Bool.and_eq_true] at h
    have := good_facts h.1.1
    have := good_facts h.1.2
    simp; omega
  · simp [BR.zero]

/-- The masks behind k rounds. -/
def stk (A B : Nat → Int) (n m k : Nat) : Nat → Int := fun q => if n ≤ q ∧ q < n + k then shv (B (q - n)) m else A q
theorem stk_zero (A B : Nat → Int) (n m : Nat) : stk A B n m 0 = A := by
  funext q
  unfold stk
  rw [if_neg (by omega)]
theorem stk_put (A B : Nat → Int) (n m k : Nat) : stk A B n m (k + 1) (n + k) = shv (B k) m := by
  unfold stk
  rw [if_pos (by omega), Nat.add_sub_cancel_left]
theorem stk_at (A B : Nat → Int) (n m k : Nat) : stk A B n m k (n + k) = A (n + k) := by
  unfold stk
  rw [if_neg (by omega)]
theorem stk_off (A B : Nat → Int) (n m k q : Nat) (h : q ≠ n + k) : stk A B n m (k + 1) q = stk A B n m k q := by
  unfold stk
  by_cases h1 : n ≤ q ∧ q < n + k
  · rw [if_pos h1, if_pos (by omega)]
  · rw [if_neg h1, if_neg (by omega)]
theorem stk_end (A B : Nat → Int) (xs ys : List Int) (n m p : Nat) (hx : xs.length = n) (hy : ys.length = p) (hn : n + p ≤ 6) (hA : ∀ k, A k = xs.getD k 0) (hB : ∀ k, B k = ys.getD k 0) :
    [stk A B n m p 0, stk A B n m p 1, stk A B n m p 2, stk A B n m p 3, stk A B n m p 4, stk A B n m p 5].take (n + p) = xs ++ ys.map (fun y => shv y m) := by
  have := cells_n (n + p) (stk A B n m p) (xs ++ ys.map (fun y => shv y m)) (by simp; omega) hn (fun k hk => by
    unfold stk
    by_cases h : k < n
    · rw [if_neg (by omega), hA]
      simp [List.getD, List.getElem?_append, show k < xs.length by omega]
    · rw [if_pos (by omega), hB]
      rw [List.getD_eq_getElem?_getD, List.getD_eq_getElem?_getD, List.getElem?_append_right (by omega), hx]
      simp [show k - n < ys.length by omega])
  rw [← this, List.map_take]
  rfl

set_option maxHeartbeats 6400000 in
theorem implStack_any (r c : Int) (xs : List Int) (r2 c2 : Int) (ys : List Int) (w : World) (hx : xs.length ≤ 1048576) (hy : ys.length ≤ 1048576) (lo : Nat) (s : Value) (lo2 : Nat) (s2 : Value) (hO : Own w lo s xs) (hO2 : Own w lo2 s2 ys) :
    Calls Try.prog 22 #[.agg #[.int .i64 r, .int .i64 c, s], .agg #[.int .i64 r2, .int .i64 c2, s2]] w fun e w' => AnsB (stackB r c xs r2 c2 ys) w e w' := by
  have L0 := (((Law.start w).box (.int .i64 r) (.int .i64 c) s 26).box (.int .i64 r2) (.int .i64 c2) s2 26).box (.int .i64 0) (.int .i64 0) (.slice none 0 0) 26
  simp only [World.size_alloc] at L0
  obtain ⟨a, cap, rfl, hr⟩ := hO.reads
  obtain ⟨a2, cap2, rfl, hr2⟩ := hO2.reads
  have hr0 := L0.reads hr
  have hr20 := L0.reads hr2
  clear hO hO2
  cases hpq : (goodB r c xs && goodB r2 c2 ys)
  · rw [show stackB r c xs r2 c2 ys = BR.zero by simp [stackB, hpq]]
    obtain ⟨R1, C1, M1, R2, C2, M2, hc⟩ := gridsOf_no r c r2 c2 a a2 cap cap2 xs ys _ hx hy hr0 hr20 hpq
    have HC := Lib.hid hc; clear hc hpq
    go_enter Try.func22, Try.ntmps22
    go_wp2_with fail
    refine HC.out.mono ?_
    rintro e w1 ⟨rfl, hb⟩
    have L1 := (L0.kept hb).grids (A := gl R1 C1 M1) (B := gl R2 C2 M2) (t := 56) rfl
    have HL := Lib.hid L1
    clear L0 hb HC hr0 hr20 L1
    go_upto_region 2 with fail
    have L1 := HL.out
    rw [show (w1.alloc (.cells (gl R1 C1 M1).toArray 56)).alloc (.cells (gl R2 C2 M2).toArray 56) = (w1.alloc (.cells #[.int .i64 R1, .int .i64 C1, .int .i64 (M1 0), .int .i64 (M1 1), .int .i64 (M1 2), .int .i64 (M1 3), .int .i64 (M1 4), .int .i64 (M1 5)] 56)).alloc (.cells #[.int .i64 R2, .int .i64 C2, .int .i64 (M2 0), .int .i64 (M2 1), .int .i64 (M2 2), .int .i64 (M2 3), .int .i64 (M2 4), .int .i64 (M2 5)] 56) from rfl] at L1
    clear HL
    generalize (w1.alloc (.cells #[.int .i64 R1, .int .i64 C1, .int .i64 (M1 0), .int .i64 (M1 1), .int .i64 (M1 2), .int .i64 (M1 3), .int .i64 (M1 4), .int .i64 (M1 5)] 56)).alloc (.cells #[.int .i64 R2, .int .i64 C2, .int .i64 (M2 0), .int .i64 (M2 1), .int .i64 (M2 2), .int .i64 (M2 3), .int .i64 (M2 4), .int .i64 (M2 5)] 56) = w5 at *
    have ⟨_, n0, n1, n2, nf⟩ := L1.tl.tl.ownBox
    have HB := Lib.hid L1.below
    clear L1
    go_wp2_with fail
    refine bodyPost_ret (v := .tuple #[.agg #[.int .i64 0, .int .i64 0, .slice none 0 0], .bool false]) (by simp [results, Try.results22, go_sem, n0, n1, n2]) rfl (ansB_zero _ _ ?_)
    exact ((HB.out.setCell (by simp <;> omega) _).setCell (by simp <;> omega) _).setCell (by simp <;> omega) _
  · rw [Bool.and_eq_true] at hpq
    obtain ⟨hp, hq⟩ := hpq
    obtain ⟨⟨a1l, a1h⟩, ⟨b1l, b1h⟩, g3, _⟩ := good_facts hp
    obtain ⟨⟨a2l, a2h⟩, ⟨b2l, b2h⟩, g4, _⟩ := good_facts hq
    obtain ⟨n, rfl⟩ := Int.eq_ofNat_of_zero_le (show 0 ≤ r by omega)
    obtain ⟨m, rfl⟩ := Int.eq_ofNat_of_zero_le (show 0 ≤ c by omega)
    obtain ⟨p, rfl⟩ := Int.eq_ofNat_of_zero_le (show 0 ≤ r2 by omega)
    obtain ⟨q, rfl⟩ := Int.eq_ofNat_of_zero_le (show 0 ≤ c2 by omega)
    obtain ⟨M1, M2, hA, hB, hc⟩ := gridsOf_good n m p q a a2 cap cap2 xs ys _ hx hy hr0 hr20 hp hq
    have HC := Lib.hid hc; clear hc
    cases hz : (inB 1 ((n : Int) + p) 6 && inB 1 ((m : Int) + q) 6)
    · rw [show stackB n m xs p q ys = BR.zero by simp only [stackB, hz, Bool.and_false]; rfl]
      clear hA hB hp hq hr0 hr20 g3 g4
      cases h1 : inB 1 ((n : Int) + p) 6
      all_goals
        have C1 := Lib.hid (at_boolW (isSide_any ((n : Int) + p)) h1)
        have h2 : inB 1 ((n : Int) + p) 6 = true → inB 1 ((m : Int) + q) 6 = false := fun h => by rw [h, Bool.true_and] at hz; exact hz
        have C2 : Hid (inB 1 ((n : Int) + p) 6 = true → ∀ w, Calls Try.prog 49 #[.int .i64 ((m : Int) + q)] w fun e w' => e = .returned (.bool false) ∧ w = w') := Lib.hid (fun h => at_boolW (isSide_any ((m : Int) + q)) (h2 h))
        have H1 := Lib.hid h1
        clear h1 h2 hz
        go_enter Try.func22, Try.ntmps22
        go_wp2_with fail
        refine HC.out.mono ?_
        rintro e w1 ⟨rfl, hb⟩
        have L1 := (L0.kept hb).grids (A := gl n m M1) (B := gl p q M2) (t := 56) rfl
        have HL := Lib.hid L1
        clear L0 hb HC L1
        go_upto_region 2 with fail
        have L1 := HL.out
        rw [show (w1.alloc (.cells (gl n m M1).toArray 56)).alloc (.cells (gl p q M2).toArray 56) = (w1.alloc (.cells #[.int .i64 n, .int .i64 m, .int .i64 (M1 0), .int .i64 (M1 1), .int .i64 (M1 2), .int .i64 (M1 3), .int .i64 (M1 4), .int .i64 (M1 5)] 56)).alloc (.cells #[.int .i64 p, .int .i64 q, .int .i64 (M2 0), .int .i64 (M2 1), .int .i64 (M2 2), .int .i64 (M2 3), .int .i64 (M2 4), .int .i64 (M2 5)] 56) from rfl] at L1
        clear HL
        generalize (w1.alloc (.cells #[.int .i64 n, .int .i64 m, .int .i64 (M1 0), .int .i64 (M1 1), .int .i64 (M1 2), .int .i64 (M1 3), .int .i64 (M1 4), .int .i64 (M1 5)] 56)).alloc (.cells #[.int .i64 p, .int .i64 q, .int .i64 (M2 0), .int .i64 (M2 1), .int .i64 (M2 2), .int .i64 (M2 3), .int .i64 (M2 4), .int .i64 (M2 5)] 56) = w5 at *
        have ⟨e0, e1, _⟩ := L1.ownHas.eight
        have ⟨d0, d1, _⟩ := L1.tl.ownHas.eight
        have ⟨_, n0, n1, n2, nf⟩ := L1.tl.tl.ownBox
        have HB := Lib.hid L1.below
        clear L1
        go_wp2_with (first | (go_at_call 49; ((with_reducible refine (C1.out _).mono ?_); rintro e w' ⟨rfl, rfl⟩)) | (go_at_call 49; ((with_reducible refine (C2.out H1.out _).mono ?_); rintro e w' ⟨rfl, rfl⟩)))
        refine bodyPost_ret (v := .tuple #[.agg #[.int .i64 0, .int .i64 0, .slice none 0 0], .bool false]) (by simp [results, Try.results22, go_sem, n0, n1, n2]) rfl (ansB_zero _ _ ?_)
        exact ((HB.out.setCell (by simp <;> omega) _).setCell (by simp <;> omega) _).setCell (by simp <;> omega) _
    · rw [show stackB n m xs p q ys = ⟨(n : Int) + p, (m : Int) + q, xs ++ ys.map (fun y => shv y m), true⟩ by simp only [stackB, hz, hp, hq, Bool.and_self, if_true, Int.toNat_natCast]]
      rw [Bool.and_eq_true] at hz
      obtain ⟨h1, h2⟩ := hz
      have C1 := Lib.hid (at_boolW (isSide_any ((n : Int) + p)) h1)
      have C2 := Lib.hid (at_boolW (isSide_any ((m : Int) + q)) h2)
      have f1 := (inB_iff.1 h1).2; have f2 := (inB_iff.1 h2).2
      have HJ := Lib.hid (stk_end M1 M2 xs ys n m p (by omega) (by omega) (by omega) hA hB)
      have HZ := Lib.hid (show (xs ++ ys.map (fun y => shv y m)).length = n + p by simp; omega)
      clear hA hB hp hq hr0 hr20 g3 g4 h1 h2
      go_enter Try.func22, Try.ntmps22
      go_wp2_with fail
      refine HC.out.mono ?_
      rintro e w1 ⟨rfl, hb⟩
      have L1 := (L0.kept hb).grids (A := gl n m M1) (B := gl p q M2) (t := 56) rfl
      have HL := Lib.hid L1
      clear L0 hb HC L1
      go_upto_region 2 with fail
      have L1 := HL.out
      rw [show (w1.alloc (.cells (gl n m M1).toArray 56)).alloc (.cells (gl p q M2).toArray 56) = (w1.alloc (.cells #[.int .i64 n, .int .i64 m, .int .i64 (M1 0), .int .i64 (M1 1), .int .i64 (M1 2), .int .i64 (M1 3), .int .i64 (M1 4), .int .i64 (M1 5)] 56)).alloc (.cells #[.int .i64 p, .int .i64 q, .int .i64 (M2 0), .int .i64 (M2 1), .int .i64 (M2 2), .int .i64 (M2 3), .int .i64 (M2 4), .int .i64 (M2 5)] 56) from rfl] at L1
      clear HL
      generalize (w1.alloc (.cells #[.int .i64 n, .int .i64 m, .int .i64 (M1 0), .int .i64 (M1 1), .int .i64 (M1 2), .int .i64 (M1 3), .int .i64 (M1 4), .int .i64 (M1 5)] 56)).alloc (.cells #[.int .i64 p, .int .i64 q, .int .i64 (M2 0), .int .i64 (M2 1), .int .i64 (M2 2), .int .i64 (M2 3), .int .i64 (M2 4), .int .i64 (M2 5)] 56) = w5 at *
      have ⟨e0, e1, e2, e3, e4, e5, e6, e7, _⟩ := L1.ownHas.eight
      have ⟨d0, d1, d2, d3, d4, d5, d6, d7, _⟩ := L1.tl.ownHas.eight
      have HL := Lib.hid (L1.has (gl ((n : Int) + p) ((m : Int) + q) (stk M1 M2 n m 0)) 56)
      have hzw := L1.holds (tHas (w1.heap.size + 1) (gl p q M2) 56) (by simp)
      have hlt5 : w1.heap.size + 1 < w5.heap.size := Has.lt hzw
      clear L1 hzw
      rw [stk_zero] at HL
      go_upto_region 5 with (first | (go_at_call 49; ((with_reducible refine (C1.out _).mono ?_); rintro e w' ⟨rfl, rfl⟩)) | (go_at_call 49; ((with_reducible refine (C2.out _).mono ?_); rintro e w' ⟨rfl, rfl⟩)))
      have L2 := HL.out
      rw [show w5.alloc (.cells (gl ((n : Int) + p) ((m : Int) + q) M1).toArray 56) = w5.alloc (.cells #[.int .i64 ((n : Int) + p), .int .i64 ((m : Int) + q), .int .i64 (M1 0), .int .i64 (M1 1), .int .i64 (M1 2), .int .i64 (M1 3), .int .i64 (M1 4), .int .i64 (M1 5)] 56) from rfl] at L2
      clear HL e0 e1 e2 e3 e4 e5 e6 e7 d0 d1 d2 d3 d4 d5 d6 d7
      generalize hw6 : w5.alloc (.cells #[.int .i64 ((n : Int) + p), .int .i64 ((m : Int) + q), .int .i64 (M1 0), .int .i64 (M1 1), .int .i64 (M1 2), .int .i64 (M1 3), .int .i64 (M1 4), .int .i64 (M1 5)] 56) = w6 at *
      clear hw6
      go_wp2_with fail
      go_loopw [10] (fun i wr => ∃ k : Nat, k ≤ p ∧ i = .int .i64 k ∧ Law w [tHas w5.heap.size (gl ((n : Int) + p) ((m : Int) + q) (stk M1 M2 n m k)) 56, tHas (w1.heap.size + 1) (gl p q M2) 56, tHas w1.heap.size (gl n m M1) 56, tBox (w.heap.size + 1 + 1) (.int .i64 0) (.int .i64 0) (.slice none 0 0), tBox (w.heap.size + 1) (.int .i64 p) (.int .i64 q) (.slice a2 ys.length cap2), tBox w.heap.size (.int .i64 n) (.int .i64 m) (.slice a xs.length cap)] wr) (fun i _ => p - (intOf i).toNat)
      case atStart => exact ⟨0, by omega, rfl, by rw [stk_zero]; exact L2⟩
      case round =>
        clear L2
        obtain ⟨k, hk, rfl, L⟩ := hrel
        have ⟨e0, e1, _⟩ := L.tl.ownHas.eight
        by_cases hlt : k < p
        · have ⟨d0, d1, _⟩ := L.tl.tl.ownHas.eight
          have hcx := L.ownHas.cell (2 + (n + k))
          have hcf := L.ownHas.free (2 + (n + k))
          have hcy := L.tl.ownHas.cell (2 + k)
          rw [gl_get _ _ _ (n + k) (by omega), stk_at] at hcx
          rw [gl_get _ _ _ k (by omega)] at hcy
          have hS := (Law.setHas (ts := []) L (2 + (n + k)) (.int .i64 (shv (M2 k) m)))
          rw [gl_set _ _ (stk M1 M2 n m k) (stk M1 M2 n m (k + 1)) (n + k) (by omega) _ (stk_put M1 M2 n m k) (fun q hq => stk_off M1 M2 n m k q hq)] at hS
          have HS := Lib.hid hS.drew
          unfold shv at HS
          clear L hS
          generalize M1 (n + k) = x at *
          generalize M2 k = y at *
          go_wp2_with fail
          go_region
          go_wp2_with fail
          go_roundw
          case rel => exact ⟨k + 1, by omega, by go_num, HS.out⟩
          case measure => simp [intOf]; omega
        · obtain rfl : k = p := by omega
          obtain ⟨c0, c1, c2', c3, c4, c5, c6, c7, _⟩ := L.ownHas.eight
          go_wp2_with fail
          rw [show ((n : Int) + (k : Int)) = ((n + k : Nat) : Int) by simp]
          refine (board_any (n + k) ((m : Int) + q) _ _ _ _ _ _ _ (by omega)).mono ?_
          rintro e w4 ⟨s4, rfl, hO, hb⟩
          rw [HJ.out] at hO
          have L4 := L.tl.tl.tl.own hb hO
          obtain ⟨a1, p1, hv, _⟩ := hO.reads
          subst hv
          have ⟨_, n0, n1, n2, nf⟩ := L4.tl.ownBox
          have hfin := L4.fin3 (n := w.heap.size + 1 + 1) (x := .int .i64 0) (y := .int .i64 0) (z := .slice none 0 0) (by simp) (.int .i64 ((n + k : Nat) : Int)) (.int .i64 ((m : Int) + q)) (.slice a1 (xs ++ ys.map (fun y => shv y m)).length p1)
          have HF := Lib.hid hfin
          rw [HZ.out] at HF ⊢
          clear L L4 hO hb hfin e0 e1 c0 c1 c2' c3 c4 c5 c6 c7
          go_wp2_with fail
          exact bodyPost_ret (v := .tuple #[.agg #[.int .i64 ((n + k : Nat) : Int), .int .i64 ((m : Int) + q), .slice a1 (n + k) p1], .bool true]) (by simp [results, Try.results22, go_sem, n0, n1, n2]) rfl ⟨_, rfl, HF.out.1, HF.out.2⟩

end Go.Proofs.Ytncbdmeagfadfab
