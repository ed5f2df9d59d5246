/- One rook number, lists without zeros at their end, in both texts. No condition but the sizes. -/
import Derived.Test.YthiddoaefhmpaaaRn
namespace Go.Proofs.Ythiddoaefhmpaaa
open Go.RowKit Go.WideShapes

theorem Own.capLe {w : World} {lo g L p : Nat} {xs : List Int} (h : Own w lo (.slice (some ⟨g, 0, none⟩) L p) xs) : L ≤ p := by
  rcases h.cases with ⟨h0, _⟩ | ⟨g', p', h0, _, _, h1, _⟩
  · cases h0
  · injection h0 with _ h2 h3
    omega

def sliceLen : Value → Nat
  | .slice _ n _ => n
  | _ => 0



set_option maxRecDepth 100000 in
set_option maxHeartbeats 800000 in
theorem roOf_any (n m k : Nat) (xs : List Int) (w : World) (hx : xs.length ≤ 1048576) (hn : n ≤ 6) (hm : m ≤ 6) (hlen : xs.length = n) (hgc : ∀ k, 0 ≤ xs.getD k 0 ∧ xs.getD k 0 < 64) (lo : Nat) (s : Value) (hO : Own w lo s xs) :
    Calls Try.prog 31 #[.agg #[.int .i64 n, .int .i64 m, s], .int .i64 k] w fun e w' => e = .returned (.int .i64 ((numL n m (bt xs)).getD k 0)) ∧ Below w.heap.size w w' := by
  have L0 := (Law.start w).box (.int .i64 n) (.int .i64 m) s 26
  have hc := roNumbers_any n m xs _ hx hn hm hlen hgc lo s (hO.kept L0.below)
  have hl := numL_len n m (bt xs)
  have hq6 : min n m ≤ 6 := by omega
  generalize numL n m (bt xs) = ys at *
  generalize min n m = q at *
  obtain ⟨x, hxx⟩ : ∃ x, x = ys.getD k 0 := ⟨_, rfl⟩
  rw [← hxx]
  have HX := Lib.hid hxx
  clear hxx
  have HC := Lib.hid hc
  have HLN := Lib.hid hl
  have ⟨_, k0, k1, k2, _⟩ := L0.ownBox
  have HB := Lib.hid L0.below
  obtain ⟨a, cap, rfl, _⟩ := hO.reads
  clear L0 hO hc hlen hgc hl
  go_enter Try.func31, Try.ntmps31
  go_wp2_with fail
  refine HC.out.mono ?_
  rintro e w1 ⟨g, p, rfl, hO, hb⟩
  have HB2 := Lib.hid (below_on HB.out hb)
  clear HB HC hb k0 k1 k2
  by_cases hk : k < q + 1
  · have y1 := Own.cell (by rw [HLN.out]; exact hO) k (by rw [HLN.out]; exact hk)
    have hkq : (k : Int) < (q : Int) + 1 := by omega
    clear hO
    rw [← HX.out] at y1
    go_wp2_with fail
    go_ret
    exact ⟨rfl, HB2.out⟩
  · have HZ := Lib.hid (show ys.getD k 0 = 0 by rw [List.getD_eq_getElem?_getD, List.getElem?_eq_none (by rw [HLN.out]; omega)]; rfl)
    have hkq : (q : Int) + 1 ≤ k := by omega
    clear hO hk
    go_wp2_with fail
    go_ret
    exact ⟨ret_int (HX.out.trans HZ.out).symm, HB2.out⟩

set_option maxRecDepth 100000 in
set_option maxHeartbeats 800000 in
theorem rookNumber_any (n m k : Nat) (M : Nat → Int) (w : World) (hn : n ≤ 6) (hm : m ≤ 6) (hgc : ∀ k, k < 6 → 0 ≤ M k ∧ M k < 64) :
    Calls Try.prog 30 #[gv n m M, .int .i64 k] w fun e w' => e = .returned (.int .i64 ((numL n m (bM M)).getD k 0)) ∧ Below w.heap.size w w' := by
  have L0 := (Law.start w).has (gl n m M) 43
  have hc := fun W => rookNumbers_any n m M W hn hm hgc
  have hl := numL_len n m (bM M)
  have hd : lstL (min n m + 1) (wR m (bM M) n 0 0) = numL n m (bM M) := rfl
  rw [hd] at hc
  clear hd
  have hq6 : min n m ≤ 6 := by omega
  generalize numL n m (bM M) = ys at *
  generalize min n m = q at *
  obtain ⟨x, hxx⟩ : ∃ x, x = ys.getD k 0 := ⟨_, rfl⟩
  rw [← hxx]
  have HX := Lib.hid hxx
  clear hxx
  have HC := Lib.hid hc
  have HLN := Lib.hid hl
  have HB := Lib.hid L0.below
  clear L0 hc hgc hl
  go_enter Try.func30, Try.ntmps30
  go_wp2_with fail
  refine (HC.out _).mono ?_
  rintro e w1 ⟨g, p, rfl, hO, hb⟩
  have HB2 := Lib.hid (below_on HB.out hb)
  clear HB HC hb
  by_cases hk : k < q + 1
  · have y1 := Own.cell (by rw [HLN.out]; exact hO) k (by rw [HLN.out]; exact hk)
    have hkq : (k : Int) < (q : Int) + 1 := by omega
    clear hO
    rw [← HX.out] at y1
    go_wp2_with fail
    go_ret
    exact ⟨rfl, HB2.out⟩
  · have HZ := Lib.hid (show ys.getD k 0 = 0 by rw [List.getD_eq_getElem?_getD, List.getElem?_eq_none (by rw [HLN.out]; omega)]; rfl)
    have hkq : (q : Int) + 1 ≤ k := by omega
    clear hO hk
    go_wp2_with fail
    go_ret
    exact ⟨ret_int (HX.out.trans HZ.out).symm, HB2.out⟩
end Go.Proofs.Ythiddoaefhmpaaa
