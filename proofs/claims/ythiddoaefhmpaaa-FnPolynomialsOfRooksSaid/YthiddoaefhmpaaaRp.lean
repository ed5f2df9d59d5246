/- The most rooks, and permanents: both texts. No condition but the sizes. -/
import Derived.Test.YthiddoaefhmpaaaRo
import Derived.Test.YthiddoaefhmpaaaQm
namespace Go.Proofs.Ythiddoaefhmpaaa
open Go.RowKit Go.WideShapes

def mostB (r c : Int) (xs : List Int) : R1 := if goodB r c xs then ⟨(shK (numL r.toNat c.toNat (bt xs)) (min r.toNat c.toNat + 1) : Int) - 1, true⟩ else ⟨0, false⟩
/-- As many rows as columns? -/
def sqB (r c : Int) (xs : List Int) : Bool := goodB r c xs && (r == c)
def permB (r c : Int) (xs : List Int) : R1 := if sqB r c xs then ⟨(numL r.toNat r.toNat (bt xs)).getD r.toNat 0, true⟩ else ⟨0, false⟩



theorem sq_facts {r c : Int} {xs : List Int} (h : sqB r c xs = true) : goodB r c xs = true ∧ r = c := by
  rw [sqB, Bool.and_eq_true, beq_iff_eq] at h
  exact h

set_option maxRecDepth 100000 in
set_option maxHeartbeats 1600000 in
theorem roSquare_any (r c : Int) (xs : List Int) (w : World) (hx : xs.length ≤ 1048576) (a : Option Addr) (cap : Nat) (hr : Reads w a xs.length xs) :
    Calls Try.prog 23 #[.agg #[.int .i64 r, .int .i64 c, .slice a xs.length cap]] w fun e w' => e = .returned (.bool (sqB r c xs)) ∧ Below w.heap.size w w' := by
  have L0 := (Law.start w).box (.int .i64 r) (.int .i64 c) (.slice a xs.length cap) 26
  have hr0 := L0.reads hr
  cases hg : goodB r c xs
  · rw [show sqB r c xs = false by simp [sqB, hg]]
    go_enter Try.func23, Try.ntmps23
    go_wp2_with fail
    refine (at_boolB (boGood_any r c a cap xs _ hx hr0) hg).mono ?_
    rintro e w1 ⟨rfl, hb⟩
    have HB := Lib.hid (L0.kept hb).below
    clear L0 hb hg hr0
    go_wp2_with fail
    go_ret
    exact ⟨rfl, HB.out⟩
  · rw [show sqB r c xs = (r == c) by simp [sqB, hg]]
    go_enter Try.func23, Try.ntmps23
    go_wp2_with fail
    refine (at_boolB (boGood_any r c a cap xs _ hx hr0) hg).mono ?_
    rintro e w1 ⟨rfl, hb⟩
    have HB := Lib.hid (L0.kept hb).below
    have ⟨_, k0, k1, k2, _⟩ := (L0.kept hb).ownBox
    clear L0 hb hg hr0
    go_wp2_with fail
    go_ret
    exact ⟨rfl, HB.out⟩

set_option maxRecDepth 100000 in
set_option maxHeartbeats 1600000 in
theorem specPerm_any (r c : Int) (xs : List Int) (w : World) (hx : xs.length ≤ 1048576) (lo : Nat) (s : Value) (hO : Own w lo s xs) :
    Calls Try.prog 14 #[.agg #[.int .i64 r, .int .i64 c, s]] w fun e w' => AnsIO (permB r c xs) w e w' := by
  have L0 := (Law.start w).box (.int .i64 r) (.int .i64 c) s 26
  have hO0 := hO.kept L0.below
  obtain ⟨a, cap, rfl, hr⟩ := hO.reads
  have hr0 := L0.reads hr
  clear hO
  cases hs : sqB r c xs
  · rw [show permB r c xs = ⟨0, false⟩ by simp [permB, hs]]
    go_enter Try.func14, Try.ntmps14
    go_wp2_with fail
    refine (at_boolB (roSquare_any r c xs _ hx a cap hr0) hs).mono ?_
    rintro e w1 ⟨rfl, hb⟩
    have HB := Lib.hid (L0.kept hb).below
    clear L0 hb hs hr0 hO0
    go_wp2_with fail
    go_ret2
    exact ⟨rfl, HB.out⟩
  · obtain ⟨hg, rfl⟩ := sq_facts hs
    obtain ⟨g1, g2, g3, _⟩ := good_facts hg
    obtain ⟨n, rfl⟩ := Int.eq_ofNat_of_zero_le (show 0 ≤ r by omega)
    rw [show permB n n xs = ⟨(numL n n (bt xs)).getD n 0, true⟩ by simp [permB, hs]]
    have HC := Lib.hid (at_boolB (roSquare_any n n xs _ hx a cap hr0) hs)
    have HN := Lib.hid (fun (W : World) (hO : Own W lo (.slice a xs.length cap) xs) => roOf_any n n n xs W hx (by omega) (by omega) (by omega) (good_cell hg) lo _ hO)
    clear hg hr0 hs
    generalize (numL n n (bt xs)).getD n 0 = y at *
    go_enter Try.func14, Try.ntmps14
    go_wp2_with fail
    refine HC.out.mono ?_
    rintro e w1 ⟨rfl, hb⟩
    have L1 := L0.kept hb
    have hO1 := hO0.kept hb
    have ⟨_, k0, k1, k2, _⟩ := L1.ownBox
    have HL := Lib.hid L1
    clear L0 L1 hb HC hO0
    go_wp2_with fail
    refine (HN.out _ hO1).mono ?_
    rintro e w2 ⟨rfl, hb⟩
    have HB := Lib.hid (HL.out.kept hb).below
    clear HL hO1 hb k0 k1 k2
    go_wp2_with fail
    go_ret2
    exact ⟨rfl, HB.out⟩

set_option maxRecDepth 100000 in
set_option maxHeartbeats 1600000 in
theorem implPerm_any (r c : Int) (xs : List Int) (w : World) (hx : xs.length ≤ 1048576) (lo : Nat) (s : Value) (hO : Own w lo s xs) :
    Calls Try.prog 13 #[.agg #[.int .i64 r, .int .i64 c, s]] w fun e w' => AnsIO (permB r c xs) w e w' := by
  have L0 := (Law.start w).box (.int .i64 r) (.int .i64 c) s 26
  obtain ⟨a, cap, rfl, hr⟩ := hO.reads
  have hr0 := L0.reads hr
  clear hO
  cases hg : goodB r c xs
  · rw [show permB r c xs = ⟨0, false⟩ by simp [permB, sqB, hg]]
    go_enter Try.func13, Try.ntmps13
    go_wp2_with fail
    refine (gridOf_no r c a cap xs _ hx hr0 hg).mono ?_
    rintro e w1 ⟨rfl, hb⟩
    have HB := Lib.hid (((L0.kept hb).kept (below_new (.cells #[.int .i64 0, .int .i64 0, .int .i64 0, .int .i64 0, .int .i64 0, .int .i64 0, .int .i64 0, .int .i64 0] 43))).below)
    clear L0 hb hg hr0
    go_wp2_with fail
    go_ret2
    exact ⟨rfl, HB.out⟩
  · obtain ⟨g1, g2, g3, _⟩ := good_facts hg
    have hgc := good_cell hg
    have HC := Lib.hid (gridOf_yes r c a cap xs _ hx hr0 hg)
    by_cases hrc : r = c
    · subst hrc
      obtain ⟨n, rfl⟩ := Int.eq_ofNat_of_zero_le (show 0 ≤ r by omega)
      rw [show permB n n xs = ⟨(numL n n (bt xs)).getD n 0, true⟩ by simp [permB, sqB, hg]]
      have hn := fun W => rookNumber_any n n n (fun k => xs.getD k 0) W (by omega) (by omega) (fun k _ => hgc k)
      have hd : numL n n (bM fun k => xs.getD k 0) = numL n n (bt xs) := rfl
      rw [hd] at hn
      have HN := Lib.hid hn
      clear hg hr0 hgc hn hd
      generalize (numL n n (bt xs)).getD n 0 = y at *
      go_enter Try.func13, Try.ntmps13
      go_wp2_with fail
      refine HC.out.mono ?_
      rintro e w1 ⟨rfl, hb⟩
      have HL := Lib.hid ((L0.kept hb).kept (below_new (.cells (gl n n (fun k => xs.getD k 0)).toArray 43)))
      clear L0 hb HC
      go_wp2_with fail
      refine (HN.out _).mono ?_
      rintro e w2 ⟨rfl, hb⟩
      have HB := Lib.hid (HL.out.kept hb).below
      clear HL hb HN
      go_wp2_with fail
      go_ret2
      exact ⟨rfl, HB.out⟩
    · have hne : (r != c) = true := by simp [hrc]
      rw [show permB r c xs = ⟨0, false⟩ by simp [permB, sqB, hrc]]
      clear hg hr0 hgc hrc
      go_enter Try.func13, Try.ntmps13
      go_wp2_with fail
      refine HC.out.mono ?_
      rintro e w1 ⟨rfl, hb⟩
      have HL := Lib.hid ((L0.kept hb).kept (below_new (.cells (gl r c (fun k => xs.getD k 0)).toArray 43))).below
      clear L0 hb HC
      go_wp2_with fail
      go_ret2
      exact ⟨rfl, HL.out⟩
end Go.Proofs.Ythiddoaefhmpaaa
