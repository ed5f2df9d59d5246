/- Boards turned: the two calls. No condition but the sizes. -/
import Derived.Test.YtakdiiccdkjjcacJ2
namespace Go.Proofs.Ytakdiiccdkjjcac
open Go.RowKit Go.WideShapes

def turnB (r c : Int) (xs : List Int) : BR := if goodB r c xs then ⟨c, r, turnL xs r.toNat c.toNat, true⟩ else BR.zero
theorem turnL_len (xs : List Int) (n m : Nat) (h : m ≤ 6) : (turnL xs n m).length = m := by simp [turnL]; omega
theorem turnB_len (r c : Int) (xs : List Int) : (turnB r c xs).xs.length ≤ 1048576 := by
  unfold turnB
  split
  · rename_i h
    have := good_facts h
    show (turnL xs r.toNat c.toNat).length ≤ _
    rw [turnL_len _ _ _ (by omega)]
    omega
  · simp [BR.zero]


set_option maxHeartbeats 1600000 in
theorem turned_any (r c : Int) (m : Nat → Int) (k j : Nat) (w : World) (hk : k < 6) (hj : j < 6) (hm : 0 ≤ m j ∧ m j < 64) :
    Calls Try.prog 161 #[gv r c m, .int .i64 k, .int .i64 j] w fun e w' => e = .returned (.bool ((m j).toNat.testBit k)) ∧ Below w.heap.size w w' := by
  have HB := Lib.hid (below_new (w := w) (.cells (gl r c m).toArray 83))
  go_enter Try.func161, Try.ntmps161
  go_wp2_with fail
  refine (at_any r c m j k _ hj hk hm).mono ?_
  rintro e w1 ⟨rfl, hb⟩
  have HB2 := Lib.hid (below_on HB.out hb)
  clear hb
  go_wp2_with fail
  go_ret
  exact ⟨rfl, HB2.out⟩

set_option maxRecDepth 100000 in
set_option maxHeartbeats 3200000 in
theorem implTurn_any (r c : Int) (xs : List Int) (w : World) (hx : xs.length ≤ 1048576) (lo : Nat) (s : Value) (hO : Own w lo s xs) :
    Calls Try.prog 127 #[.agg #[.int .i64 r, .int .i64 c, s]] w fun e w' => AnsB (turnB r c xs) w e w' := by
  have L0 := ((Law.start w).box (.int .i64 r) (.int .i64 c) s 28).box (.int .i64 0) (.int .i64 0) (.slice none 0 0) 28
  simp only [World.size_alloc] at L0
  obtain ⟨a, cap, rfl, hr⟩ := hO.reads
  have hr0 := L0.reads hr
  clear hO
  cases hg : goodB r c xs
  · rw [show turnB r c xs = BR.zero by simp [turnB, hg]]
    go_enter Try.func127, Try.ntmps127
    go_wp2_with fail
    refine (gridOf_no r c a cap xs _ hx hr0 hg).mono ?_
    rintro e w1 ⟨rfl, hb⟩
    have L1 := (L0.kept hb).kept (below_new (.cells #[.int .i64 0, .int .i64 0, .int .i64 0, .int .i64 0, .int .i64 0, .int .i64 0, .int .i64 0, .int .i64 0] 83))
    have ⟨_, n0, n1, n2, nf⟩ := L1.ownBox
    have HB := Lib.hid L1.below
    clear L0 L1 hb hg hr0
    go_wp2_with fail
    refine bodyPost_ret (v := .tuple #[.agg #[.int .i64 0, .int .i64 0, .slice none 0 0], .bool false]) (by simp [results, Try.results127, go_sem, n0, n1, n2]) rfl (ansB_zero _ _ ?_)
    exact ((HB.out.setCell (by simp <;> omega) _).setCell (by simp <;> omega) _).setCell (by simp <;> omega) _
  · have hgc := good_cell hg
    obtain ⟨g1, g2, g3, g4⟩ := good_facts hg
    obtain ⟨n, rfl⟩ := Int.eq_ofNat_of_zero_le (show 0 ≤ r by omega)
    obtain ⟨m, rfl⟩ := Int.eq_ofNat_of_zero_le (show 0 ≤ c by omega)
    rw [show turnB n m xs = ⟨m, n, turnL xs n m, true⟩ by simp [turnB, hg]]
    obtain ⟨M, hM, hc⟩ := gridOf_good n m a cap xs _ hx hr0 hg
    have HC := Lib.hid hc; clear hc
    simp only [← hM] at hgc
    have hj : (([0, 1, 2, 3, 4, 5].take m).map fun k => (rowM ((fun i j => (M j).toNat.testBit i : Nat → Nat → Bool) k) n : Int)) = turnL xs n m := by simp only [turnL, bit, hM]
    have HJ := Lib.hid hj
    have HZ := Lib.hid (turnL_len xs n m (by omega))
    clear hj g4 hM hg hr0 g3
    go_enter Try.func127, Try.ntmps127
    go_wp2_with fail
    refine HC.out.mono ?_
    rintro e w1 ⟨rfl, hb⟩
    have L1 := (L0.kept hb).kept (below_new (.cells #[.int .i64 n, .int .i64 m, .int .i64 (M 0), .int .i64 (M 1), .int .i64 (M 2), .int .i64 (M 3), .int .i64 (M 4), .int .i64 (M 5)] 83))
    clear L0 hb HC
    go_wp2_with fail
    refine (drawBoard_any m n 161 #[gv n m M] #[] (fun i j => (M j).toNat.testBit i) _ (by omega) (by omega) (fun _ _ => by kernel_rfl) (fun i j w' hi hj _ => turned_any n m M i j w' (by omega) (by omega) (hgc j))).mono ?_
    rintro e w2 ⟨v, rfl, hO, hb⟩
    rw [HJ.out] at hO
    have L2 := L1.own hb hO
    obtain ⟨a1, p1, hv, _⟩ := hO.reads
    subst hv
    have ⟨_, n0, n1, n2, nf⟩ := L2.tl.ownBox
    have hfin := L2.fin3 (n := w.heap.size + 1) (x := .int .i64 0) (y := .int .i64 0) (z := .slice none 0 0) (by simp) (.int .i64 m) (.int .i64 n) (.slice a1 (turnL xs n m).length p1)
    have HF := Lib.hid hfin
    rw [HZ.out] at HF ⊢
    clear L1 L2 hO hb hfin
    go_wp2_with fail
    exact bodyPost_ret (v := .tuple #[.agg #[.int .i64 m, .int .i64 n, .slice a1 m p1], .bool true]) (by simp [results, Try.results127, go_sem, n0, n1, n2]) rfl ⟨_, rfl, HF.out.1, HF.out.2⟩

end Go.Proofs.Ytakdiiccdkjjcac
