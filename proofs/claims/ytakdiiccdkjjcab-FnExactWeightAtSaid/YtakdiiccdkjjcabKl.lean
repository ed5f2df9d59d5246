/- All weights of lengths, in both texts. No condition but the sizes. -/
import Derived.Test.YtakdiiccdkjjcabKk
import Derived.Test.YtakdiiccdkjjcabM2
namespace Go.Proofs.Ytakdiiccdkjjcab
open Go.RowKit Go.WideShapes

def allwR (xs : List Int) : MR := if lenB xs then ⟨lstR (xs.length + 1) (wts xs xs.length), true⟩ else ⟨[], false⟩
theorem total_map (l : List Nat) (g : Nat → List Int) (B : Nat) (h : ∀ k, (g k).length ≤ B) : total (l.map g) ≤ l.length * B := by
  induction l with
  | nil => simp [total]
  | cons a t ih =>
    have := h a
    rw [List.map_cons, List.length_cons, Nat.succ_mul, total_cons]
    omega
theorem allwR_len (xs : List Int) : (allwR xs).zz.length ≤ 1048576 ∧ total (allwR xs).zz ≤ 1048576 := by
  unfold allwR
  split
  · rename_i h
    obtain ⟨l1, l2, l3, l4, l5⟩ := len_facts h
    refine ⟨by show (lstR _ _).length ≤ _; rw [lstR_len]; omega, ?_⟩
    have := total_map (List.range (xs.length + 1)) (wts xs xs.length) 37 (fun k => by have := wts_len xs (fun k => (l3 k).2) xs.length k; omega)
    rw [List.length_range] at this
    show total (lstR _ _) ≤ _
    unfold lstR
    omega
  · simp [total]

set_option maxRecDepth 100000 in
set_option maxHeartbeats 1600000 in
theorem implAllw_any (xs : List Int) (w : World) (hx : xs.length ≤ 1048576) (lo : Nat) (s : Value) (hO : Own w lo s xs) :
    Calls Try.prog 46 #[s] w (AnsM (allwR xs) w) := by
  have L0 := Law.start w
  obtain ⟨a, p, rfl, hr⟩ := hO.reads
  clear hO
  cases hg : lenB xs
  · rw [show allwR xs = ⟨[], false⟩ by simp [allwR, hg]]
    have HC := Lib.hid (lengthsOf_no a p xs _ hx hr hg)
    clear hg hr
    go_enter Try.func46, Try.ntmps46
    go_wp2_with fail
    refine HC.out.mono ?_
    rintro e w2 ⟨rfl, hb⟩
    have HB := Lib.hid (below_on hb (below_new (.cells #[.int .i64 0, .int .i64 0, .int .i64 0, .int .i64 0, .int .i64 0, .int .i64 0, .int .i64 0] 90)))
    clear hb HC
    go_wp2_with fail
    go_ret2
    exact ⟨_, _, rfl, OwnM.nil _ _, HB.out⟩
  · obtain ⟨l1, l2, l3, _⟩ := len_facts hg
    have hc := lengthsOf_yes a p xs _ hx hr hg
    obtain ⟨n, hn⟩ : ∃ n, n = xs.length := ⟨_, rfl⟩
    rw [show allwR xs = ⟨lstR (n + 1) (wts xs n), true⟩ by rw [hn]; simp [allwR, hg]]
    obtain ⟨M, hM⟩ : ∃ M : Nat → Int, M = fun k => xs.getD k 0 := ⟨_, rfl⟩
    rw [← hM] at hc
    rw [← hn] at hc hr ⊢
    have HC := Lib.hid hc
    have HA := Lib.hid (fun W => allWeights_any n xs M W hn hM hg)
    clear hg hr hM hc l3 hn l1 l2
    generalize lstR (n + 1) (wts xs n) = zz at *
    go_enter Try.func46, Try.ntmps46
    go_wp2_with fail
    refine HC.out.mono ?_
    rintro e w2 ⟨rfl, hb⟩
    have L2 := (L0.kept hb).has (sl n M) 90
    rw [show w2.alloc (.cells (sl n M).toArray 90) = w2.alloc (.cells #[.int .i64 n, .int .i64 (M 0), .int .i64 (M 1), .int .i64 (M 2), .int .i64 (M 3), .int .i64 (M 4), .int .i64 (M 5)] 90) from rfl] at L2
    have HL2 := Lib.hid L2
    clear hb L2 HC L0
    go_upto_region 2 with fail
    generalize w2.alloc _ = w5 at *
    have ⟨e0, e1, e2, e3, e4, e5, e6, _⟩ := HL2.out.ownHas.seven
    go_wp2_with fail
    refine (HA.out _).mono ?_
    rintro e w6 ⟨g, vs, rfl, hO, hb⟩
    have HF := Lib.hid (And.intro (hO.lower HL2.out.below.size) (HL2.out.kept hb).below)
    clear hO hb HL2 HA
    go_wp2_with fail
    go_ret2
    exact ⟨_, vs, rfl, HF.out.1, HF.out.2⟩
set_option maxRecDepth 100000 in
set_option maxHeartbeats 1600000 in
theorem specAllw_any (xs : List Int) (w : World) (hx : xs.length ≤ 1048576) (lo : Nat) (s : Value) (hO : Own w lo s xs) :
    Calls Try.prog 44 #[s] w (AnsM (allwR xs) w) := by
  obtain ⟨a, p, rfl, hr⟩ := hO.reads
  clear hO
  have HG := Lib.hid (feGood_any a p xs w hx hr)
  cases hg : lenB xs
  · rw [show allwR xs = ⟨[], false⟩ by simp [allwR, hg]]
    rw [hg] at HG
    clear hg hr
    go_enter Try.func44, Try.ntmps44
    go_wp2_with fail
    refine HG.out.mono ?_
    rintro e w2 ⟨rfl, hb⟩
    have HB := Lib.hid hb
    clear hb
    go_wp2_with fail
    go_ret2
    exact ⟨_, _, rfl, OwnM.nil _ _, HB.out⟩
  · obtain ⟨l1, l2, l3, _⟩ := len_facts hg
    rw [hg] at HG
    rw [show allwR xs = ⟨lstR (xs.length + 1) (wts xs xs.length), true⟩ by simp [allwR, hg]]
    have HA := Lib.hid (fun W h => weAll_any xs a p W l1 l2 l3 h)
    have HR := Lib.hid hr
    clear hg hr l3 l1 l2
    generalize lstR (xs.length + 1) (wts xs xs.length) = zz at *
    go_enter Try.func44, Try.ntmps44
    go_wp2_with fail
    refine HG.out.mono ?_
    rintro e w2 ⟨rfl, hb⟩
    have HB := Lib.hid hb
    clear hb
    go_wp2_with fail
    refine (HA.out _ (HR.out.kept HB.out)).mono ?_
    rintro e w6 ⟨g, vs, rfl, hO, hb⟩
    have HF := Lib.hid (And.intro (hO.lower HB.out.size) (below_on HB.out hb))
    clear hO hb HA
    go_wp2_with fail
    go_ret2
    exact ⟨_, vs, rfl, HF.out.1, HF.out.2⟩
end Go.Proofs.Ytakdiiccdkjjcab
