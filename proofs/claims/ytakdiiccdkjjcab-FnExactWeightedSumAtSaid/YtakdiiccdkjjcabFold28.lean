import Derived.Test.YtakdiiccdkjjcabFold26
import Derived.Test.YtakdiiccdkjjcabFold27
import Derived.Deep.RegionHeld3

section
namespace Go.Proofs.Ytakdiiccdkjjcab
open Go.RowKit Go.WideShapes

set_option maxRecDepth 100000 in
set_option maxHeartbeats 3200000 in
theorem fallB_any (Q : Nat) (hQ : Q = 2 ∨ Q = 3) (x : Int) (c : Nat) (w : World) (hx1 : (c : Int) ≤ x) (hx2 : x ≤ 8) (hb : ∀ i, i ≤ c → 0 ≤ falB Q x i ∧ falB Q x i ≤ 9000000000000000000) :
    Calls Try.prog 100 #[.int .i64 x, .int .i64 c, fV Q] w fun e w' => e = .returned (.int .i64 (falB Q x c)) ∧ Below w.heap.size w w' := by
  have HB := Lib.hid hb
  have HS := Lib.hid (fun i => show falB Q x (i + 1) = falB Q x i * brk Q (x - i).toNat from rfl)
  have HBR := Lib.hid (fun m W hm => bracket_any Q hQ m W hm)
  have H0 := Lib.hid (show falB Q x 0 = 1 from rfl)
  clear hb hQ
  generalize falB Q x = FB at *
  generalize brk Q = K at *
  generalize fV Q = F at *
  go_enter Try.func100, Try.ntmps100
  go_wp2_with fail
  go_loopw [7, 10] (fun t i wr => ∃ j : Nat, j ≤ c ∧ i = .int .i64 j ∧ t = .int .i64 (FB j) ∧ Hid (Below w.heap.size w wr)) (fun _ i _ => c - (intOf i).toNat)
  case atStart => exact ⟨0, Nat.zero_le _, rfl, by rw [H0.out], Lib.hid (Below.refl _ _)⟩
  case round =>
    obtain ⟨j, hj, rfl, rfl, HBL⟩ := hrel
    by_cases hlt : j < c
    · obtain ⟨m, hm⟩ := Int.eq_ofNat_of_zero_le (show 0 ≤ x - j by omega)
      have hst := HS.out j
      rw [hm, Int.toNat_natCast] at hst
      have hb1 := HB.out (j + 1) hlt
      rw [hst] at hb1
      have HB1 := Lib.hid (fun W => show Calls Try.prog 136 #[.int .i64 (x - j), F] W fun e w' => e = .returned (.int .i64 (K m)) ∧ Below W.heap.size W w' by rw [hm]; exact HBR.out m W (by omega))
      have HMU := Lib.hid ((show wrap64 (FB j * K m) = FB j * K m from IntWalk.wrap64_in _ (by omega)).trans hst.symm)
      clear hst hb1 hm
      go_wp2_with fail
      refine (HB1.out _).mono ?_
      rintro e w6 ⟨rfl, hb⟩
      have HBL2 := Lib.hid (below_on HBL.out hb)
      clear hb HBL
      go_wp2_with fail
      go_roundw
      case rel => exact ⟨j + 1, by omega, by go_num, by rw [HMU.out], HBL2⟩
      case measure => simp [intOf]; omega
    · obtain rfl : j = c := by omega
      go_wp2_with fail
      go_ret
      exact ⟨rfl, HBL.out⟩
set_option maxRecDepth 100000 in
set_option maxHeartbeats 6400000 in
theorem sum1_2 (bw bf bx bs g n k p2 : Nat) (a2 : Option Addr) (ys : List Int) (x : Int) (V FB : Int) (w : World) (hk : k ≤ n) (hn : n ≤ 4)
    (h1 : w.cell? ⟨bw, 0, none⟩ = some (.slice (some ⟨g, 0, none⟩) (n + 1) (n + 1))) (h2 : w.cell? ⟨bf, 0, none⟩ = some fV2) (h3 : w.cell? ⟨bx, 0, none⟩ = some (.int .i64 x)) (h4 : w.cell? ⟨bs, 0, none⟩ = some (.int .i64 n))
    (h5 : w.cell? ⟨g, k, none⟩ = some (.slice a2 ys.length p2)) (hr : Reads w a2 ys.length ys)
    (hV : ∀ a2 p2 W, Reads W a2 ys.length ys → Calls Try.prog 94 #[.slice a2 ys.length p2, .int .i64 2] W fun e w' => e = .returned (.int .i64 V) ∧ Below W.heap.size W w')
    (hF : ∀ W, Calls Try.prog 100 #[.int .i64 x, .int .i64 ((n : Int) - k), fV2] W fun e w' => e = .returned (.int .i64 FB) ∧ Below W.heap.size W w') (hm : IntKind.i64.wrap (V * FB) = V * FB) :
    Calls Try.prog 99 (#[.int .i64 k] ++ #[.pointer (some ⟨bw, 0, none⟩), .pointer (some ⟨bf, 0, none⟩), .pointer (some ⟨bx, 0, none⟩), .pointer (some ⟨bs, 0, none⟩)]) w fun e w' => e = .returned (.int .i64 (V * FB)) ∧ Below w.heap.size w w' := by
  have HV := Lib.hid hV
  have HF := Lib.hid hF
  have HZ := Lib.hid size_2
  have hmt := fun w => meth_size2 w
  have hk0 : (0 : Int) ≤ k := by omega
  have hk1 : (k : Int) < (n : Int) + 1 := by omega
  have hsub : IntKind.i64.wrap ((n : Int) - k) = (n : Int) - k := IntWalk.i64_in _ (by omega)
  have HR := Lib.hid (show Reads w.drew a2 ys.length ys from hr.kept (Below.refl _ _).drew)
  have HB := Lib.hid (show Below w.heap.size w w.drew from (Below.refl _ _).drew)
  have j1 : w.drew.cell? ⟨bw, 0, none⟩ = some (.slice (some ⟨g, 0, none⟩) (n + 1) (n + 1)) := h1
  have j2 : w.drew.cell? ⟨bf, 0, none⟩ = some fV2 := h2
  have j3 : w.drew.cell? ⟨bx, 0, none⟩ = some (.int .i64 x) := h3
  have j4 : w.drew.cell? ⟨bs, 0, none⟩ = some (.int .i64 n) := h4
  have j5 : w.drew.cell? ⟨g, k, none⟩ = some (.slice a2 ys.length p2) := h5
  clear hV hF hr h1 h2 h3 h4 h5
  go_enter Try.func99, Try.ntmps99
  go_wp2_with fail
  go_region_held3 (fun w' => w'.cell? ⟨bw, 0, none⟩ = some (.slice (some ⟨g, 0, none⟩) (n + 1) (n + 1)) ∧ w'.cell? ⟨bf, 0, none⟩ = some fV2 ∧ w'.cell? ⟨bx, 0, none⟩ = some (.int .i64 x) ∧ w'.cell? ⟨bs, 0, none⟩ = some (.int .i64 n) ∧ w'.cell? ⟨g, k, none⟩ = some (.slice a2 ys.length p2)) (first | (repeat' apply And.intro) <;> first | with_reducible assumption | assumption) ((first
    | (go_at_call 167; ((with_reducible refine (HZ.out _).mono ?_); rintro e wA ⟨rfl, hb⟩; replace j1 := cell_later hb j1; replace j2 := cell_later hb j2; replace j3 := cell_later hb j3; replace j4 := cell_later hb j4; replace j5 := cell_later hb j5; replace HR := Lib.hid (HR.out.kept hb); replace HB := Lib.hid (below_on HB.out hb); clear hb))
    | (go_at_call 94; ((with_reducible refine (HV.out _ _ _ HR.out).mono ?_); rintro e wB ⟨rfl, hb⟩; replace j1 := cell_later hb j1; replace j2 := cell_later hb j2; replace j3 := cell_later hb j3; replace j4 := cell_later hb j4; replace j5 := cell_later hb j5; replace HR := Lib.hid (HR.out.kept hb); replace HB := Lib.hid (below_on HB.out hb); clear hb))
    | (go_at_call 100; ((with_reducible refine (HF.out _).mono ?_); rintro e wC ⟨rfl, hb⟩; replace j1 := cell_later hb j1; replace j2 := cell_later hb j2; replace j3 := cell_later hb j3; replace j4 := cell_later hb j4; replace j5 := cell_later hb j5; replace HR := Lib.hid (HR.out.kept hb); replace HB := Lib.hid (below_on HB.out hb); clear hb))
    | fail))
  all_goals
    clear j1 j2 j3 j4 j5
    go_wp2_with fail
    go_ret
    exact ⟨rfl, HB.out⟩
set_option maxRecDepth 100000 in
set_option maxHeartbeats 6400000 in
theorem sum1_3 (bw bf bx bs g n k p2 : Nat) (a2 : Option Addr) (ys : List Int) (x : Int) (V FB : Int) (w : World) (hk : k ≤ n) (hn : n ≤ 4)
    (h1 : w.cell? ⟨bw, 0, none⟩ = some (.slice (some ⟨g, 0, none⟩) (n + 1) (n + 1))) (h2 : w.cell? ⟨bf, 0, none⟩ = some fV3) (h3 : w.cell? ⟨bx, 0, none⟩ = some (.int .i64 x)) (h4 : w.cell? ⟨bs, 0, none⟩ = some (.int .i64 n))
    (h5 : w.cell? ⟨g, k, none⟩ = some (.slice a2 ys.length p2)) (hr : Reads w a2 ys.length ys)
    (hV : ∀ a2 p2 W, Reads W a2 ys.length ys → Calls Try.prog 94 #[.slice a2 ys.length p2, .int .i64 3] W fun e w' => e = .returned (.int .i64 V) ∧ Below W.heap.size W w')
    (hF : ∀ W, Calls Try.prog 100 #[.int .i64 x, .int .i64 ((n : Int) - k), fV3] W fun e w' => e = .returned (.int .i64 FB) ∧ Below W.heap.size W w') (hm : IntKind.i64.wrap (V * FB) = V * FB) :
    Calls Try.prog 99 (#[.int .i64 k] ++ #[.pointer (some ⟨bw, 0, none⟩), .pointer (some ⟨bf, 0, none⟩), .pointer (some ⟨bx, 0, none⟩), .pointer (some ⟨bs, 0, none⟩)]) w fun e w' => e = .returned (.int .i64 (V * FB)) ∧ Below w.heap.size w w' := by
  have HV := Lib.hid hV
  have HF := Lib.hid hF
  have HZ := Lib.hid size_3
  have hmt := fun w => meth_size3 w
  have hk0 : (0 : Int) ≤ k := by omega
  have hk1 : (k : Int) < (n : Int) + 1 := by omega
  have hsub : IntKind.i64.wrap ((n : Int) - k) = (n : Int) - k := IntWalk.i64_in _ (by omega)
  have HR := Lib.hid (show Reads w.drew a2 ys.length ys from hr.kept (Below.refl _ _).drew)
  have HB := Lib.hid (show Below w.heap.size w w.drew from (Below.refl _ _).drew)
  have j1 : w.drew.cell? ⟨bw, 0, none⟩ = some (.slice (some ⟨g, 0, none⟩) (n + 1) (n + 1)) := h1
  have j2 : w.drew.cell? ⟨bf, 0, none⟩ = some fV3 := h2
  have j3 : w.drew.cell? ⟨bx, 0, none⟩ = some (.int .i64 x) := h3
  have j4 : w.drew.cell? ⟨bs, 0, none⟩ = some (.int .i64 n) := h4
  have j5 : w.drew.cell? ⟨g, k, none⟩ = some (.slice a2 ys.length p2) := h5
  clear hV hF hr h1 h2 h3 h4 h5
  go_enter Try.func99, Try.ntmps99
  go_wp2_with fail
  go_region_held3 (fun w' => w'.cell? ⟨bw, 0, none⟩ = some (.slice (some ⟨g, 0, none⟩) (n + 1) (n + 1)) ∧ w'.cell? ⟨bf, 0, none⟩ = some fV3 ∧ w'.cell? ⟨bx, 0, none⟩ = some (.int .i64 x) ∧ w'.cell? ⟨bs, 0, none⟩ = some (.int .i64 n) ∧ w'.cell? ⟨g, k, none⟩ = some (.slice a2 ys.length p2)) (first | (repeat' apply And.intro) <;> first | with_reducible assumption | assumption) ((first
    | (go_at_call 171; ((with_reducible refine (HZ.out _).mono ?_); rintro e wA ⟨rfl, hb⟩; replace j1 := cell_later hb j1; replace j2 := cell_later hb j2; replace j3 := cell_later hb j3; replace j4 := cell_later hb j4; replace j5 := cell_later hb j5; replace HR := Lib.hid (HR.out.kept hb); replace HB := Lib.hid (below_on HB.out hb); clear hb))
    | (go_at_call 94; ((with_reducible refine (HV.out _ _ _ HR.out).mono ?_); rintro e wB ⟨rfl, hb⟩; replace j1 := cell_later hb j1; replace j2 := cell_later hb j2; replace j3 := cell_later hb j3; replace j4 := cell_later hb j4; replace j5 := cell_later hb j5; replace HR := Lib.hid (HR.out.kept hb); replace HB := Lib.hid (below_on HB.out hb); clear hb))
    | (go_at_call 100; ((with_reducible refine (HF.out _).mono ?_); rintro e wC ⟨rfl, hb⟩; replace j1 := cell_later hb j1; replace j2 := cell_later hb j2; replace j3 := cell_later hb j3; replace j4 := cell_later hb j4; replace j5 := cell_later hb j5; replace HR := Lib.hid (HR.out.kept hb); replace HB := Lib.hid (below_on HB.out hb); clear hb))
    | fail))
  all_goals
    clear j1 j2 j3 j4 j5
    go_wp2_with fail
    go_ret
    exact ⟨rfl, HB.out⟩
end Go.Proofs.Ytakdiiccdkjjcab
end

section
namespace Go.Proofs.Ytakdiiccdkjjcab
open Go.RowKit Go.WideShapes

/-- What stands for a field. -/
def isF (F : Value) : Prop := F = .nilIface ∨ F = fV2 ∨ F = fV3
theorem isF_fV (q : Nat) (hq : q = 2 ∨ q = 3) : isF (fV q) := by
  rcases hq with rfl | rfl
  · exact .inr (.inl rfl)
  · exact .inr (.inr rfl)
set_option maxRecDepth 100000 in
set_option maxHeartbeats 1600000 in
theorem over_noF (a : Option Addr) (p : Nat) (xs : List Int) (q : Int) (w : World) (hx : xs.length ≤ 1048576) (hr : Reads w a xs.length xs) (hg : (lenB xs && isQ q) = false) :
    Calls Try.prog 93 #[.slice a xs.length p, .int .i64 q] w fun e w' => (∃ u N F, isF F ∧ e = .returned (.tuple #[sv u N, F, .bool false])) ∧ Below w.heap.size w w' := by
  have L0 := (Law.start w).has (sl 0 (fun _ => 0)) 90
  rw [show w.alloc (.cells (sl 0 (fun _ => 0)).toArray 90) = w.alloc (.cells #[.int .i64 0, .int .i64 0, .int .i64 0, .int .i64 0, .int .i64 0, .int .i64 0, .int .i64 0] 90) from rfl] at L0
  have hc : ∃ (u : Int) (N : Nat → Int), Calls Try.prog 88 #[.slice a xs.length p] (w.alloc (.cells #[.int .i64 0, .int .i64 0, .int .i64 0, .int .i64 0, .int .i64 0, .int .i64 0, .int .i64 0] 90)) fun e w' => e = .returned (.tuple #[sv u N, .bool (lenB xs)]) ∧ Below (w.alloc (.cells #[.int .i64 0, .int .i64 0, .int .i64 0, .int .i64 0, .int .i64 0, .int .i64 0, .int .i64 0] 90)).heap.size (w.alloc (.cells #[.int .i64 0, .int .i64 0, .int .i64 0, .int .i64 0, .int .i64 0, .int .i64 0, .int .i64 0] 90)) w' := by
    cases h : lenB xs
    · exact ⟨0, fun _ => 0, lengthsOf_no a p xs _ hx (L0.reads hr) h⟩
    · exact ⟨_, _, lengthsOf_yes a p xs _ hx (L0.reads hr) h⟩
  have hf : ∃ F, isF F ∧ ∀ W, Calls Try.prog 133 #[.int .i64 q] W fun e w' => e = .returned (.tuple #[F, .bool (isQ q)]) ∧ W = w' := by
    cases h : isQ q
    · exact ⟨_, .inl rfl, fun W => fieldOf_no q W h⟩
    · obtain ⟨n, rfl, hn⟩ := isQ_nat h
      exact ⟨_, isF_fV n hn, fun W => fieldOf_yes n hn W⟩
  obtain ⟨u, M, hc⟩ := hc
  obtain ⟨F, hF, hf⟩ := hf
  have HIF := Lib.hid hF
  clear hF
  have HF := Lib.hid hf
  have HC := Lib.hid hc
  have HL := Lib.hid L0
  clear hc hr L0 hx hf
  generalize lenB xs = b1 at *
  generalize isQ q = b2 at *
  cases b1
  · clear hg
    go_enter Try.func93, Try.ntmps93
    go_wp2_with fail
    refine HC.out.mono ?_
    rintro e w2 ⟨rfl, hb⟩
    have L2 := (HL.out.kept hb).has (sl u M) 90
    rw [show w2.alloc (.cells (sl u M).toArray 90) = w2.alloc (.cells #[.int .i64 u, .int .i64 (M 0), .int .i64 (M 1), .int .i64 (M 2), .int .i64 (M 3), .int .i64 (M 4), .int .i64 (M 5)] 90) from rfl] at L2
    have HL2 := Lib.hid L2
    clear hb L2 HC HL
    go_upto_region 2 with fail
    generalize w2.alloc _ = w5 at *
    go_wp2_with fail
    refine (HF.out _).mono ?_
    rintro e w6 ⟨rfl, rfl⟩
    obtain ⟨e0, e1, e2, e3, e4, e5, e6, _⟩ := HL2.out.ownHas.seven
    obtain ⟨f0, f1, f2, f3, f4, f5, f6, ff⟩ := HL2.out.tl.ownHas.seven
    have HB := Lib.hid HL2.out.below
    clear HL2
    go_wp2_with fail
    refine bodyPost_ret (v := .tuple #[sv u M, F, .bool false]) (by simp [results, Try.results93, go_sem, f0, f1, f2, f3, f4, f5, f6]) rfl ⟨⟨_, _, _, HIF.out, rfl⟩, ?_⟩
    have h2 := HB.out
    repeat (refine Below.setCell ?_ (by simp <;> omega) _)
    exact h2
  · rw [Bool.true_and] at hg
    subst hg
    go_enter Try.func93, Try.ntmps93
    go_wp2_with fail
    refine HC.out.mono ?_
    rintro e w2 ⟨rfl, hb⟩
    have L2 := (HL.out.kept hb).has (sl u M) 90
    rw [show w2.alloc (.cells (sl u M).toArray 90) = w2.alloc (.cells #[.int .i64 u, .int .i64 (M 0), .int .i64 (M 1), .int .i64 (M 2), .int .i64 (M 3), .int .i64 (M 4), .int .i64 (M 5)] 90) from rfl] at L2
    have HL2 := Lib.hid L2
    clear hb L2 HC HL
    go_upto_region 2 with fail
    generalize w2.alloc _ = w5 at *
    go_wp2_with fail
    refine (HF.out _).mono ?_
    rintro e w6 ⟨rfl, rfl⟩
    obtain ⟨e0, e1, e2, e3, e4, e5, e6, _⟩ := HL2.out.ownHas.seven
    obtain ⟨f0, f1, f2, f3, f4, f5, f6, ff⟩ := HL2.out.tl.ownHas.seven
    have HB := Lib.hid HL2.out.below
    clear HL2
    go_wp2_with fail
    refine bodyPost_ret (v := .tuple #[sv u M, F, .bool false]) (by simp [results, Try.results93, go_sem, f0, f1, f2, f3, f4, f5, f6]) rfl ⟨⟨_, _, _, HIF.out, rfl⟩, ?_⟩
    have h2 := HB.out
    repeat (refine Below.setCell ?_ (by simp <;> omega) _)
    exact h2
set_option maxRecDepth 100000 in
set_option maxHeartbeats 6400000 in
theorem valued_noF (a : Option Addr) (p : Nat) (xs : List Int) (q : Int) (x : Int) (w : World) (hx : xs.length ≤ 1048576) (hr : Reads w a xs.length xs) (hv : argV xs q x = false) :
    Calls Try.prog 97 #[.slice a xs.length p, .int .i64 q, .int .i64 x] w fun e w' => (∃ u N F, isF F ∧ e = .returned (.tuple #[sv u N, F, .bool false])) ∧ Below w.heap.size w w' := by
    have L0 := (Law.start w).has (sl 0 (fun _ => 0)) 90
    rw [show w.alloc (.cells (sl 0 (fun _ => 0)).toArray 90) = w.alloc (.cells #[.int .i64 0, .int .i64 0, .int .i64 0, .int .i64 0, .int .i64 0, .int .i64 0, .int .i64 0] 90) from rfl] at L0
    have HL := Lib.hid L0
    cases hg : (lenB xs && isQ q)
    · have hc := over_noF a p xs q _ hx (L0.reads hr) hg
      have HC := Lib.hid hc
      clear hc hr hg hv L0 hx
      go_enter Try.func97, Try.ntmps97
      go_wp2_with fail
      refine HC.out.mono ?_
      rintro e w2 ⟨⟨n, M, F, hF, rfl⟩, hb⟩
      have HIF := Lib.hid hF
      clear hF
      have L2 := (HL.out.kept hb).has (sl n M) 90
      rw [show w2.alloc (.cells (sl n M).toArray 90) = w2.alloc (.cells #[.int .i64 n, .int .i64 (M 0), .int .i64 (M 1), .int .i64 (M 2), .int .i64 (M 3), .int .i64 (M 4), .int .i64 (M 5)] 90) from rfl] at L2
      have HL2 := Lib.hid L2
      clear hb L2 HC HL
      go_upto_region 2 with fail
      generalize w2.alloc _ = w5 at *
      obtain ⟨e0, e1, e2, e3, e4, e5, e6, _⟩ := HL2.out.ownHas.seven
      obtain ⟨f0, f1, f2, f3, f4, f5, f6, ff⟩ := HL2.out.tl.ownHas.seven
      have HB := Lib.hid HL2.out.below
      clear HL2
      go_wp2_with fail
      refine bodyPost_ret (v := .tuple #[sv n M, F, .bool false]) (by simp [results, Try.results97, go_sem, f0, f1, f2, f3, f4, f5, f6]) rfl ⟨⟨_, _, _, HIF.out, rfl⟩, ?_⟩
      have h2 := HB.out
      repeat (refine Below.setCell ?_ (by simp <;> omega) _)
      exact h2
    · simp only [Bool.and_eq_true] at hg
      obtain ⟨hg, hq⟩ := hg
      obtain ⟨q, rfl, hQ⟩ := isQ_nat hq
      have hcc : (4 < (xs.length : Int)) ∨ ((xs.length : Int) ≤ 4 ∧ x < xs.length) ∨ ((xs.length : Int) ≤ 4 ∧ (xs.length : Int) ≤ x ∧ 8 < x) := by
        unfold argV at hv
        rw [hg, hq, Bool.true_and, Bool.true_and] at hv
        by_cases h1 : (xs.length : Int) ≤ 4
        · rw [decide_eq_true h1, Bool.true_and, ← Bool.not_eq_true, inB_iff] at hv
          omega
        · exact .inl (by omega)
      have hc := over_yes a p xs q _ hx (L0.reads hr) hg hQ
      obtain ⟨n, hn⟩ : ∃ n, n = xs.length := ⟨_, rfl⟩
      obtain ⟨M, hM⟩ : ∃ M : Nat → Int, M = fun k => xs.getD k 0 := ⟨_, rfl⟩
      rw [← hM, ← hn] at hc
      rw [← hn] at hcc ⊢
      have HC := Lib.hid hc
      have HIF := Lib.hid (isF_fV q hQ)
      clear hc hr hg hq hQ hM hn L0 hx hv
      generalize fV q = F at *
      rcases hcc with h1 | ⟨h1, h2⟩ | ⟨h1, h2, h3⟩
      · have h9 : ¬ (n : Int) ≤ 4 := by omega
        go_enter Try.func97, Try.ntmps97
        go_wp2_with fail
        refine HC.out.mono ?_
        rintro e w2 ⟨rfl, hb⟩
        have L2 := (HL.out.kept hb).has (sl n M) 90
        rw [show w2.alloc (.cells (sl n M).toArray 90) = w2.alloc (.cells #[.int .i64 n, .int .i64 (M 0), .int .i64 (M 1), .int .i64 (M 2), .int .i64 (M 3), .int .i64 (M 4), .int .i64 (M 5)] 90) from rfl] at L2
        have HL2 := Lib.hid L2
        clear hb L2 HC HL
        go_upto_region 2 with fail
        generalize w2.alloc _ = w5 at *
        obtain ⟨e0, e1, e2, e3, e4, e5, e6, _⟩ := HL2.out.ownHas.seven
        obtain ⟨f0, f1, f2, f3, f4, f5, f6, ff⟩ := HL2.out.tl.ownHas.seven
        have HB := Lib.hid HL2.out.below
        clear HL2
        go_wp2_with fail
        refine bodyPost_ret (v := .tuple #[sv n M, F, .bool false]) (by simp [results, Try.results97, go_sem, f0, f1, f2, f3, f4, f5, f6] <;> assumption) rfl ⟨⟨_, _, _, HIF.out, rfl⟩, ?_⟩
        have h2 := HB.out
        repeat (refine Below.setCell ?_ (by simp <;> omega) _)
        exact h2

      · have h9 : ¬ x ≥ (n : Int) := by omega
        go_enter Try.func97, Try.ntmps97
        go_wp2_with fail
        refine HC.out.mono ?_
        rintro e w2 ⟨rfl, hb⟩
        have L2 := (HL.out.kept hb).has (sl n M) 90
        rw [show w2.alloc (.cells (sl n M).toArray 90) = w2.alloc (.cells #[.int .i64 n, .int .i64 (M 0), .int .i64 (M 1), .int .i64 (M 2), .int .i64 (M 3), .int .i64 (M 4), .int .i64 (M 5)] 90) from rfl] at L2
        have HL2 := Lib.hid L2
        clear hb L2 HC HL
        go_upto_region 2 with fail
        generalize w2.alloc _ = w5 at *
        obtain ⟨e0, e1, e2, e3, e4, e5, e6, _⟩ := HL2.out.ownHas.seven
        obtain ⟨f0, f1, f2, f3, f4, f5, f6, ff⟩ := HL2.out.tl.ownHas.seven
        have HB := Lib.hid HL2.out.below
        clear HL2
        go_wp2_with fail
        refine bodyPost_ret (v := .tuple #[sv n M, F, .bool false]) (by simp [results, Try.results97, go_sem, f0, f1, f2, f3, f4, f5, f6] <;> assumption) rfl ⟨⟨_, _, _, HIF.out, rfl⟩, ?_⟩
        have h2 := HB.out
        repeat (refine Below.setCell ?_ (by simp <;> omega) _)
        exact h2

      · have h9 : ¬ x ≤ 8 := by omega
        have h8 : x ≥ (n : Int) := h2
        go_enter Try.func97, Try.ntmps97
        go_wp2_with fail
        refine HC.out.mono ?_
        rintro e w2 ⟨rfl, hb⟩
        have L2 := (HL.out.kept hb).has (sl n M) 90
        rw [show w2.alloc (.cells (sl n M).toArray 90) = w2.alloc (.cells #[.int .i64 n, .int .i64 (M 0), .int .i64 (M 1), .int .i64 (M 2), .int .i64 (M 3), .int .i64 (M 4), .int .i64 (M 5)] 90) from rfl] at L2
        have HL2 := Lib.hid L2
        clear hb L2 HC HL
        go_upto_region 2 with fail
        generalize w2.alloc _ = w5 at *
        obtain ⟨e0, e1, e2, e3, e4, e5, e6, _⟩ := HL2.out.ownHas.seven
        obtain ⟨f0, f1, f2, f3, f4, f5, f6, ff⟩ := HL2.out.tl.ownHas.seven
        have HB := Lib.hid HL2.out.below
        clear HL2
        go_wp2_with fail
        refine bodyPost_ret (v := .tuple #[sv n M, F, .bool false]) (by simp [results, Try.results97, go_sem, f0, f1, f2, f3, f4, f5, f6] <;> assumption) rfl ⟨⟨_, _, _, HIF.out, rfl⟩, ?_⟩
        have h2 := HB.out
        repeat (refine Below.setCell ?_ (by simp <;> omega) _)
        exact h2

end Go.Proofs.Ytakdiiccdkjjcab
end
