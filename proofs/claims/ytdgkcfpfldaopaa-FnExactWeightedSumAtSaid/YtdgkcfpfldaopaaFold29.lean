import Derived.Test.YtdgkcfpfldaopaaFold26
import Derived.Test.YtdgkcfpfldaopaaFold27
import Derived.Test.YtdgkcfpfldaopaaFold28
namespace Go.Proofs.Ytdgkcfpfldaopaa
open Go.RowKit Go.WideShapes

/-- Can this be valued? -/
def argV (xs : List Int) (q x : Int) : Bool := lenB xs && (decide ((xs.length : Int) ≤ 4) && (isQ q && inB xs.length x 8))
set_option maxRecDepth 100000 in
set_option maxHeartbeats 3200000 in
theorem valued_yes (a : Option Addr) (p : Nat) (xs : List Int) (q : Nat) (x : Int) (w : World) (hx : xs.length ≤ 1048576) (hr : Reads w a xs.length xs) (hg : lenB xs = true) (hq : q = 2 ∨ q = 3) (h4 : (xs.length : Int) ≤ 4) (hx1 : (xs.length : Int) ≤ x) (hx2 : x ≤ 8) :
    Calls Try.prog 81 #[.slice a xs.length p, .int .i64 q, .int .i64 x] w fun e w' => e = .returned (.tuple #[sv xs.length (fun k => xs.getD k 0), fV q, .bool true]) ∧ Below w.heap.size w w' := by
    have L0 := (Law.start w).has (sl 0 (fun _ => 0)) 59
    rw [show w.alloc (.cells (sl 0 (fun _ => 0)).toArray 59) = w.alloc (.cells #[.int .i64 0, .int .i64 0, .int .i64 0, .int .i64 0, .int .i64 0, .int .i64 0, .int .i64 0] 59) from rfl] at L0
    have hc := over_yes a p xs q _ hx (L0.reads hr) hg hq
    obtain ⟨n, hn⟩ : ∃ n, n = xs.length := ⟨_, rfl⟩
    obtain ⟨M, hM⟩ : ∃ M : Nat → Int, M = fun k => xs.getD k 0 := ⟨_, rfl⟩
    rw [← hM, ← hn] at hc ⊢
    rw [← hn] at h4 hx1
    have HC := Lib.hid hc
    have HL := Lib.hid L0
    have hx3 : x ≥ (n : Int) := hx1
    clear hc hr hg hq hM hn L0 hx
    generalize fV q = F at *
    go_enter Try.func81, Try.ntmps81
    go_wp2_with fail
    refine HC.out.mono ?_
    rintro e w2 ⟨rfl, hb⟩
    have L2 := (HL.out.kept hb).has (sl n M) 59
    rw [show w2.alloc (.cells (sl n M).toArray 59) = w2.alloc (.cells #[.int .i64 n, .int .i64 (M 0), .int .i64 (M 1), .int .i64 (M 2), .int .i64 (M 3), .int .i64 (M 4), .int .i64 (M 5)] 59) from rfl] at L2
    have HL2 := Lib.hid L2
    clear hb L2 HC HL
    go_upto_region 2 with fail
    generalize w2.alloc _ = w5 at *
    obtain ⟨e0, e1, e2, e3, e4, e5, e6, _⟩ := HL2.out.ownHas.seven
    obtain ⟨f0, f1, f2, f3, f4, f5, f6, ff⟩ := HL2.out.tl.ownHas.seven
    have HB := Lib.hid HL2.out.below
    clear HL2
    go_wp2_with fail
    refine bodyPost_ret (v := .tuple #[sv n M, F, .bool true]) (by simp [results, Try.results81, go_sem, f0, f1, f2, f3, f4, f5, f6] <;> assumption) rfl ⟨rfl, ?_⟩
    have h2 := HB.out
    repeat (refine Below.setCell ?_ (by simp <;> omega) _)
    exact h2
set_option maxRecDepth 100000 in
set_option maxHeartbeats 6400000 in
theorem valued_no (a : Option Addr) (p : Nat) (xs : List Int) (q : Int) (x : Int) (w : World) (hx : xs.length ≤ 1048576) (hr : Reads w a xs.length xs) (hv : argV xs q x = false) :
    Calls Try.prog 81 #[.slice a xs.length p, .int .i64 q, .int .i64 x] w fun e w' => (∃ u N F, e = .returned (.tuple #[sv u N, F, .bool false])) ∧ Below w.heap.size w w' := by
    have L0 := (Law.start w).has (sl 0 (fun _ => 0)) 59
    rw [show w.alloc (.cells (sl 0 (fun _ => 0)).toArray 59) = w.alloc (.cells #[.int .i64 0, .int .i64 0, .int .i64 0, .int .i64 0, .int .i64 0, .int .i64 0, .int .i64 0] 59) from rfl] at L0
    have HL := Lib.hid L0
    cases hg : (lenB xs && isQ q)
    · have hc := over_no a p xs q _ hx (L0.reads hr) hg
      have HC := Lib.hid hc
      clear hc hr hg hv L0 hx
      go_enter Try.func81, Try.ntmps81
      go_wp2_with fail
      refine HC.out.mono ?_
      rintro e w2 ⟨⟨n, M, F, rfl⟩, hb⟩
      have L2 := (HL.out.kept hb).has (sl n M) 59
      rw [show w2.alloc (.cells (sl n M).toArray 59) = w2.alloc (.cells #[.int .i64 n, .int .i64 (M 0), .int .i64 (M 1), .int .i64 (M 2), .int .i64 (M 3), .int .i64 (M 4), .int .i64 (M 5)] 59) from rfl] at L2
      have HL2 := Lib.hid L2
      clear hb L2 HC HL
      go_upto_region 2 with fail
      generalize w2.alloc _ = w5 at *
      obtain ⟨e0, e1, e2, e3, e4, e5, e6, _⟩ := HL2.out.ownHas.seven
      obtain ⟨f0, f1, f2, f3, f4, f5, f6, ff⟩ := HL2.out.tl.ownHas.seven
      have HB := Lib.hid HL2.out.below
      clear HL2
      go_wp2_with fail
      refine bodyPost_ret (v := .tuple #[sv n M, F, .bool false]) (by simp [results, Try.results81, go_sem, f0, f1, f2, f3, f4, f5, f6]) rfl ⟨⟨_, _, _, rfl⟩, ?_⟩
      have h2 := HB.out
      repeat (refine Below.setCell ?_ (by simp <;> omega) _)
      exact h2
    · simp only [Bool.and_eq_true] at hg
      obtain ⟨hg, hq⟩ := hg
      obtain ⟨q, rfl, hQ⟩ := isQ_nat hq
      have hcc : (4 < (xs.length : Int)) ∨ ((xs.length : Int) ≤ 4 ∧ x < xs.length) ∨ ((xs.length : Int) ≤ 4 ∧ (xs.length : Int) ≤ x ∧ 8 < x) := by
        unfold argV at hv
        rw [hg, hq, Bool.true_and, Bool.true_and] at hv
        by_cases h1 : (xs.length : Int) ≤ 4
        · rw [decide_eq_true h1, Bool.true_and, ← Bool.not_eq_true, inB_iff] at hv
          omega
        · exact .inl (by omega)
      have hc := over_yes a p xs q _ hx (L0.reads hr) hg hQ
      obtain ⟨n, hn⟩ : ∃ n, n = xs.length := ⟨_, rfl⟩
      obtain ⟨M, hM⟩ : ∃ M : Nat → Int, M = fun k => xs.getD k 0 := ⟨_, rfl⟩
      rw [← hM, ← hn] at hc
      rw [← hn] at hcc ⊢
      have HC := Lib.hid hc
      clear hc hr hg hq hQ hM hn L0 hx hv
      generalize fV q = F at *
      rcases hcc with h1 | ⟨h1, h2⟩ | ⟨h1, h2, h3⟩
      · have h9 : ¬ (n : Int) ≤ 4 := by omega
        go_enter Try.func81, Try.ntmps81
        go_wp2_with fail
        refine HC.out.mono ?_
        rintro e w2 ⟨rfl, hb⟩
        have L2 := (HL.out.kept hb).has (sl n M) 59
        rw [show w2.alloc (.cells (sl n M).toArray 59) = w2.alloc (.cells #[.int .i64 n, .int .i64 (M 0), .int .i64 (M 1), .int .i64 (M 2), .int .i64 (M 3), .int .i64 (M 4), .int .i64 (M 5)] 59) from rfl] at L2
        have HL2 := Lib.hid L2
        clear hb L2 HC HL
        go_upto_region 2 with fail
        generalize w2.alloc _ = w5 at *
        obtain ⟨e0, e1, e2, e3, e4, e5, e6, _⟩ := HL2.out.ownHas.seven
        obtain ⟨f0, f1, f2, f3, f4, f5, f6, ff⟩ := HL2.out.tl.ownHas.seven
        have HB := Lib.hid HL2.out.below
        clear HL2
        go_wp2_with fail
        refine bodyPost_ret (v := .tuple #[sv n M, F, .bool false]) (by simp [results, Try.results81, go_sem, f0, f1, f2, f3, f4, f5, f6] <;> assumption) rfl ⟨⟨_, _, _, rfl⟩, ?_⟩
        have h2 := HB.out
        repeat (refine Below.setCell ?_ (by simp <;> omega) _)
        exact h2

      · have h9 : ¬ x ≥ (n : Int) := by omega
        go_enter Try.func81, Try.ntmps81
        go_wp2_with fail
        refine HC.out.mono ?_
        rintro e w2 ⟨rfl, hb⟩
        have L2 := (HL.out.kept hb).has (sl n M) 59
        rw [show w2.alloc (.cells (sl n M).toArray 59) = w2.alloc (.cells #[.int .i64 n, .int .i64 (M 0), .int .i64 (M 1), .int .i64 (M 2), .int .i64 (M 3), .int .i64 (M 4), .int .i64 (M 5)] 59) from rfl] at L2
        have HL2 := Lib.hid L2
        clear hb L2 HC HL
        go_upto_region 2 with fail
        generalize w2.alloc _ = w5 at *
        obtain ⟨e0, e1, e2, e3, e4, e5, e6, _⟩ := HL2.out.ownHas.seven
        obtain ⟨f0, f1, f2, f3, f4, f5, f6, ff⟩ := HL2.out.tl.ownHas.seven
        have HB := Lib.hid HL2.out.below
        clear HL2
        go_wp2_with fail
        refine bodyPost_ret (v := .tuple #[sv n M, F, .bool false]) (by simp [results, Try.results81, go_sem, f0, f1, f2, f3, f4, f5, f6] <;> assumption) rfl ⟨⟨_, _, _, rfl⟩, ?_⟩
        have h2 := HB.out
        repeat (refine Below.setCell ?_ (by simp <;> omega) _)
        exact h2

      · have h9 : ¬ x ≤ 8 := by omega
        have h8 : x ≥ (n : Int) := h2
        go_enter Try.func81, Try.ntmps81
        go_wp2_with fail
        refine HC.out.mono ?_
        rintro e w2 ⟨rfl, hb⟩
        have L2 := (HL.out.kept hb).has (sl n M) 59
        rw [show w2.alloc (.cells (sl n M).toArray 59) = w2.alloc (.cells #[.int .i64 n, .int .i64 (M 0), .int .i64 (M 1), .int .i64 (M 2), .int .i64 (M 3), .int .i64 (M 4), .int .i64 (M 5)] 59) from rfl] at L2
        have HL2 := Lib.hid L2
        clear hb L2 HC HL
        go_upto_region 2 with fail
        generalize w2.alloc _ = w5 at *
        obtain ⟨e0, e1, e2, e3, e4, e5, e6, _⟩ := HL2.out.ownHas.seven
        obtain ⟨f0, f1, f2, f3, f4, f5, f6, ff⟩ := HL2.out.tl.ownHas.seven
        have HB := Lib.hid HL2.out.below
        clear HL2
        go_wp2_with fail
        refine bodyPost_ret (v := .tuple #[sv n M, F, .bool false]) (by simp [results, Try.results81, go_sem, f0, f1, f2, f3, f4, f5, f6] <;> assumption) rfl ⟨⟨_, _, _, rfl⟩, ?_⟩
        have h2 := HB.out
        repeat (refine Below.setCell ?_ (by simp <;> omega) _)
        exact h2


set_option maxHeartbeats 1600000 in
theorem weArg_any (xs : List Int) (q x : Int) (a : Option Addr) (p : Nat) (w : World) (hx : xs.length ≤ 1048576) (hr : Reads w a xs.length xs) :
    Calls Try.prog 80 #[.slice a xs.length p, .int .i64 q, .int .i64 x] w fun e w' => e = .returned (.bool (argV xs q x)) ∧ Below w.heap.size w w' := by
  have HG := Lib.hid (feGood_any a p xs w hx hr)
  have HQ := Lib.hid (weBase_any q)
  have HI := Lib.hid (l1In_any x xs.length 8)
  cases hg : lenB xs
  · rw [hg] at HG
    rw [show argV xs q x = false by simp [argV, hg]]
    clear hg hr
    go_enter Try.func80, Try.ntmps80
    go_wp2_with fail
    refine HG.out.mono ?_
    rintro e w2 ⟨rfl, hb⟩
    have HB := Lib.hid hb
    clear hb
    go_wp2_with fail
    go_ret
    exact ⟨rfl, HB.out⟩
  · rw [hg] at HG
    by_cases h4 : (xs.length : Int) ≤ 4
    · cases hq : isQ q
      · rw [hq] at HQ
        rw [show argV xs q x = false by simp [argV, hq]]
        clear hg hr hq
        go_enter Try.func80, Try.ntmps80
        go_wp2_with fail
        refine HG.out.mono ?_
        rintro e w2 ⟨rfl, hb⟩
        have HB := Lib.hid hb
        clear hb
        go_wp2_with fail
        refine (HQ.out _).mono ?_
        rintro e w3 ⟨rfl, rfl⟩
        go_wp2_with fail
        go_ret
        exact ⟨rfl, HB.out⟩
      · rw [hq] at HQ
        rw [show argV xs q x = inB xs.length x 8 by simp [argV, hq, hg]; omega]
        clear hg hr hq
        generalize inB xs.length x 8 = bb at *
        go_enter Try.func80, Try.ntmps80
        go_wp2_with fail
        refine HG.out.mono ?_
        rintro e w2 ⟨rfl, hb⟩
        have HB := Lib.hid hb
        clear hb
        go_wp2_with fail
        refine (HQ.out _).mono ?_
        rintro e w3 ⟨rfl, rfl⟩
        go_wp2_with fail
        refine (HI.out _).mono ?_
        rintro e w4 ⟨rfl, rfl⟩
        go_wp2_with fail
        go_ret
        exact ⟨rfl, HB.out⟩
    · rw [show argV xs q x = false by simp [argV]; omega]
      clear hg hr
      go_enter Try.func80, Try.ntmps80
      go_wp2_with fail
      refine HG.out.mono ?_
      rintro e w2 ⟨rfl, hb⟩
      have HB := Lib.hid hb
      clear hb
      go_wp2_with fail
      go_ret
      exact ⟨rfl, HB.out⟩
end Go.Proofs.Ytdgkcfpfldaopaa
