import Derived.Test.YtakdiiccdkjjcabFold25
import Derived.Test.YtakdiiccdkjjcabFold14
import Derived.Test.YtakdiiccdkjjcabFold4

section
namespace Go.Proofs.Ytakdiiccdkjjcab
open Go.RowKit Go.WideShapes

/-- Can this be valued? -/
def argV (xs : List Int) (q x : Int) : Bool := lenB xs && (decide ((xs.length : Int) ≤ 4) && (isQ q && inB xs.length x 8))
set_option maxRecDepth 100000 in
set_option maxHeartbeats 3200000 in
theorem valued_yes (a : Option Addr) (p : Nat) (xs : List Int) (q : Nat) (x : Int) (w : World) (hx : xs.length ≤ 1048576) (hr : Reads w a xs.length xs) (hg : lenB xs = true) (hq : q = 2 ∨ q = 3) (h4 : (xs.length : Int) ≤ 4) (hx1 : (xs.length : Int) ≤ x) (hx2 : x ≤ 8) :
    Calls Try.prog 97 #[.slice a xs.length p, .int .i64 q, .int .i64 x] w fun e w' => e = .returned (.tuple #[sv xs.length (fun k => xs.getD k 0), fV q, .bool true]) ∧ Below w.heap.size w w' := by
    have L0 := (Law.start w).has (sl 0 (fun _ => 0)) 90
    rw [show w.alloc (.cells (sl 0 (fun _ => 0)).toArray 90) = w.alloc (.cells #[.int .i64 0, .int .i64 0, .int .i64 0, .int .i64 0, .int .i64 0, .int .i64 0, .int .i64 0] 90) from rfl] at L0
    have hc := over_yes a p xs q _ hx (L0.reads hr) hg hq
    obtain ⟨n, hn⟩ : ∃ n, n = xs.length := ⟨_, rfl⟩
    obtain ⟨M, hM⟩ : ∃ M : Nat → Int, M = fun k => xs.getD k 0 := ⟨_, rfl⟩
    rw [← hM, ← hn] at hc ⊢
    rw [← hn] at h4 hx1
    have HC := Lib.hid hc
    have HL := Lib.hid L0
    have hx3 : x ≥ (n : Int) := hx1
    clear hc hr hg hq hM hn L0 hx
    generalize fV q = F at *
    go_enter Try.func97, Try.ntmps97
    go_wp2_with fail
    refine HC.out.mono ?_
    rintro e w2 ⟨rfl, hb⟩
    have L2 := (HL.out.kept hb).has (sl n M) 90
    rw [show w2.alloc (.cells (sl n M).toArray 90) = w2.alloc (.cells #[.int .i64 n, .int .i64 (M 0), .int .i64 (M 1), .int .i64 (M 2), .int .i64 (M 3), .int .i64 (M 4), .int .i64 (M 5)] 90) from rfl] at L2
    have HL2 := Lib.hid L2
    clear hb L2 HC HL
    go_upto_region 2 with fail
    generalize w2.alloc _ = w5 at *
    obtain ⟨e0, e1, e2, e3, e4, e5, e6, _⟩ := HL2.out.ownHas.seven
    obtain ⟨f0, f1, f2, f3, f4, f5, f6, ff⟩ := HL2.out.tl.ownHas.seven
    have HB := Lib.hid HL2.out.below
    clear HL2
    go_wp2_with fail
    refine bodyPost_ret (v := .tuple #[sv n M, F, .bool true]) (by simp [results, Try.results97, go_sem, f0, f1, f2, f3, f4, f5, f6] <;> assumption) rfl ⟨rfl, ?_⟩
    have h2 := HB.out
    repeat (refine Below.setCell ?_ (by simp <;> omega) _)
    exact h2
set_option maxRecDepth 100000 in
set_option maxHeartbeats 6400000 in
theorem valued_no (a : Option Addr) (p : Nat) (xs : List Int) (q : Int) (x : Int) (w : World) (hx : xs.length ≤ 1048576) (hr : Reads w a xs.length xs) (hv : argV xs q x = false) :
    Calls Try.prog 97 #[.slice a xs.length p, .int .i64 q, .int .i64 x] w fun e w' => (∃ u N F, e = .returned (.tuple #[sv u N, F, .bool false])) ∧ Below w.heap.size w w' := by
    have L0 := (Law.start w).has (sl 0 (fun _ => 0)) 90
    rw [show w.alloc (.cells (sl 0 (fun _ => 0)).toArray 90) = w.alloc (.cells #[.int .i64 0, .int .i64 0, .int .i64 0, .int .i64 0, .int .i64 0, .int .i64 0, .int .i64 0] 90) from rfl] at L0
    have HL := Lib.hid L0
    cases hg : (lenB xs && isQ q)
    · have hc := over_no a p xs q _ hx (L0.reads hr) hg
      have HC := Lib.hid hc
      clear hc hr hg hv L0 hx
      go_enter Try.func97, Try.ntmps97
      go_wp2_with fail
      refine HC.out.mono ?_
      rintro e w2 ⟨⟨n, M, F, rfl⟩, hb⟩
      have L2 := (HL.out.kept hb).has (sl n M) 90
      rw [show w2.alloc (.cells (sl n M).toArray 90) = w2.alloc (.cells #[.int .i64 n, .int .i64 (M 0), .int .i64 (M 1), .int .i64 (M 2), .int .i64 (M 3), .int .i64 (M 4), .int .i64 (M 5)] 90) from rfl] at L2
      have HL2 := Lib.hid L2
      clear hb L2 HC HL
      go_upto_region 2 with fail
      generalize w2.alloc _ = w5 at *
      obtain ⟨e0, e1, e2, e3, e4, e5, e6, _⟩ := HL2.out.ownHas.seven
      obtain ⟨f0, f1, f2, f3, f4, f5, f6, ff⟩ := HL2.out.tl.ownHas.seven
      have HB := Lib.hid HL2.out.below
      clear HL2
      go_wp2_with fail
      refine bodyPost_ret (v := .tuple #[sv n M, F, .bool false]) (by simp [results, Try.results97, go_sem, f0, f1, f2, f3, f4, f5, f6]) rfl ⟨⟨_, _, _, rfl⟩, ?_⟩
      have h2 := HB.out
      repeat (refine Below.setCell ?_ (by simp <;> omega) _)
      exact h2
    · simp only [Bool.and_eq_true] at hg
      obtain ⟨hg, hq⟩ := hg
      obtain ⟨q, rfl, hQ⟩ := isQ_nat hq
      have hcc : (4 < (xs.length : Int)) ∨ ((xs.length : Int) ≤ 4 ∧ x < xs.length) ∨ ((xs.length : Int) ≤ 4 ∧ (xs.length : Int) ≤ x ∧ 8 < x) := by
        unfold argV at hv
        rw [hg, hq, Bool.true_and, Bool.true_and] at hv
        by_cases h1 : (xs.length : Int) ≤ 4
        · rw [decide_eq_true h1, Bool.true_and, ← Bool.not_eq_true, inB_iff] at hv
          omega
        · exact .inl (by omega)
      have hc := over_yes a p xs q _ hx (L0.reads hr) hg hQ
      obtain ⟨n, hn⟩ : ∃ n, n = xs.length := ⟨_, rfl⟩
      obtain ⟨M, hM⟩ : ∃ M : Nat → Int, M = fun k => xs.getD k 0 := ⟨_, rfl⟩
      rw [← hM, ← hn] at hc
      rw [← hn] at hcc ⊢
      have HC := Lib.hid hc
      clear hc hr hg hq hQ hM hn L0 hx hv
      generalize fV q = F at *
      rcases hcc with h1 | ⟨h1, h2⟩ | ⟨h1, h2, h3⟩
      · have h9 : ¬ (n : Int) ≤ 4 := by omega
        go_enter Try.func97, Try.ntmps97
        go_wp2_with fail
        refine HC.out.mono ?_
        rintro e w2 ⟨rfl, hb⟩
        have L2 := (HL.out.kept hb).has (sl n M) 90
        rw [show w2.alloc (.cells (sl n M).toArray 90) = w2.alloc (.cells #[.int .i64 n, .int .i64 (M 0), .int .i64 (M 1), .int .i64 (M 2), .int .i64 (M 3), .int .i64 (M 4), .int .i64 (M 5)] 90) from rfl] at L2
        have HL2 := Lib.hid L2
        clear hb L2 HC HL
        go_upto_region 2 with fail
        generalize w2.alloc _ = w5 at *
        obtain ⟨e0, e1, e2, e3, e4, e5, e6, _⟩ := HL2.out.ownHas.seven
        obtain ⟨f0, f1, f2, f3, f4, f5, f6, ff⟩ := HL2.out.tl.ownHas.seven
        have HB := Lib.hid HL2.out.below
        clear HL2
        go_wp2_with fail
        refine bodyPost_ret (v := .tuple #[sv n M, F, .bool false]) (by simp [results, Try.results97, go_sem, f0, f1, f2, f3, f4, f5, f6] <;> assumption) rfl ⟨⟨_, _, _, rfl⟩, ?_⟩
        have h2 := HB.out
        repeat (refine Below.setCell ?_ (by simp <;> omega) _)
        exact h2

      · have h9 : ¬ x ≥ (n : Int) := by omega
        go_enter Try.func97, Try.ntmps97
        go_wp2_with fail
        refine HC.out.mono ?_
        rintro e w2 ⟨rfl, hb⟩
        have L2 := (HL.out.kept hb).has (sl n M) 90
        rw [show w2.alloc (.cells (sl n M).toArray 90) = w2.alloc (.cells #[.int .i64 n, .int .i64 (M 0), .int .i64 (M 1), .int .i64 (M 2), .int .i64 (M 3), .int .i64 (M 4), .int .i64 (M 5)] 90) from rfl] at L2
        have HL2 := Lib.hid L2
        clear hb L2 HC HL
        go_upto_region 2 with fail
        generalize w2.alloc _ = w5 at *
        obtain ⟨e0, e1, e2, e3, e4, e5, e6, _⟩ := HL2.out.ownHas.seven
        obtain ⟨f0, f1, f2, f3, f4, f5, f6, ff⟩ := HL2.out.tl.ownHas.seven
        have HB := Lib.hid HL2.out.below
        clear HL2
        go_wp2_with fail
        refine bodyPost_ret (v := .tuple #[sv n M, F, .bool false]) (by simp [results, Try.results97, go_sem, f0, f1, f2, f3, f4, f5, f6] <;> assumption) rfl ⟨⟨_, _, _, rfl⟩, ?_⟩
        have h2 := HB.out
        repeat (refine Below.setCell ?_ (by simp <;> omega) _)
        exact h2

      · have h9 : ¬ x ≤ 8 := by omega
        have h8 : x ≥ (n : Int) := h2
        go_enter Try.func97, Try.ntmps97
        go_wp2_with fail
        refine HC.out.mono ?_
        rintro e w2 ⟨rfl, hb⟩
        have L2 := (HL.out.kept hb).has (sl n M) 90
        rw [show w2.alloc (.cells (sl n M).toArray 90) = w2.alloc (.cells #[.int .i64 n, .int .i64 (M 0), .int .i64 (M 1), .int .i64 (M 2), .int .i64 (M 3), .int .i64 (M 4), .int .i64 (M 5)] 90) from rfl] at L2
        have HL2 := Lib.hid L2
        clear hb L2 HC HL
        go_upto_region 2 with fail
        generalize w2.alloc _ = w5 at *
        obtain ⟨e0, e1, e2, e3, e4, e5, e6, _⟩ := HL2.out.ownHas.seven
        obtain ⟨f0, f1, f2, f3, f4, f5, f6, ff⟩ := HL2.out.tl.ownHas.seven
        have HB := Lib.hid HL2.out.below
        clear HL2
        go_wp2_with fail
        refine bodyPost_ret (v := .tuple #[sv n M, F, .bool false]) (by simp [results, Try.results97, go_sem, f0, f1, f2, f3, f4, f5, f6] <;> assumption) rfl ⟨⟨_, _, _, rfl⟩, ?_⟩
        have h2 := HB.out
        repeat (refine Below.setCell ?_ (by simp <;> omega) _)
        exact h2


set_option maxHeartbeats 1600000 in
theorem weArg_any (xs : List Int) (q x : Int) (a : Option Addr) (p : Nat) (w : World) (hx : xs.length ≤ 1048576) (hr : Reads w a xs.length xs) :
    Calls Try.prog 95 #[.slice a xs.length p, .int .i64 q, .int .i64 x] w fun e w' => e = .returned (.bool (argV xs q x)) ∧ Below w.heap.size w w' := by
  have HG := Lib.hid (feGood_any a p xs w hx hr)
  have HQ := Lib.hid (weBase_any q)
  have HI := Lib.hid (l1In_any x xs.length 8)
  cases hg : lenB xs
  · rw [hg] at HG
    rw [show argV xs q x = false by simp [argV, hg]]
    clear hg hr
    go_enter Try.func95, Try.ntmps95
    go_wp2_with fail
    refine HG.out.mono ?_
    rintro e w2 ⟨rfl, hb⟩
    have HB := Lib.hid hb
    clear hb
    go_wp2_with fail
    go_ret
    exact ⟨rfl, HB.out⟩
  · rw [hg] at HG
    by_cases h4 : (xs.length : Int) ≤ 4
    · cases hq : isQ q
      · rw [hq] at HQ
        rw [show argV xs q x = false by simp [argV, hq]]
        clear hg hr hq
        go_enter Try.func95, Try.ntmps95
        go_wp2_with fail
        refine HG.out.mono ?_
        rintro e w2 ⟨rfl, hb⟩
        have HB := Lib.hid hb
        clear hb
        go_wp2_with fail
        refine (HQ.out _).mono ?_
        rintro e w3 ⟨rfl, rfl⟩
        go_wp2_with fail
        go_ret
        exact ⟨rfl, HB.out⟩
      · rw [hq] at HQ
        rw [show argV xs q x = inB xs.length x 8 by simp [argV, hq, hg]; omega]
        clear hg hr hq
        generalize inB xs.length x 8 = bb at *
        go_enter Try.func95, Try.ntmps95
        go_wp2_with fail
        refine HG.out.mono ?_
        rintro e w2 ⟨rfl, hb⟩
        have HB := Lib.hid hb
        clear hb
        go_wp2_with fail
        refine (HQ.out _).mono ?_
        rintro e w3 ⟨rfl, rfl⟩
        go_wp2_with fail
        refine (HI.out _).mono ?_
        rintro e w4 ⟨rfl, rfl⟩
        go_wp2_with fail
        go_ret
        exact ⟨rfl, HB.out⟩
    · rw [show argV xs q x = false by simp [argV]; omega]
      clear hg hr
      go_enter Try.func95, Try.ntmps95
      go_wp2_with fail
      refine HG.out.mono ?_
      rintro e w2 ⟨rfl, hb⟩
      have HB := Lib.hid hb
      clear hb
      go_wp2_with fail
      go_ret
      exact ⟨rfl, HB.out⟩
end Go.Proofs.Ytakdiiccdkjjcab
end

section
namespace Go.Proofs.Ytakdiiccdkjjcab
open Go.RowKit Go.WideShapes

/-- The product of the first brackets. -/
def prodB (q : Nat) (x : Int) (fs : List Int) : Nat → Int
  | 0 => 1
  | i + 1 => prodB q x fs i * brk q (x + fs.getD i 0).toNat
/-- What is tried of all lengths. -/
def chkB (xs : List Int) : Bool := decide (4 < xs.length) || (List.range 9).all fun x => decide (x < xs.length) || (List.range 4).all fun q => (List.range xs.length).all fun i =>
  decide (0 ≤ (x : Int) + (facs xs).getD i 0 ∧ (x : Int) + (facs xs).getD i 0 ≤ 20) && decide (-9000000000000000000 ≤ prodB q x (facs xs) (i + 1) ∧ prodB q x (facs xs) (i + 1) ≤ 9000000000000000000)
theorem chkB_all {xs : List Int} (hg : lenB xs = true) : chkB xs = true := all_lens chkB (by decide +kernel) hg
theorem prodB_in (xs : List Int) (hg : lenB xs = true) (h4 : xs.length ≤ 4) (q : Nat) (hq : q ≤ 3) (x : Int) (hx : xs.length ≤ x ∧ x ≤ 8) (i : Nat) (hi : i < xs.length) :
    (0 ≤ x + (facs xs).getD i 0 ∧ x + (facs xs).getD i 0 ≤ 20) ∧ (-9000000000000000000 ≤ prodB q x (facs xs) (i + 1) ∧ prodB q x (facs xs) (i + 1) ≤ 9000000000000000000) := by
  have h := chkB_all hg
  obtain ⟨n, rfl⟩ := Int.eq_ofNat_of_zero_le (show 0 ≤ x by omega)
  unfold chkB at h
  rw [Bool.or_eq_true, decide_eq_true_eq] at h
  rcases h with h | h
  · omega
  · rw [List.all_eq_true] at h
    have h := h n (List.mem_range.2 (by omega))
    rw [Bool.or_eq_true, decide_eq_true_eq] at h
    rcases h with h | h
    · omega
    · rw [List.all_eq_true] at h
      have h := h q (List.mem_range.2 (by omega))
      rw [List.all_eq_true] at h
      have h := h i (List.mem_range.2 hi)
      rw [Bool.and_eq_true, decide_eq_true_eq, decide_eq_true_eq] at h
      exact h
def prodR (xs : List Int) (q x : Int) : R1 := if argV xs q x then ⟨prodB q.toNat x (facs xs) xs.length, true⟩ else ⟨0, false⟩

end Go.Proofs.Ytakdiiccdkjjcab
end

section
namespace Go.Proofs.Ytakdiiccdkjjcab
open Go.RowKit

/-- The falling product of brackets. -/
def falB (q : Nat) (x : Int) : Nat → Int
  | 0 => 1
  | i + 1 => falB q x i * brk q (x - i).toNat
/-- One term. -/
def trmB (xs : List Int) (q : Nat) (x : Int) (k : Nat) : Int := vN q xs xs.length k * falB q x (xs.length - k)
/-- The term in the making, in the specification. -/
def midB (xs : List Int) (q : Nat) (x : Int) (k i : Nat) : Int := vN q xs xs.length k * falB q x i
def chkS (xs : List Int) : Bool := decide (4 < xs.length) || (List.range 9).all fun x => decide (x < xs.length) || (List.range 4).all fun q => (List.range (xs.length + 1)).all fun k =>
  (decide (0 ≤ sumT (trmB xs q x) (k + 1) ∧ sumT (trmB xs q x) (k + 1) ≤ 9000000000000000000)) && ((List.range (xs.length - k + 1)).all fun i => decide (0 ≤ midB xs q x k i ∧ midB xs q x k i ≤ 9000000000000000000) && decide (0 ≤ falB q x i ∧ falB q x i ≤ 9000000000000000000))
theorem chkS_all {xs : List Int} (hg : lenB xs = true) : chkS xs = true := all_lens chkS (by decide +kernel) hg
theorem sumS_in (xs : List Int) (hg : lenB xs = true) (h4 : xs.length ≤ 4) (q : Nat) (hq : q ≤ 3) (x : Int) (hx : xs.length ≤ x ∧ x ≤ 8) (k : Nat) (hk : k ≤ xs.length) :
    (0 ≤ sumT (trmB xs q x) (k + 1) ∧ sumT (trmB xs q x) (k + 1) ≤ 9000000000000000000) ∧ ∀ i, i ≤ xs.length - k → (0 ≤ midB xs q x k i ∧ midB xs q x k i ≤ 9000000000000000000) ∧ (0 ≤ falB q x i ∧ falB q x i ≤ 9000000000000000000) := by
  have h := chkS_all hg
  obtain ⟨n, rfl⟩ := Int.eq_ofNat_of_zero_le (show 0 ≤ x by omega)
  unfold chkS at h
  rw [Bool.or_eq_true, decide_eq_true_eq] at h
  rcases h with h | h
  · omega
  · rw [List.all_eq_true] at h
    have h := h n (List.mem_range.2 (by omega))
    rw [Bool.or_eq_true, decide_eq_true_eq] at h
    rcases h with h | h
    · omega
    · rw [List.all_eq_true] at h
      have h := h q (List.mem_range.2 (by omega))
      rw [List.all_eq_true] at h
      have h := h k (List.mem_range.2 (by omega))
      rw [Bool.and_eq_true, decide_eq_true_eq, List.all_eq_true] at h
      refine ⟨h.1, fun i hi => ?_⟩
      have h := h.2 i (List.mem_range.2 (by omega))
      rw [Bool.and_eq_true, decide_eq_true_eq, decide_eq_true_eq] at h
      exact h
def sumQ (xs : List Int) (q x : Int) : R1 := if argV xs q x then ⟨sumT (trmB xs q.toNat x) (xs.length + 1), true⟩ else ⟨0, false⟩
end Go.Proofs.Ytakdiiccdkjjcab
end

section
namespace Go.Proofs.Ytakdiiccdkjjcab
open Go.RowKit Go.WideShapes

theorem rowM_at {w0 w : World} {ts : List Thing} {g n c : Nat} {vs : List Value} {rss : List (List Int)} (L : Law w0 (tM (.slice (some ⟨g, 0, none⟩) n c) vs rss :: ts) w) (hn : rss.length = n) (k : Nat) (hk : k < n) (ys : List Int) (hy : ∀ h : k < rss.length, rss[k] = ys) :
    ∃ a2 p2, w.cell? ⟨g, k, none⟩ = some (.slice a2 ys.length p2) ∧ Reads w a2 ys.length ys := by
  have hlen := L.ownM.len
  have hrow := L.ownM.row k (by omega)
  rw [hy] at hrow
  obtain ⟨a2, p2, hv, hr⟩ := hrow.reads
  refine ⟨a2, p2, ?_, hr⟩
  rw [← hv, World.ownsRow.cellAt (by have := L.ownM.outer; rw [show vs.length = n by omega] at this; exact this) k (by omega)]
  simp
theorem rowM_own {w0 w : World} {ts : List Thing} {g n c : Nat} {vs : List Value} {rss : List (List Int)} (L : Law w0 (tM (.slice (some ⟨g, 0, none⟩) n c) vs rss :: ts) w) (hn : rss.length = n) (k : Nat) (hk : k < n) (ys : List Int) (hy : ∀ h : k < rss.length, rss[k] = ys) :
    ∃ a2 p2, w.cell? ⟨g, k, none⟩ = some (.slice a2 ys.length p2) ∧ Reads w a2 ys.length ys ∧ Own w w0.heap.size (.slice a2 ys.length p2) ys := by
  have hlen := L.ownM.len
  have hrow := L.ownMLo.row k (by omega)
  rw [hy] at hrow
  obtain ⟨a2, p2, hv, hr⟩ := hrow.reads
  refine ⟨a2, p2, ?_, hr, by rw [← hv]; exact hrow⟩
  rw [← hv, World.ownsRow.cellAt (by have := L.ownM.outer; rw [show vs.length = n by omega] at this; exact this) k (by omega)]
  simp

end Go.Proofs.Ytakdiiccdkjjcab
end
