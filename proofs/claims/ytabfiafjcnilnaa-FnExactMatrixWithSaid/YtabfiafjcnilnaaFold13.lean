import Derived.Test.YtabfiafjcnilnaaFold8
import Derived.Test.YtabfiafjcnilnaaFold12
import Derived.Test.YtabfiafjcnilnaaFold7
import Derived.Deep.RegionWith
import Derived.Deep.RegionHeld3

section
namespace Go.Proofs.Ytabfiafjcnilnaa
open Go.RowKit Go.WideShapes

set_option maxRecDepth 100000 in
set_option maxHeartbeats 800000 in
theorem seriesOf_no (a : Option Addr) (p : Nat) (xs : List Int) (w : World) (hx : xs.length ≤ 1048576) (hr : Reads w a xs.length xs) (hg : (inB 1 xs.length 6 && sortB xs) = false) :
    Calls Try.prog 57 #[.slice a xs.length p] w fun e w' => e = .returned (.tuple #[sv0, .bool false]) ∧ Below w.heap.size w w' := by
  have L0 := (Law.start w).has [.int .i64 0, .int .i64 0, .int .i64 0, .int .i64 0, .int .i64 0, .int .i64 0, .int .i64 0] 47
  rw [show w.alloc (.cells [.int .i64 0, .int .i64 0, .int .i64 0, .int .i64 0, .int .i64 0, .int .i64 0, .int .i64 0].toArray 47) = w.alloc (.cells #[.int .i64 0, .int .i64 0, .int .i64 0, .int .i64 0, .int .i64 0, .int .i64 0, .int .i64 0] 47) from rfl] at L0
  have hr0 := L0.reads hr
  cases h1 : inB 1 xs.length 6
  · have HC := Lib.hid (at_bool (isSide_any xs.length) h1)
    have HL := Lib.hid L0
    clear h1 hg hr0 L0
    go_enter Try.func57, Try.ntmps57
    go_wp2_with fail
    refine (HC.out _).mono ?_
    rintro e w1 ⟨rfl, hww⟩
    subst hww
    obtain ⟨e0, e1, e2, e3, e4, e5, e6, _⟩ := HL.out.ownHas.seven
    have HB := Lib.hid HL.out.below
    clear HL
    go_wp2_with fail
    refine bodyPost_ret (v := .tuple #[sv0, .bool false]) (by simp [results, Try.results57, go_sem, e0, e1, e2, e3, e4, e5, e6]) rfl ⟨rfl, ?_⟩
    have h2 := HB.out
    repeat (refine Below.setCell ?_ (by simp <;> omega) _)
    exact h2
  · rw [h1, Bool.true_and] at hg
    have hl := inB_iff.1 h1
    have HC := Lib.hid (at_bool (isSide_any xs.length) h1)
    have HS := Lib.hid (at_boolB (isSorted_any a p xs _ hx (by omega) hr0) hg)
    have HL := Lib.hid L0
    clear h1 hg hr0 L0
    go_enter Try.func57, Try.ntmps57
    go_wp2_with fail
    refine (HC.out _).mono ?_
    rintro e w1 ⟨rfl, hww⟩
    subst hww
    go_wp2_with fail
    refine HS.out.mono ?_
    rintro e w2 ⟨rfl, hb⟩
    have L1 := HL.out.kept hb
    obtain ⟨e0, e1, e2, e3, e4, e5, e6, _⟩ := L1.ownHas.seven
    have HB := Lib.hid L1.below
    clear HL L1 HS hb
    go_wp2_with fail
    refine bodyPost_ret (v := .tuple #[sv0, .bool false]) (by simp [results, Try.results57, go_sem, e0, e1, e2, e3, e4, e5, e6]) rfl ⟨rfl, ?_⟩
    have h2 := HB.out
    repeat (refine Below.setCell ?_ (by simp <;> omega) _)
    exact h2

set_option maxRecDepth 100000 in
set_option maxHeartbeats 800000 in
theorem seriesOf_yes (a : Option Addr) (p : Nat) (xs : List Int) (w : World) (hx : xs.length ≤ 1048576) (hr : Reads w a xs.length xs) (h1 : inB 1 xs.length 6 = true) (h2 : sortB xs = true) :
    Calls Try.prog 57 #[.slice a xs.length p] w fun e w' => e = .returned (.tuple #[sv xs.length (fun k => xs.getD k 0), .bool true]) ∧ Below w.heap.size w w' := by
  have L0 := (Law.start w).has [.int .i64 0, .int .i64 0, .int .i64 0, .int .i64 0, .int .i64 0, .int .i64 0, .int .i64 0] 47
  rw [show w.alloc (.cells [.int .i64 0, .int .i64 0, .int .i64 0, .int .i64 0, .int .i64 0, .int .i64 0, .int .i64 0].toArray 47) = w.alloc (.cells #[.int .i64 0, .int .i64 0, .int .i64 0, .int .i64 0, .int .i64 0, .int .i64 0, .int .i64 0] 47) from rfl] at L0
  have hr0 := L0.reads hr
  have hl := inB_iff.1 h1
  have hlen : xs.length ≤ 6 := by omega
  have HC := Lib.hid (at_bool (isSide_any xs.length) h1)
  have HS := Lib.hid (at_boolB (isSorted_any a p xs _ hx (by omega) hr0) h2)
  have HL := Lib.hid L0
  clear h1 h2 hr0 L0 hl
  go_enter Try.func57, Try.ntmps57
  go_wp2_with fail
  refine (HC.out _).mono ?_
  rintro e w1 ⟨rfl, hww⟩
  subst hww
  go_wp2_with fail
  refine HS.out.mono ?_
  rintro e w2 ⟨rfl, hb⟩
  have L1 := HL.out.kept hb
  have hlt1 : w.heap.size < w2.heap.size := L1.ownHas.lt
  have L2 := L1.has [.int .i64 xs.length, .int .i64 0, .int .i64 0, .int .i64 0, .int .i64 0, .int .i64 0, .int .i64 0] 47
  rw [show w2.alloc (.cells [.int .i64 xs.length, .int .i64 0, .int .i64 0, .int .i64 0, .int .i64 0, .int .i64 0, .int .i64 0].toArray 47) = w2.alloc (.cells #[.int .i64 xs.length, .int .i64 0, .int .i64 0, .int .i64 0, .int .i64 0, .int .i64 0, .int .i64 0] 47) from rfl] at L2
  have hr2 := L2.reads hr
  have HL2 := Lib.hid L2
  have HR2 := Lib.hid hr2
  clear HL HS hb L1 L2 hr2
  go_upto_region 4 with fail
  generalize w2.alloc (.cells #[.int .i64 xs.length, .int .i64 0, .int .i64 0, .int .i64 0, .int .i64 0, .int .i64 0, .int .i64 0] 47) = w5 at *
  obtain ⟨b, hb⟩ : ∃ b, b = w2.heap.size := ⟨_, rfl⟩
  rw [← hb] at HL2 hlt1 ⊢
  clear hb
  have hcp : 0 < (xs.map (Value.int .i64)).length → (some (⟨b, 1, none⟩ : Addr)) = some ⟨b, 1, none⟩ ∧ ∃ ad, a = some ad ∧ ∀ j v, (xs.map (Value.int .i64))[j]? = some v → w5.cell? (ad.add j) = some v := by
    intro h0
    obtain ⟨b, off, rfl, hlt, hcc⟩ := reads_row HR2.out (by simpa using h0)
    refine ⟨rfl, _, rfl, fun j v hj => ?_⟩
    obtain ⟨hx1, rfl⟩ := List.getElem?_eq_some_iff.1 hj
    simp only [List.length_map] at hx1
    rw [add_plain]
    have := hcc j hx1
    simp only [List.getElem_map]
    simpa [List.getD, hx1] using this
  have HP := Lib.hid hcp; clear hcp
  have hn0 : (xs.map (Value.int .i64)).length = Nat.min 6 xs.length := by simp only [List.length_map]; exact (Nat.min_eq_right hlen).symm
  have hn1 : (xs.map (Value.int .i64)).length = Nat.min xs.length 6 := by simp only [List.length_map]; exact (Nat.min_eq_left hlen).symm
  have hf0 : 1 + (xs.map (Value.int .i64)).length ≤ ([.int .i64 xs.length, .int .i64 0, .int .i64 0, .int .i64 0, .int .i64 0, .int .i64 0, .int .i64 0] : List Value).length := by simp; omega
  have HN0 := Lib.hid hn0; clear hn0
  have HN1 := Lib.hid hn1; clear hn1
  have HF0 := Lib.hid hf0; clear hf0
  have HG0 := Lib.hid HL2.out.ownHas.row
  go_wp2_with (with_reducible refine wpList_copy_splice rfl (.tmp 19) (.tmp 20) 22 22 rfl 3 Try.underlying22 (by kernel_rfl) _ a 6 6 xs.length p rfl rfl b 1 _ 47 HG0.out (xs.map (Value.int .i64)) HN1.out HP.out HF0.out (ints_oneCell _ _) b w5 (Below.refl _ _) (Nat.le_refl _) ?_)
  intro w4 hg4 hb4
  have hg5 : Has w4 b _ 47 := hg4.out
  rw [ser_cells _ xs hlen] at hg5
  obtain ⟨e0, e1, e2, e3, e4, e5, e6, _⟩ := hg5.seven
  have hR := HL2.out.tl.ownHas.kept hb4 hlt1
  obtain ⟨f0, f1, f2, f3, f4, f5, f6, ff⟩ := hR.seven
  have HB4 := Lib.hid (HL2.out.below.trans (hb4.mono (by omega)))
  clear hb4 hg4 hg5 hR HL2 HP HG0 HF0 HN0 HN1 HR2
  go_wp2_with fail
  refine bodyPost_ret (v := .tuple #[sv xs.length (fun k => xs.getD k 0), .bool true]) (by simp [results, Try.results57, go_sem, f0, f1, f2, f3, f4, f5, f6]) rfl ⟨rfl, ?_⟩
  have h2 := HB4.out
  repeat (refine Below.setCell ?_ (by simp <;> omega) _)
  exact h2

set_option maxRecDepth 100000 in
set_option maxHeartbeats 800000 in
theorem lengthsOf_no (a : Option Addr) (p : Nat) (xs : List Int) (w : World) (hx : xs.length ≤ 1048576) (hr : Reads w a xs.length xs) (hg : lenB xs = false) :
    Calls Try.prog 49 #[.slice a xs.length p] w fun e w' => e = .returned (.tuple #[sv0, .bool false]) ∧ Below w.heap.size w w' := by
  have L0 := (Law.start w).has [.int .i64 0, .int .i64 0, .int .i64 0, .int .i64 0, .int .i64 0, .int .i64 0, .int .i64 0] 47
  rw [show w.alloc (.cells [.int .i64 0, .int .i64 0, .int .i64 0, .int .i64 0, .int .i64 0, .int .i64 0, .int .i64 0].toArray 47) = w.alloc (.cells #[.int .i64 0, .int .i64 0, .int .i64 0, .int .i64 0, .int .i64 0, .int .i64 0, .int .i64 0] 47) from rfl] at L0
  have hr0 := L0.reads hr
  cases h12 : (inB 1 xs.length 6 && sortB xs)
  · have HC := Lib.hid (seriesOf_no a p xs _ hx hr0 h12)
    have HL := Lib.hid L0
    clear h12 hg hr0 L0
    go_enter Try.func49, Try.ntmps49
    go_wp2_with fail
    refine HC.out.mono ?_
    rintro e w2 ⟨rfl, hb⟩
    have L1 := HL.out.kept hb
    have L2 := L1.kept (below_new (.cells #[.int .i64 0, .int .i64 0, .int .i64 0, .int .i64 0, .int .i64 0, .int .i64 0, .int .i64 0] 47))
    obtain ⟨e0, e1, e2, e3, e4, e5, e6, _⟩ := L2.ownHas.seven
    have HB := Lib.hid L2.below
    clear HL L1 L2 HC hb
    go_wp2_with fail
    refine bodyPost_ret (v := .tuple #[sv0, .bool false]) (by simp [results, Try.results49, go_sem, e0, e1, e2, e3, e4, e5, e6]) rfl ⟨rfl, ?_⟩
    have h2 := HB.out
    repeat (refine Below.setCell ?_ (by simp <;> omega) _)
    exact h2
  · rw [Bool.and_eq_true] at h12
    have hl := inB_iff.1 h12.1
    rw [len_ends h12.1 h12.2] at hg
    have hC := seriesOf_yes a p xs _ hx hr0 h12.1 h12.2
    obtain ⟨M, hM⟩ : ∃ M : Nat → Int, M = fun k => xs.getD k 0 := ⟨_, rfl⟩
    rw [← hM] at hC
    have hM0 : xs.getD 0 0 = M 0 := by rw [hM]
    have HC := Lib.hid hC
    have HL := Lib.hid L0
    rw [hM0] at hg
    clear hC hM
    clear h12 hr0 L0
    go_enter Try.func49, Try.ntmps49
    go_wp2_with fail
    refine HC.out.mono ?_
    rintro e w2 ⟨rfl, hb⟩
    have L1 := HL.out.kept hb
    have L2 := L1.kept (below_new (.cells #[.int .i64 xs.length, .int .i64 (M 0), .int .i64 (M 1), .int .i64 (M 2), .int .i64 (M 3), .int .i64 (M 4), .int .i64 (M 5)] 47))
    obtain ⟨e0, e1, e2, e3, e4, e5, e6, _⟩ := L2.ownHas.seven
    obtain ⟨b, off, rfl, hbl, hc⟩ := reads_row (L2.reads hr) (by omega)
    have hc0 := hc 0 (by omega)
    have hcl := hc (xs.length - 1) (by omega)
    rw [Nat.add_zero, hM0] at hc0
    clear hM0
    have hz0 : (0 : Int) < xs.length := by omega
    have hz1 : 1 ≤ xs.length := by omega
    have hk0 : (0 : Int) ≤ (xs.length : Int) - 1 := by omega
    have hk2 : ((xs.length : Int) - 1).toNat = xs.length - 1 := by omega
    have hk3 : (xs.length : Int) - 1 < xs.length := by omega
    have hk4 : IntKind.i64.wrap ((xs.length : Int) - 1) = (xs.length : Int) - 1 := IntWalk.i64_in _ (by omega)
    have HB := Lib.hid L2.below
    clear HL L1 L2 HC hb hc hbl hl
    generalize xs.getD (xs.length - 1) 0 = y at *
    by_cases ha : M 0 < 0
    · clear hg
      go_wp2_with fail
      refine bodyPost_ret (v := .tuple #[sv0, .bool false]) (by simp [results, Try.results49, go_sem, e0, e1, e2, e3, e4, e5, e6]) rfl ⟨rfl, ?_⟩
      have h2 := HB.out
      repeat (refine Below.setCell ?_ (by simp <;> omega) _)
      exact h2
    · have hb : (xs.length : Int) < y := by
        rw [decide_eq_true (show 0 ≤ M 0 by omega), Bool.true_and, decide_eq_false_iff_not] at hg
        omega
      clear hg
      go_wp2_with fail
      refine bodyPost_ret (v := .tuple #[sv0, .bool false]) (by simp [results, Try.results49, go_sem, e0, e1, e2, e3, e4, e5, e6]) rfl ⟨rfl, ?_⟩
      have h2 := HB.out
      repeat (refine Below.setCell ?_ (by simp <;> omega) _)
      exact h2

set_option maxRecDepth 100000 in
set_option maxHeartbeats 800000 in
theorem lengthsOf_yes (a : Option Addr) (p : Nat) (xs : List Int) (w : World) (hx : xs.length ≤ 1048576) (hr : Reads w a xs.length xs) (hg : lenB xs = true) :
    Calls Try.prog 49 #[.slice a xs.length p] w fun e w' => e = .returned (.tuple #[sv xs.length (fun k => xs.getD k 0), .bool true]) ∧ Below w.heap.size w w' := by
  have L0 := (Law.start w).has [.int .i64 0, .int .i64 0, .int .i64 0, .int .i64 0, .int .i64 0, .int .i64 0, .int .i64 0] 47
  rw [show w.alloc (.cells [.int .i64 0, .int .i64 0, .int .i64 0, .int .i64 0, .int .i64 0, .int .i64 0, .int .i64 0].toArray 47) = w.alloc (.cells #[.int .i64 0, .int .i64 0, .int .i64 0, .int .i64 0, .int .i64 0, .int .i64 0, .int .i64 0] 47) from rfl] at L0
  have hr0 := L0.reads hr
  obtain ⟨l1, l2, l3, l4, l5⟩ := len_facts hg
  have h1 : inB 1 xs.length 6 = true := inB_yes (by omega) (by omega)
  have q1 := l3 0
  have q2 := l4 (xs.length - 1)
  have hC := seriesOf_yes a p xs _ hx hr0 h1 l5
  obtain ⟨M, hM⟩ : ∃ M : Nat → Int, M = fun k => xs.getD k 0 := ⟨_, rfl⟩
  rw [← hM] at hC ⊢
  have hM0 : xs.getD 0 0 = M 0 := by rw [hM]
  have HC := Lib.hid hC
  have HL := Lib.hid L0
  rw [hM0] at q1
  clear hC hM
  clear hr0 L0 hg l3 l4 l5 h1
  go_enter Try.func49, Try.ntmps49
  go_wp2_with fail
  refine HC.out.mono ?_
  rintro e w2 ⟨rfl, hb⟩
  have L1 := HL.out.kept hb
  have L2 := L1.kept (below_new (.cells #[.int .i64 xs.length, .int .i64 (M 0), .int .i64 (M 1), .int .i64 (M 2), .int .i64 (M 3), .int .i64 (M 4), .int .i64 (M 5)] 47))
  obtain ⟨e0, e1, e2, e3, e4, e5, e6, _⟩ := L2.ownHas.seven
  obtain ⟨b, off, rfl, hbl, hc⟩ := reads_row (L2.reads hr) (by omega)
  have hc0 := hc 0 (by omega)
  have hcl := hc (xs.length - 1) (by omega)
  rw [Nat.add_zero, hM0] at hc0
  clear hM0
  have hz0 : (0 : Int) < xs.length := by omega
  have hk0 : (0 : Int) ≤ (xs.length : Int) - 1 := by omega
  have hk2 : ((xs.length : Int) - 1).toNat = xs.length - 1 := by omega
  have hk3 : (xs.length : Int) - 1 < xs.length := by omega
  have hk4 : IntKind.i64.wrap ((xs.length : Int) - 1) = (xs.length : Int) - 1 := IntWalk.i64_in _ (by omega)
  have HB := Lib.hid L2.below
  clear HL L1 L2 HC hb hc hbl
  generalize xs.getD (xs.length - 1) 0 = y at *
  have n1 : ¬ M 0 < 0 := by omega
  have n2 : ¬ (xs.length : Int) < y := by omega
  go_wp2_with fail
  refine bodyPost_ret (v := .tuple #[sv xs.length M, .bool true]) (by simp [results, Try.results49, go_sem, e0, e1, e2, e3, e4, e5, e6]) rfl ⟨rfl, ?_⟩
  have h2 := HB.out
  repeat (refine Below.setCell ?_ (by simp <;> omega) _)
  exact h2

/-- A call that tells one bool. -/
def AnsO (b : Bool) (w : World) (e : Ending) (w' : World) : Prop := e = .returned (.bool b) ∧ Below w.heap.size w w'

end Go.Proofs.Ytabfiafjcnilnaa
end

section
namespace Go.Proofs.Ytabfiafjcnilnaa
open Go.RowKit Go.WideShapes

/-- A list of lists by its rows. -/
def lstR (L : Nat) (g : Nat → List Int) : List (List Int) := (List.range L).map g
theorem lstR_len (L : Nat) (g : Nat → List Int) : (lstR L g).length = L := by simp [lstR]
theorem lstR_get (L : Nat) (g : Nat → List Int) (k : Nat) (h : k < (lstR L g).length) : (lstR L g)[k] = g k := by simp [lstR]
theorem lstR_congr (L : Nat) (g g' : Nat → List Int) (h : ∀ k, k < L → g k = g' k) : lstR L g = lstR L g' := by
  unfold lstR
  exact List.map_congr_left (fun k hk => h k (List.mem_range.1 hk))
theorem lstR_nil (L : Nat) : List.replicate L ([] : List Int) = lstR L (fun _ => []) := by
  refine List.ext_getElem ?_ fun k h1 h2 => ?_
  · simp [lstR]
  · simp [lstR]
theorem lstR_set (L : Nat) (g g' : Nat → List Int) (i : Nat) (x : List Int) (hx : g' i = x) (ho : ∀ k, k < L → k ≠ i → g' k = g k) : (lstR L g).set i x = lstR L g' := by
  refine List.ext_getElem ?_ fun k h1 h2 => ?_
  · simp [lstR]
  · have hk : k < L := by simpa [lstR] using h2
    rw [List.getElem_set]
    by_cases e : i = k
    · subst e
      simp [lstR, hx]
    · rw [if_neg e]
      simp [lstR, ho k hk (fun h => e h.symm)]

/-- Behind the row i and the numbers of rooks that are greater than k. -/
def midQ (xs : List Int) (i k j : Nat) : List Int := if k < j then wts xs (i + 1) j else wts xs i j
theorem rowW_behP (m : Int) (W : Nat → List Int) (k : Nat) : rowW m W k = behP (W k) (preW W k) (m - k) := by
  unfold rowW behP
  by_cases h : m < k
  · rw [if_pos h, if_pos (by omega)]
  · rw [if_neg h, if_neg (by omega)]
theorem midQ_start (xs : List Int) (i j : Nat) : midQ xs i (i + 1) j = wts xs i j := by
  unfold midQ
  split
  · rw [wts_zero xs (i + 1) j (.inl (by omega)), wts_zero xs i j (.inl (by omega))]
  · rfl
theorem midQ_at (xs : List Int) (i k j : Nat) (h : j ≤ k) : midQ xs i k j = wts xs i j := if_neg (by omega)
theorem midQ_next (xs : List Int) (i k j : Nat) (h : j ≠ k + 1) : midQ xs i k j = midQ xs i (k + 1) j := by
  unfold midQ
  by_cases h1 : k < j
  · rw [if_pos h1, if_pos (by omega)]
  · rw [if_neg h1, if_neg (by omega)]
theorem midQ_done (xs : List Int) (i k : Nat) : midQ xs i k (k + 1) = wts xs (i + 1) (k + 1) := if_pos (by omega)
theorem midQ_end (xs : List Int) (i j : Nat) (h : j ≠ 0) : midQ xs i 0 j = wts xs (i + 1) j := if_pos (by omega)
/-- No weights are there where a row is too short for them. -/
theorem wts_short (xs : List Int) (hs : ∀ i j, i ≤ j → j < xs.length → xs.getD i 0 ≤ xs.getD j 0) (i k : Nat) (hi : i < xs.length) (h : xs.getD i 0 - k < 0) (h0 : 0 ≤ xs.getD i 0) : wts xs i k = [] := by
  refine wts_zero xs i k ?_
  by_cases e : i = 0
  · exact .inl (by omega)
  · have := hs (i - 1) i (by omega) hi
    exact .inr ⟨by omega, by omega⟩

end Go.Proofs.Ytabfiafjcnilnaa
end
