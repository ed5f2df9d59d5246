import Derived.Test.YtdgkcfpfldaopaaFold29

section
namespace Go.Proofs.Ytdgkcfpfldaopaa
open Go.RowKit Go.WideShapes

/-- The product of the first brackets. -/
def prodB (q : Nat) (x : Int) (fs : List Int) : Nat → Int
  | 0 => 1
  | i + 1 => prodB q x fs i * brk q (x + fs.getD i 0).toNat
/-- What is tried of all lengths. -/
def chkB (xs : List Int) : Bool := decide (4 < xs.length) || (List.range 9).all fun x => decide (x < xs.length) || (List.range 4).all fun q => (List.range xs.length).all fun i =>
  decide (0 ≤ (x : Int) + (facs xs).getD i 0 ∧ (x : Int) + (facs xs).getD i 0 ≤ 20) && decide (-9000000000000000000 ≤ prodB q x (facs xs) (i + 1) ∧ prodB q x (facs xs) (i + 1) ≤ 9000000000000000000)
theorem chkB_all {xs : List Int} (hg : lenB xs = true) : chkB xs = true := all_lens chkB (by decide +kernel) hg
theorem prodB_in (xs : List Int) (hg : lenB xs = true) (h4 : xs.length ≤ 4) (q : Nat) (hq : q ≤ 3) (x : Int) (hx : xs.length ≤ x ∧ x ≤ 8) (i : Nat) (hi : i < xs.length) :
    (0 ≤ x + (facs xs).getD i 0 ∧ x + (facs xs).getD i 0 ≤ 20) ∧ (-9000000000000000000 ≤ prodB q x (facs xs) (i + 1) ∧ prodB q x (facs xs) (i + 1) ≤ 9000000000000000000) := by
  have h := chkB_all hg
  obtain ⟨n, rfl⟩ := Int.eq_ofNat_of_zero_le (show 0 ≤ x by omega)
  unfold chkB at h
  rw [Bool.or_eq_true, decide_eq_true_eq] at h
  rcases h with h | h
  · omega
  · rw [List.all_eq_true] at h
    have h := h n (List.mem_range.2 (by omega))
    rw [Bool.or_eq_true, decide_eq_true_eq] at h
    rcases h with h | h
    · omega
    · rw [List.all_eq_true] at h
      have h := h q (List.mem_range.2 (by omega))
      rw [List.all_eq_true] at h
      have h := h i (List.mem_range.2 hi)
      rw [Bool.and_eq_true, decide_eq_true_eq, decide_eq_true_eq] at h
      exact h
def prodR (xs : List Int) (q x : Int) : R1 := if argV xs q x then ⟨prodB q.toNat x (facs xs) xs.length, true⟩ else ⟨0, false⟩

set_option maxRecDepth 100000 in
set_option maxHeartbeats 6400000 in
theorem implPro_any (xs : List Int) (q x : Int) (w : World) (hx : xs.length ≤ 1048576) (lo : Nat) (s : Value) (hO : Own w lo s xs) :
    Calls Try.prog 44 #[s, .int .i64 q, .int .i64 x] w (AnsIO (prodR xs q x) w) := by
  obtain ⟨a, p, rfl, hr⟩ := hO.reads
  clear hO
  have L0 := Law.start w
  cases hv : argV xs q x
  · rw [show prodR xs q x = ⟨0, false⟩ by simp [prodR, hv]]
    have HC := Lib.hid (valued_no a p xs q x w hx hr hv)
    clear hv hr
    go_enter Try.func44, Try.ntmps44
    go_wp2_with fail
    refine HC.out.mono ?_
    rintro e w2 ⟨⟨u, N, F, rfl⟩, hb⟩
    have HB := Lib.hid (below_on hb (below_new (.cells #[.int .i64 u, .int .i64 (N 0), .int .i64 (N 1), .int .i64 (N 2), .int .i64 (N 3), .int .i64 (N 4), .int .i64 (N 5)] 59)))
    clear hb HC
    go_wp2_with fail
    go_ret2
    exact ⟨rfl, HB.out⟩
  · rw [show prodR xs q x = ⟨prodB q.toNat x (facs xs) xs.length, true⟩ by simp [prodR, hv]]
    simp only [argV, Bool.and_eq_true, decide_eq_true_eq] at hv
    obtain ⟨hg, h4, hq, hxx⟩ := hv
    obtain ⟨Q, rfl, hQ⟩ := isQ_nat hq
    have hx8 := inB_iff.1 hxx
    obtain ⟨l1, l2, l3, _⟩ := len_facts hg
    have HC := Lib.hid (valued_yes a p xs Q x w hx hr hg hQ h4 hx8.1 hx8.2)
    have hP := fun i hi => prodB_in xs hg (by omega) Q (by omega) x hx8 i hi
    have HF := Lib.hid (fun W => factors_any xs W l1 l2 (fun k => by have := l3 k; omega))
    have HBR := Lib.hid (fun m W hm => bracket_any Q hQ m W hm)
    rw [Int.toNat_natCast]
    obtain ⟨n, hn⟩ : ∃ n, n = xs.length := ⟨_, rfl⟩
    obtain ⟨M, hM⟩ : ∃ M : Nat → Int, M = fl xs := ⟨_, rfl⟩
    rw [← hn] at HC HF hP h4 ⊢
    rw [show (fun k => xs.getD k 0) = M from hM.symm] at HC
    rw [← hM] at HF
    have HP := Lib.hid hP
    have hPS := fun i => show prodB Q x (facs xs) (i + 1) = prodB Q x (facs xs) i * brk Q (x + (facs xs).getD i 0).toNat from rfl
    have HPS := Lib.hid hPS
    have hP0 : prodB Q x (facs xs) 0 = 1 := rfl
    have HP0 := Lib.hid hP0
    have hn4 : n ≤ 4 := by omega
    clear hg hq hxx hr hn hM hQ hx8 l1 l2 l3 hP hPS hP0 hx h4
    generalize fV Q = F at *
    generalize facs xs = ys at *
    generalize prodB Q x ys = B at *
    generalize brk Q = K at *
    obtain ⟨N, hN⟩ : ∃ N : Nat → Int, N = fl ys := ⟨_, rfl⟩
    rw [← hN] at HF
    have HNN := Lib.hid (show ∀ k, N k = ys.getD k 0 from fun k => by rw [hN])
    clear hN
    go_enter Try.func44, Try.ntmps44
    go_wp2_with fail
    refine HC.out.mono ?_
    rintro e w2 ⟨rfl, hb⟩
    have L2 := (L0.kept hb).has (sl n M) 59
    rw [show w2.alloc (.cells (sl n M).toArray 59) = w2.alloc (.cells #[.int .i64 n, .int .i64 (M 0), .int .i64 (M 1), .int .i64 (M 2), .int .i64 (M 3), .int .i64 (M 4), .int .i64 (M 5)] 59) from rfl] at L2
    have HL2 := Lib.hid L2
    clear hb L2 HC L0
    go_upto_region 2 with fail
    generalize w2.alloc _ = w5 at *
    obtain ⟨e0, e1, e2, e3, e4, e5, e6, _⟩ := HL2.out.ownHas.seven
    go_wp2_with fail
    refine (HF.out _).mono ?_
    rintro e w3 ⟨rfl, hb⟩
    have L3 := (HL2.out.kept hb).has (sl n N) 59
    rw [show w3.alloc (.cells (sl n N).toArray 59) = w3.alloc (.cells #[.int .i64 n, .int .i64 (N 0), .int .i64 (N 1), .int .i64 (N 2), .int .i64 (N 3), .int .i64 (N 4), .int .i64 (N 5)] 59) from rfl] at L3
    have HL3 := Lib.hid L3
    clear hb L3 HL2 e0 e1 e2 e3 e4 e5 e6
    go_upto_region 6 with fail
    generalize w3.alloc _ = w6 at *
    obtain ⟨b, hbb⟩ : ∃ b, b = w3.heap.size := ⟨_, rfl⟩
    rw [← hbb] at HL3 ⊢
    clear hbb
    have ⟨e0, _⟩ := HL3.out.tl.ownHas.seven
    go_wp2_with fail
    clear e0
    go_loopw [11, 28] (fun t i wr => ∃ k : Nat, k ≤ n ∧ i = .int .i64 k ∧ t = .int .i64 (B k) ∧ Law w [tHas b (sl n N) 59, tHas w2.heap.size (sl n M) 59] wr) (fun _ i _ => n - (intOf i).toNat)
    case atStart => exact ⟨0, Nat.zero_le _, rfl, by rw [HP0.out], HL3.out⟩
    case round =>
      clear HL3
      obtain ⟨k, hk, rfl, rfl, L⟩ := hrel
      by_cases hlt : k < n
      · have c1 := L.ownHas.cell (1 + k)
        rw [sl_get _ _ k (by omega), HNN.out] at c1
        have hp := HP.out k hlt
        obtain ⟨m, hm⟩ := Int.eq_ofNat_of_zero_le hp.1.1
        have HS := Lib.hid (HPS.out k)
        rw [hm, Int.toNat_natCast] at HS
        have HB1 := Lib.hid (fun W => HBR.out m W (by omega))
        have hw1 : IntKind.i64.wrap (x + ys.getD k 0) = m := by rw [hm]; exact IntWalk.i64_in _ (by omega)
        have hw3 : wrap64 (x + ys.getD k 0) = m := by rw [hm]; exact IntWalk.wrap64_in _ (by omega)
        have hpb := hp.2
        rw [HS.out] at hpb
        have hw4 : wrap64 (B k * K m) = B k * K m := IntWalk.wrap64_in _ (by omega)
        have HL := Lib.hid L
        have HW4 := Lib.hid (hw4.trans HS.out.symm)
        have hk0 : (0 : Int) ≤ k := by omega
        have hk6 : (k : Int) < 6 := by omega
        clear hp hpb hm L hw4
        generalize ys.getD k 0 = y at *
        go_wp2_with fail
        refine (HB1.out _).mono ?_
        rintro e w7 ⟨rfl, hb⟩
        replace HL := Lib.hid (HL.out.kept hb)
        clear hb c1
        go_wp2_with fail
        go_roundw
        case rel => exact ⟨k + 1, by omega, by go_num, by rw [HW4.out], HL.out⟩
        case measure => simp [intOf]; omega
      · obtain rfl : k = n := by omega
        have HB := Lib.hid L.below
        clear L
        go_wp2_with fail
        go_ret2
        exact ⟨rfl, HB.out⟩
set_option maxRecDepth 100000 in
set_option maxHeartbeats 6400000 in
theorem specPro_any (xs : List Int) (q x : Int) (w : World) (hx : xs.length ≤ 1048576) (lo : Nat) (s : Value) (hO : Own w lo s xs) :
    Calls Try.prog 43 #[s, .int .i64 q, .int .i64 x] w (AnsIO (prodR xs q x) w) := by
  obtain ⟨a, p, rfl, hr⟩ := hO.reads
  clear hO
  have HA := Lib.hid (weArg_any xs q x a p w hx hr)
  cases hv : argV xs q x
  · rw [show prodR xs q x = ⟨0, false⟩ by simp [prodR, hv]]
    rw [hv] at HA
    clear hv hr
    go_enter Try.func43, Try.ntmps43
    go_wp2_with fail
    refine HA.out.mono ?_
    rintro e w2 ⟨rfl, hb⟩
    have HB := Lib.hid hb
    clear hb
    go_wp2_with fail
    go_ret2
    exact ⟨rfl, HB.out⟩
  · rw [show prodR xs q x = ⟨prodB q.toNat x (facs xs) xs.length, true⟩ by simp [prodR, hv]]
    rw [hv] at HA
    simp only [argV, Bool.and_eq_true, decide_eq_true_eq] at hv
    obtain ⟨hg, h4, hq, hxx⟩ := hv
    obtain ⟨Q, rfl, hQ⟩ := isQ_nat hq
    have hx8 := inB_iff.1 hxx
    obtain ⟨l1, l2, l3, _⟩ := len_facts hg
    have hP := fun i hi => prodB_in xs hg (by omega) Q (by omega) x hx8 i hi
    have HF := Lib.hid (fun W h => feFactors_any a p xs W (by omega) (fun k => by have := l3 k; omega) h)
    have HBR := Lib.hid (fun m W hm => weBracket_any Q (by omega) m W hm)
    have hfl := facs_len xs
    have HR := Lib.hid hr
    rw [Int.toNat_natCast]
    obtain ⟨n, hn⟩ : ∃ n, n = xs.length := ⟨_, rfl⟩
    rw [← hn] at hP h4 hfl HF HR HA ⊢
    have HP := Lib.hid hP
    have hPS := fun i => show prodB Q x (facs xs) (i + 1) = prodB Q x (facs xs) i * brk Q (x + (facs xs).getD i 0).toNat from rfl
    have HPS := Lib.hid hPS
    have hP0 : prodB Q x (facs xs) 0 = 1 := rfl
    have HP0 := Lib.hid hP0
    have HFL := Lib.hid hfl
    have hn4 : n ≤ 4 := by omega
    clear hg hq hxx hr hn hQ hx8 l1 l2 l3 hP hPS hP0 hx h4 hfl
    generalize facs xs = ys at *
    generalize prodB Q x ys = B at *
    generalize brk Q = K at *
    go_enter Try.func43, Try.ntmps43
    go_wp2_with fail
    refine HA.out.mono ?_
    rintro e w2 ⟨rfl, hb⟩
    have HB := Lib.hid hb
    clear hb
    go_wp2_with fail
    refine (HF.out _ (HR.out.kept HB.out)).mono ?_
    rintro e w3 ⟨v, rfl, hO, hb⟩
    have L3 := ((Law.start w).kept HB.out).own hb hO
    obtain ⟨a3, p3, hv3, _⟩ := hO.reads
    rw [HFL.out] at hv3
    subst hv3
    have HL3 := Lib.hid L3
    clear hO hb L3
    go_wp2_with fail
    go_loopw [8, 19] (fun t i wr => ∃ k : Nat, k ≤ n ∧ i = .int .i64 k ∧ t = .int .i64 (B k) ∧ Law w [tOwn (.slice a3 n p3) ys] wr) (fun _ i _ => n - (intOf i).toNat)
    case atStart => exact ⟨0, Nat.zero_le _, rfl, by rw [HP0.out], HL3.out⟩
    case round =>
      clear HL3
      obtain ⟨k, hk, rfl, rfl, L⟩ := hrel
      by_cases hlt : k < n
      · obtain ⟨a4, p4, hv4, hr4⟩ := L.ownInts.reads
        rw [HFL.out] at hv4 hr4
        injection hv4 with q1 q2 q3
        subst q1
        subst q3
        obtain ⟨b4, o4, ha4, _, hc4⟩ := reads_row hr4 (by omega)
        subst ha4
        have c1 := hc4 k hlt
        have hp := HP.out k hlt
        obtain ⟨m, hm⟩ := Int.eq_ofNat_of_zero_le hp.1.1
        have HS := Lib.hid (HPS.out k)
        rw [hm, Int.toNat_natCast] at HS
        have HB1 := Lib.hid (fun W => HBR.out m W (by omega))
        have hw3 : wrap64 (x + ys.getD k 0) = m := by rw [hm]; exact IntWalk.wrap64_in _ (by omega)
        have hpb := hp.2
        rw [HS.out] at hpb
        have hw4 : wrap64 (B k * K m) = B k * K m := IntWalk.wrap64_in _ (by omega)
        have HL := Lib.hid L
        have HW4 := Lib.hid (hw4.trans HS.out.symm)
        clear hp hpb hm L hw4 hr4 hc4
        generalize ys.getD k 0 = y at *
        go_wp2_with fail
        refine (HB1.out _).mono ?_
        rintro e w7 ⟨rfl, rfl⟩
        go_wp2_with fail
        go_roundw
        case rel => exact ⟨k + 1, by omega, by go_num, by rw [HW4.out], HL.out⟩
        case measure => simp [intOf]; omega
      · obtain rfl : k = n := by omega
        have HB := Lib.hid L.below
        clear L
        go_wp2_with fail
        go_ret2
        exact ⟨rfl, HB.out⟩
end Go.Proofs.Ytdgkcfpfldaopaa
end

section
namespace Go.Proofs.Ytdgkcfpfldaopaa
open Go.RowKit

/-- The falling product of brackets. -/
def falB (q : Nat) (x : Int) : Nat → Int
  | 0 => 1
  | i + 1 => falB q x i * brk q (x - i).toNat
/-- One term. -/
def trmB (xs : List Int) (q : Nat) (x : Int) (k : Nat) : Int := vN q xs xs.length k * falB q x (xs.length - k)
/-- The term in the making, in the specification. -/
def midB (xs : List Int) (q : Nat) (x : Int) (k i : Nat) : Int := vN q xs xs.length k * falB q x i
def chkS (xs : List Int) : Bool := decide (4 < xs.length) || (List.range 9).all fun x => decide (x < xs.length) || (List.range 4).all fun q => (List.range (xs.length + 1)).all fun k =>
  (decide (0 ≤ sumT (trmB xs q x) (k + 1) ∧ sumT (trmB xs q x) (k + 1) ≤ 9000000000000000000)) && ((List.range (xs.length - k + 1)).all fun i => decide (0 ≤ midB xs q x k i ∧ midB xs q x k i ≤ 9000000000000000000) && decide (0 ≤ falB q x i ∧ falB q x i ≤ 9000000000000000000))
theorem chkS_all {xs : List Int} (hg : lenB xs = true) : chkS xs = true := all_lens chkS (by decide +kernel) hg
theorem sumS_in (xs : List Int) (hg : lenB xs = true) (h4 : xs.length ≤ 4) (q : Nat) (hq : q ≤ 3) (x : Int) (hx : xs.length ≤ x ∧ x ≤ 8) (k : Nat) (hk : k ≤ xs.length) :
    (0 ≤ sumT (trmB xs q x) (k + 1) ∧ sumT (trmB xs q x) (k + 1) ≤ 9000000000000000000) ∧ ∀ i, i ≤ xs.length - k → (0 ≤ midB xs q x k i ∧ midB xs q x k i ≤ 9000000000000000000) ∧ (0 ≤ falB q x i ∧ falB q x i ≤ 9000000000000000000) := by
  have h := chkS_all hg
  obtain ⟨n, rfl⟩ := Int.eq_ofNat_of_zero_le (show 0 ≤ x by omega)
  unfold chkS at h
  rw [Bool.or_eq_true, decide_eq_true_eq] at h
  rcases h with h | h
  · omega
  · rw [List.all_eq_true] at h
    have h := h n (List.mem_range.2 (by omega))
    rw [Bool.or_eq_true, decide_eq_true_eq] at h
    rcases h with h | h
    · omega
    · rw [List.all_eq_true] at h
      have h := h q (List.mem_range.2 (by omega))
      rw [List.all_eq_true] at h
      have h := h k (List.mem_range.2 (by omega))
      rw [Bool.and_eq_true, decide_eq_true_eq, List.all_eq_true] at h
      refine ⟨h.1, fun i hi => ?_⟩
      have h := h.2 i (List.mem_range.2 (by omega))
      rw [Bool.and_eq_true, decide_eq_true_eq, decide_eq_true_eq] at h
      exact h
def sumQ (xs : List Int) (q x : Int) : R1 := if argV xs q x then ⟨sumT (trmB xs q.toNat x) (xs.length + 1), true⟩ else ⟨0, false⟩
end Go.Proofs.Ytdgkcfpfldaopaa
end
