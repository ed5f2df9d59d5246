import Derived.Test.YtabfiafjcnilnaaFold25
import Derived.Test.YtabfiafjcnilnaaFold15
namespace Go.Proofs.Ytabfiafjcnilnaa
open Go.RowKit Go.WideShapes

theorem totM_mul (rss : List (List Int)) (c : Nat) (h : ∀ r ∈ rss, r.length = c) : total rss = rss.length * c := by
  induction rss with
  | nil => simp [total]
  | cons x t ih => rw [total_cons, ih (fun r hr => h r (by simp [hr])), h x (by simp), List.length_cons, Nat.succ_mul]; omega
theorem mwR_len (xs : List Int) (q num : Int) : (mwR xs q num).zz.length ≤ 1048576 ∧ total (mwR xs q num).zz ≤ 1048576 := by
  unfold mwR
  cases h : (fewB xs q && inB 0 num (cntM xs q.toNat - 1))
  · simp [total]
  · rw [if_pos rfl]
    simp only [fewB, Bool.and_eq_true] at h
    have hl := (len_facts h.1.1).2.1
    simp only
    rw [totM_mul _ xs.length (fun r hr => by obtain ⟨k, _, rfl⟩ := List.mem_map.1 hr; exact rowM6_len _ _ _), rowsM_len]
    have := Nat.mul_le_mul hl hl
    omega
set_option maxRecDepth 100000 in
set_option maxHeartbeats 3200000 in
theorem specMw_any (xs : List Int) (q num : Int) (w : World) (hx : xs.length ≤ 1048576) (lo : Nat) (s : Value) (hO : Own w lo s xs) :
    Calls Try.prog 15 #[s, .int .i64 q, .int .i64 num] w fun e w' => AnsM (mwR xs q num) w e w' := by
  obtain ⟨a, p, rfl, hr⟩ := hO.reads
  have HFW := Lib.hid (weFew_any xs q w hx a p hr)
  cases hf : fewB xs q
  · rw [show mwR xs q num = ⟨[], false⟩ by simp [mwR, hf]]
    rw [hf] at HFW
    clear hf hr hO
    go_enter Try.func15, Try.ntmps15
    go_wp2_with fail
    refine HFW.out.mono ?_
    rintro e w2 ⟨rfl, hb⟩
    have HB := Lib.hid hb
    clear hb
    go_wp2_with fail
    go_ret2
    exact ⟨_, [], rfl, OwnM.nil _ _, HB.out⟩
  · have hf2 := hf
    simp only [fewB, Bool.and_eq_true, decide_eq_true_eq] at hf2
    obtain ⟨hg, hq, h6⟩ := hf2
    obtain ⟨q, rfl, hQ⟩ := isQ_nat hq
    rw [Int.toNat_natCast] at h6
    obtain ⟨l1, l2, l3, l4, _⟩ := len_facts hg
    have hpos := cntM_pos xs q (by omega)
    have hle := offC_le (fun k => xs.getD k 0) l3 xs.length
    have HCE := Lib.hid (fun W (h : Reads W a xs.length xs) => weCellsO_any xs.length xs (fun k => xs.getD k 0) (fun _ => rfl) a p W rfl l2 l3 h)
    have HPW := Lib.hid (fun W => wePower_any q (by omega) (offC (fun k => xs.getD k 0) xs.length : Nat) W (by omega))
    rw [Int.toNat_natCast, show (q : Int) ^ offC (fun k => xs.getD k 0) xs.length = cntM xs q from rfl] at HPW
    have HRD := Lib.hid hr
    have HW1 := Lib.hid (show wrap64 (cntM xs q - 1) = cntM xs q - 1 from IntWalk.wrap64_in _ (by omega))
    have hw1 := HW1.out
    have hw2 : IntKind.i64.wrap (cntM xs q - 1) = cntM xs q - 1 := IntWalk.i64_in _ (by omega)
    rw [hf] at HFW
    cases hin : inB 0 num (cntM xs q - 1)
    · rw [show mwR xs q num = ⟨[], false⟩ by unfold mwR; rw [Int.toNat_natCast, hin, Bool.and_false]; rfl]
      have HI := Lib.hid (fun W => at_boolV (l1In_any num 0 (cntM xs q - 1) W) hin)
      clear hf hr hO hg hq l1 l3 l4 hle hin hpos h6 hQ
      generalize cntM xs q = R at *
      generalize offC (fun k => xs.getD k 0) xs.length = C at *
      go_enter Try.func15, Try.ntmps15
      go_wp2_with fail
      refine HFW.out.mono ?_
      rintro e w2 ⟨rfl, hb⟩
      have HB := Lib.hid hb
      clear hb
      go_wp2_with fail
      refine (HCE.out _ (HRD.out.kept HB.out)).mono ?_
      rintro e w3 ⟨rfl, rfl⟩
      go_wp2_with fail
      refine (HPW.out _).mono ?_
      rintro e w3 ⟨rfl, rfl⟩
      go_wp2_with fail
      refine (HI.out _).mono ?_
      rintro e w3 ⟨rfl, rfl⟩
      go_wp2_with fail
      go_ret2
      exact ⟨_, [], rfl, OwnM.nil _ _, HB.out⟩
    · obtain ⟨n1, n2⟩ := inB_iff.1 hin
      obtain ⟨N, rfl⟩ := Int.eq_ofNat_of_zero_le n1
      rw [show mwR xs q N = ⟨rowsM xs.length xs.length (mS (fun k => xs.getD k 0) q N xs.length 0), true⟩ by unfold mwR; rw [Int.toNat_natCast, Int.toNat_natCast, hin, hf]; rfl]
      have HI := Lib.hid (fun W => at_boolV (l1In_any N 0 (cntM xs q - 1) W) hin)
      have HM := Lib.hid (fun W (h : Reads W a xs.length xs) => weMatrix_any xs xs.length q N _ rfl rfl (by omega) W a p h l2 l3 l4 (by omega))
      clear hf hr hO hg hq l1 l3 l4 hle hin hpos h6 hQ n1 n2
      generalize rowsM xs.length xs.length (mS (fun k => xs.getD k 0) q N xs.length 0) = ZZ at *
      generalize cntM xs q = R at *
      generalize offC (fun k => xs.getD k 0) xs.length = C at *
      go_enter Try.func15, Try.ntmps15
      go_wp2_with fail
      refine HFW.out.mono ?_
      rintro e w2 ⟨rfl, hb⟩
      have HB := Lib.hid hb
      clear hb
      go_wp2_with fail
      refine (HCE.out _ (HRD.out.kept HB.out)).mono ?_
      rintro e w3 ⟨rfl, rfl⟩
      go_wp2_with fail
      refine (HPW.out _).mono ?_
      rintro e w3 ⟨rfl, rfl⟩
      go_wp2_with fail
      refine (HI.out _).mono ?_
      rintro e w3 ⟨rfl, rfl⟩
      go_wp2_with fail
      refine (HM.out _ (HRD.out.kept HB.out)).mono ?_
      rintro e w4 ⟨v, vs, rfl, hO, hb⟩
      have HO := Lib.hid (hO.lower HB.out.size)
      have HB4 := Lib.hid (below_on HB.out hb)
      clear hb hO
      go_wp2_with fail
      go_ret2
      exact ⟨_, vs, rfl, HO.out, HB4.out⟩

set_option maxRecDepth 100000 in
set_option maxHeartbeats 6400000 in
theorem implMw_q (xs : List Int) (q : Nat) (hq : q = 2 ∨ q = 3) (T : TypeId) (fs : FuncId) (hV : fV q = .iface T (.agg #[])) (hT : ∀ w : World, (method 197 T (.agg #[]) "loop.example/g01125/impl.size").run Try.prog w = .ok (fs, .agg #[]) w) (hF : ∀ w : World, (callFunc fs #[.agg #[]]).run Try.prog w = .ok (.enter fs #[.agg #[]]) w) (hS : ∀ w : World, Calls Try.prog fs #[.agg #[]] w fun e w' => e = .returned (.int .i64 q) ∧ Below w.heap.size w w')
    (num : Int) (w : World) (hx : xs.length ≤ 1048576) (a : Option Addr) (p : Nat) (hr : Reads w a xs.length xs) (hg : lenB xs = true) :
    Calls Try.prog 16 #[.slice a xs.length p, .int .i64 q, .int .i64 num] w fun e w' => AnsM (mwR xs q num) w e w' := by
  obtain ⟨l1, l2, l3, l4, _⟩ := len_facts hg
  have L0 := Law.start w
  have HC := Lib.hid (over_yes a p xs q w hx hr hg hq)
  rw [hV] at HC
  have hpos := cntM_pos xs q (by omega)
  have hfew : fewB xs q = decide (cntM xs q ≤ 6561) := by
    unfold fewB
    rw [hg, show isQ (q : Int) = true by rcases hq with rfl | rfl <;> rfl, Int.toNat_natCast, Bool.true_and, Bool.true_and]
  have hcnt : (q : Int) ^ offC (fun k => xs.getD k 0) xs.length = cntM xs q := rfl
  have hCM := fun W => countMat_any xs.length (fun k => xs.getD k 0) q (by omega) T fs hT hF hS W l2 l3 len_far
  rw [hcnt] at hCM
  have hMW := fun N (hN : N ≤ 6561) W => matWith_any xs.length (fun k => xs.getD k 0) q N (by omega) T fs hT hF hS W l2 l3 hN
  have hLS := fun N W => lists_any xs.length xs.length (mS (fun k => xs.getD k 0) q N xs.length 0) W l2 l2
  have hmw : ∀ N : Nat, mwR xs q N = if cntM xs q ≤ 6561 ∧ (N : Int) < cntM xs q then ⟨rowsM xs.length xs.length (mS (fun k => xs.getD k 0) q N xs.length 0), true⟩ else ⟨[], false⟩ := by
    intro N
    unfold mwR
    rw [hfew, Int.toNat_natCast, Int.toNat_natCast]
    by_cases h1 : cntM xs q ≤ 6561
    · by_cases h2 : (N : Int) < cntM xs q
      · rw [if_pos (by rw [decide_eq_true h1, Bool.true_and, inB_iff]; omega), if_pos ⟨h1, h2⟩]
      · rw [if_neg (by rw [decide_eq_true h1, Bool.true_and, inB_iff]; omega), if_neg (by omega)]
    · rw [if_neg (by rw [decide_eq_false h1]; simp), if_neg (by omega)]
  have hmn : num < 0 ∨ 6561 < cntM xs q → mwR xs q num = ⟨[], false⟩ := by
    intro h
    unfold mwR
    rw [hfew, Int.toNat_natCast]
    rcases h with h | h
    · rw [if_neg (by rw [Bool.and_eq_true, inB_iff]; omega)]
    · rw [decide_eq_false (by omega), if_neg (by simp)]
  have HCM := Lib.hid hCM
  have HMW := Lib.hid hMW
  have HLS := Lib.hid hLS
  have HMN := Lib.hid hmn
  have HMR := Lib.hid hmw
  clear hT hF hS hV hr hg l1 l2 l3 l4 hfew hcnt hCM hMW hLS hmn hmw hpos
  obtain ⟨n, hn⟩ : ∃ n, n = xs.length := ⟨_, rfl⟩
  obtain ⟨S, hSS⟩ : ∃ S : Nat → Int, S = fun k => xs.getD k 0 := ⟨_, rfl⟩
  rw [← hSS, ← hn] at HC HCM HMW HLS HMR
  rw [← hn]
  obtain ⟨RR, hRR⟩ : ∃ RR, RR = mwR xs q num := ⟨_, rfl⟩
  rw [← hRR] at HMN ⊢
  have HRR := Lib.hid hRR
  clear hSS hn hx hRR
  generalize cntM xs q = R at *
  by_cases h1 : R ≤ 6561
  · by_cases h2 : num < 0
    · obtain rfl := HMN.out (.inl h2)
      go_enter Try.func16, Try.ntmps16
      go_wp2_with fail
      refine HC.out.mono ?_
      rintro e w2 ⟨rfl, hb⟩
      have L2 := (L0.kept hb).has (sl n S) 47
      rw [show w2.alloc (.cells (sl n S).toArray 47) = w2.alloc (.cells #[.int .i64 n, .int .i64 (S 0), .int .i64 (S 1), .int .i64 (S 2), .int .i64 (S 3), .int .i64 (S 4), .int .i64 (S 5)] 47) from rfl] at L2
      have HL2 := Lib.hid L2
      clear hb L2 L0
      go_upto_region 2 with fail
      generalize w2.alloc _ = w5 at *
      obtain ⟨e0, e1, e2, e3, e4, e5, e6, _⟩ := HL2.out.ownHas.seven
      generalize w2.heap.size = b8 at *
      go_wp2_with fail
      refine (HCM.out _).mono ?_
      rintro e w6 ⟨rfl, hb6⟩
      have HL6 := Lib.hid (HL2.out.kept hb6)
      obtain ⟨g0, g1, g2, g3, g4, g5, g6, _⟩ := HL6.out.ownHas.seven
      clear hb6 HL2 e0 e1 e2 e3 e4 e5 e6
      go_wp2_with fail
      go_ret2
      exact ⟨_, [], rfl, OwnM.nil _ _, HL6.out.below⟩
    · obtain ⟨N, rfl⟩ := Int.eq_ofNat_of_zero_le (show 0 ≤ num by omega)
      by_cases h3 : (N : Int) < R
      · obtain rfl := HRR.out.trans ((HMR.out N).trans (if_pos ⟨h1, h3⟩))
        have hN : N ≤ 6561 := by omega
        have h3n : ¬ R ≤ (N : Int) := by omega
        have HMW2 := Lib.hid (fun W => HMW.out N hN W)
        have HLS2 := Lib.hid (fun W => HLS.out N W)
        generalize rowsM n n (mS S q N n 0) = ZZ at *
        generalize mS S q N n 0 = K at *
        go_enter Try.func16, Try.ntmps16
        go_wp2_with fail
        refine HC.out.mono ?_
        rintro e w2 ⟨rfl, hb⟩
        have L2 := (L0.kept hb).has (sl n S) 47
        rw [show w2.alloc (.cells (sl n S).toArray 47) = w2.alloc (.cells #[.int .i64 n, .int .i64 (S 0), .int .i64 (S 1), .int .i64 (S 2), .int .i64 (S 3), .int .i64 (S 4), .int .i64 (S 5)] 47) from rfl] at L2
        have HL2 := Lib.hid L2
        clear hb L2 L0
        go_upto_region 2 with fail
        generalize w2.alloc _ = w5 at *
        obtain ⟨e0, e1, e2, e3, e4, e5, e6, _⟩ := HL2.out.ownHas.seven
        generalize w2.heap.size = b8 at *
        go_wp2_with fail
        refine (HCM.out _).mono ?_
        rintro e w6 ⟨rfl, hb6⟩
        have HL6 := Lib.hid (HL2.out.kept hb6)
        obtain ⟨g0, g1, g2, g3, g4, g5, g6, _⟩ := HL6.out.ownHas.seven
        clear hb6 HL2 e0 e1 e2 e3 e4 e5 e6
        go_wp2_with fail
        refine (HCM.out _).mono ?_
        rintro e w7 ⟨rfl, hb7⟩
        have HL7 := Lib.hid (HL6.out.kept hb7)
        clear g0 g1 g2 g3 g4 g5 g6 hb7 HL6
        obtain ⟨g0, g1, g2, g3, g4, g5, g6, _⟩ := HL7.out.ownHas.seven
        go_wp2_with fail
        refine (HMW2.out _).mono ?_
        rintro e w8 ⟨rfl, hb8⟩
        have HL8 := Lib.hid (HL7.out.kept hb8)
        clear g0 g1 g2 g3 g4 g5 g6 hb8 HL7
        go_wp2_with fail
        refine (HLS2.out _).mono ?_
        rintro e w9 ⟨v, vs, rfl, hO, hb9⟩
        have HO := Lib.hid (hO.lower HL8.out.below.size)
        have HB9 := Lib.hid (HL8.out.kept hb9).below
        clear hb9 hO HL8
        go_wp2_with fail
        go_ret2
        exact ⟨_, vs, rfl, HO.out, HB9.out⟩
      · obtain rfl := HRR.out.trans ((HMR.out N).trans (if_neg (by omega)))
        have h3n : R ≤ (N : Int) := by omega
        go_enter Try.func16, Try.ntmps16
        go_wp2_with fail
        refine HC.out.mono ?_
        rintro e w2 ⟨rfl, hb⟩
        have L2 := (L0.kept hb).has (sl n S) 47
        rw [show w2.alloc (.cells (sl n S).toArray 47) = w2.alloc (.cells #[.int .i64 n, .int .i64 (S 0), .int .i64 (S 1), .int .i64 (S 2), .int .i64 (S 3), .int .i64 (S 4), .int .i64 (S 5)] 47) from rfl] at L2
        have HL2 := Lib.hid L2
        clear hb L2 L0
        go_upto_region 2 with fail
        generalize w2.alloc _ = w5 at *
        obtain ⟨e0, e1, e2, e3, e4, e5, e6, _⟩ := HL2.out.ownHas.seven
        generalize w2.heap.size = b8 at *
        go_wp2_with fail
        refine (HCM.out _).mono ?_
        rintro e w6 ⟨rfl, hb6⟩
        have HL6 := Lib.hid (HL2.out.kept hb6)
        obtain ⟨g0, g1, g2, g3, g4, g5, g6, _⟩ := HL6.out.ownHas.seven
        clear hb6 HL2 e0 e1 e2 e3 e4 e5 e6
        go_wp2_with fail
        refine (HCM.out _).mono ?_
        rintro e w7 ⟨rfl, hb7⟩
        have HL7 := Lib.hid (HL6.out.kept hb7)
        clear g0 g1 g2 g3 g4 g5 g6 hb7 HL6
        go_wp2_with fail
        go_ret2
        exact ⟨_, [], rfl, OwnM.nil _ _, HL7.out.below⟩
  · have h1n : (6561 : Int) < R := by omega
    obtain rfl := HMN.out (.inr h1n)
    go_enter Try.func16, Try.ntmps16
    go_wp2_with fail
    refine HC.out.mono ?_
    rintro e w2 ⟨rfl, hb⟩
    have L2 := (L0.kept hb).has (sl n S) 47
    rw [show w2.alloc (.cells (sl n S).toArray 47) = w2.alloc (.cells #[.int .i64 n, .int .i64 (S 0), .int .i64 (S 1), .int .i64 (S 2), .int .i64 (S 3), .int .i64 (S 4), .int .i64 (S 5)] 47) from rfl] at L2
    have HL2 := Lib.hid L2
    clear hb L2 L0
    go_upto_region 2 with fail
    generalize w2.alloc _ = w5 at *
    obtain ⟨e0, e1, e2, e3, e4, e5, e6, _⟩ := HL2.out.ownHas.seven
    generalize w2.heap.size = b8 at *
    go_wp2_with fail
    refine (HCM.out _).mono ?_
    rintro e w6 ⟨rfl, hb6⟩
    have HL6 := Lib.hid (HL2.out.kept hb6)
    obtain ⟨g0, g1, g2, g3, g4, g5, g6, _⟩ := HL6.out.ownHas.seven
    clear hb6 HL2 e0 e1 e2 e3 e4 e5 e6
    go_wp2_with fail
    go_ret2
    exact ⟨_, [], rfl, OwnM.nil _ _, HL6.out.below⟩
set_option maxRecDepth 100000 in
set_option maxHeartbeats 3200000 in
theorem implMw_any (xs : List Int) (q num : Int) (w : World) (hx : xs.length ≤ 1048576) (lo : Nat) (s : Value) (hO : Own w lo s xs) :
    Calls Try.prog 16 #[s, .int .i64 q, .int .i64 num] w fun e w' => AnsM (mwR xs q num) w e w' := by
  obtain ⟨a, p, rfl, hr⟩ := hO.reads
  cases hg : (lenB xs && isQ q)
  · rw [show mwR xs q num = ⟨[], false⟩ by unfold mwR fewB; rw [← Bool.and_assoc, hg]; rfl]
    have L0 := Law.start w
    have HC := Lib.hid (over_no a p xs q w hx hr hg)
    clear hg hr hO
    go_enter Try.func16, Try.ntmps16
    go_wp2_with fail
    refine HC.out.mono ?_
    rintro e w2 ⟨⟨n, S, F, rfl⟩, hb⟩
    have L2 := (L0.kept hb).has (sl n S) 47
    rw [show w2.alloc (.cells (sl n S).toArray 47) = w2.alloc (.cells #[.int .i64 n, .int .i64 (S 0), .int .i64 (S 1), .int .i64 (S 2), .int .i64 (S 3), .int .i64 (S 4), .int .i64 (S 5)] 47) from rfl] at L2
    have HL2 := Lib.hid L2
    clear hb L2 L0
    go_upto_region 2 with fail
    generalize w2.alloc _ = w5 at *
    go_wp2_with fail
    go_ret2
    exact ⟨_, [], rfl, OwnM.nil _ _, HL2.out.below⟩
  · have hgg := hg
    simp only [Bool.and_eq_true] at hgg
    obtain ⟨h1, h2⟩ := hgg
    rcases isQ_cases h2 with rfl | rfl
    · exact implMw_q xs 2 (.inl rfl) 77 78 fV_two meth_size2 (fun w => by kernel_rfl) size_2 num w hx a p hr h1
    · exact implMw_q xs 3 (.inr rfl) 78 82 fV_three meth_size3 (fun w => by kernel_rfl) size_3 num w hx a p hr h1

end Go.Proofs.Ytabfiafjcnilnaa
