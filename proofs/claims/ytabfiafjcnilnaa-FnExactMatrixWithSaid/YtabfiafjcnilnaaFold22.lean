import Derived.Test.YtabfiafjcnilnaaFold21
import Derived.Test.YtabfiafjcnilnaaFold15
namespace Go.Proofs.Ytabfiafjcnilnaa
open Go.RowKit Go.WideShapes

theorem drop_zero_iff (l : List Int) (d : Nat) : within 0 0 (l.drop d) = true ↔ ∀ j, d ≤ j → j < l.length → l.getD j 0 = 0 := by
  rw [within, List.all_eq_true]
  constructor
  · intro h j h1 h2
    have := h l[j] (by rw [List.mem_iff_getElem]; exact ⟨j - d, by simp; omega, by simp [Nat.add_sub_cancel' h1]⟩)
    simp at this
    rw [List.getD_eq_getElem?_getD, List.getElem?_eq_getElem h2]
    show l[j] = 0
    omega
  · intro h x hx
    obtain ⟨i, hi, rfl⟩ := List.mem_iff_getElem.1 hx
    rw [List.length_drop] at hi
    have := h (d + i) (by omega) (by omega)
    rw [List.getD_eq_getElem?_getD, List.getElem?_eq_getElem (by omega)] at this
    have h2 : l[d + i]'(by omega) = 0 := this
    simp [h2]
theorem zerosOk_iff (xs : List Int) (rss : List (List Int)) : ∀ k, zerosOk xs rss k = true ↔ ∀ r, r < k → within 0 0 ((rss.getD r []).drop (xs.getD r 0).toNat) = true
  | 0 => by simp [zerosOk]
  | k + 1 => by
    rw [zerosOk, Bool.and_eq_true, zerosOk_iff xs rss k]
    constructor
    · rintro ⟨h1, h2⟩ r hr
      by_cases e : r = k
      · subst e; exact h2
      · exact h1 r (by omega)
    · intro h
      exact ⟨fun r hr => h r (by omega), h k (by omega)⟩
theorem fitOk_iff (xs : List Int) (rss : List (List Int)) (q : Int) (h : rowsB rss q = true) (h6 : (rss.getD 0 []).length ≤ 6) (hS : ∀ k, 0 ≤ xs.getD k 0 ∧ xs.getD k 0 ≤ 6) :
    fitOk xs rss q = true ↔ (rss.length = xs.length ∧ (rss.getD 0 []).length = xs.length ∧ ∀ r j : Nat, r < rss.length → xs.getD r 0 ≤ (j : Int) → j < (rss.getD 0 []).length → mxR rss rss.length (6 * r + j) = 0) := by
  have hat := rowsB_at rss q h
  rw [fitOk, h, Bool.true_and, Bool.and_eq_true, Bool.and_eq_true, decide_eq_true_eq, decide_eq_true_eq, zerosOk_iff]
  have hlen : ∀ r, r < rss.length → (rss.getD r []).length = (rss.getD 0 []).length := fun r hr => by
    rw [List.getD_eq_getElem?_getD (i := r), List.getElem?_eq_getElem hr]; exact hat r hr
  constructor
  · rintro ⟨h1, h2, h3⟩
    refine ⟨h1, h2, fun r j hr hj hj2 => ?_⟩
    rw [mxR_at rss rss.length r j hr (by omega)]
    have := (hS r).1
    exact (drop_zero_iff _ _).1 (h3 r (by omega)) j (by omega) (by rw [hlen r hr]; exact hj2)
  · rintro ⟨h1, h2, h3⟩
    refine ⟨h1, h2, fun r hr => (drop_zero_iff _ _).2 fun j hj hj2 => ?_⟩
    have hr2 : r < rss.length := by omega
    rw [hlen r hr2] at hj2
    have := h3 r j hr2 (by omega) hj2
    rwa [mxR_at rss rss.length r j hr2 (by omega)] at this
theorem wpList_load_rowG {P : Program} {ops : Array Oper} {rest : List Oper} {o : Oper} {a : Act} {w : World} {Q : Exit → Act → World → Prop} (hwd : Region.wanted o (yielded ops a.tmps) = true) (ty : TypeId) (x : Operand) (ho : o.op = .load ty x)
    (g : Nat) (hx : a.eval x = .pointer (some ⟨g, 0, none⟩)) (t : TypeId) (cs : Array Value) (fr : Nat × Nat) (d : TypeDesc) (hg : w.heap[g]? = some (.cells cs t fr))
    (hu : P.underlying ty = some d) (hd : (match d with | .struct _ | .array _ _ => true | _ => false) = true) (hi : (P.info? ty).map (·.size) = some cs.size)
    (h : wpList P ops Q rest (a.put o.dst (.agg cs)) w) : wpList P ops Q (o :: rest) a w :=
  wpList_step fun K hK => by
    rw [if_pos hwd]
    exact wp_load_row ty x ho g hx t cs fr d hg hu hd hi (hK _ _ h)
theorem ml_hasV {w : World} {b : Nat} {t : TypeId} {n c : Int} {M : Nat → Int} (h : Has w b (ml n c M) t) : w.heap[b]? = some (.cells #[.int .i64 n, .int .i64 c, .int .i64 (M 0), .int .i64 (M 1), .int .i64 (M 2), .int .i64 (M 3), .int .i64 (M 4), .int .i64 (M 5), .int .i64 (M 6), .int .i64 (M 7), .int .i64 (M 8), .int .i64 (M 9), .int .i64 (M 10), .int .i64 (M 11), .int .i64 (M 12), .int .i64 (M 13), .int .i64 (M 14), .int .i64 (M 15), .int .i64 (M 16), .int .i64 (M 17), .int .i64 (M 18), .int .i64 (M 19), .int .i64 (M 20), .int .i64 (M 21), .int .i64 (M 22), .int .i64 (M 23), .int .i64 (M 24), .int .i64 (M 25), .int .i64 (M 26), .int .i64 (M 27), .int .i64 (M 28), .int .i64 (M 29), .int .i64 (M 30), .int .i64 (M 31), .int .i64 (M 32), .int .i64 (M 33), .int .i64 (M 34), .int .i64 (M 35)] t (0, 0)) := h

set_option maxRecDepth 100000 in
set_option maxHeartbeats 6400000 in
theorem implFits_q (xs : List Int) (rss : List (List Int)) (q : Nat) (hq : q = 2 ∨ q = 3) (T : TypeId) (fs : FuncId) (hV : fV q = .iface T (.agg #[])) (hT : ∀ w : World, (method 197 T (.agg #[]) "loop.example/g01125/impl.size").run Try.prog w = .ok (fs, .agg #[]) w) (hF : ∀ w : World, (callFunc fs #[.agg #[]]).run Try.prog w = .ok (.enter fs #[.agg #[]]) w) (hS : ∀ w : World, Calls Try.prog fs #[.agg #[]] w fun e w' => e = .returned (.int .i64 q) ∧ Below w.heap.size w w')
    (w : World) (hx : xs.length ≤ 1048576) (hl : rss.length ≤ 1048576) (a : Option Addr) (p : Nat) (hr : Reads w a xs.length xs) (hg : lenB xs = true) (lo : Nat) (s1 : Value) (vs : List Value) (hO : OwnM w lo s1 vs rss) :
    Calls Try.prog 12 #[.slice a xs.length p, s1, .int .i64 q] w fun e w' => AnsOO ⟨fitOk xs rss q, true⟩ w e w' := by
  obtain ⟨l1, l2, l3, l4, _⟩ := len_facts hg
  obtain ⟨av, pv, rfl⟩ := hO.formR
  have L0 := Law.start w
  have HC := Lib.hid (over_yes a p xs q w hx hr hg hq)
  rw [hV] at HC
  have HMO := Lib.hid (fun W (h : OwnM W lo (.slice av rss.length pv) vs rss) => matrixOf_any rss q T fs hT hF hS W hl lo _ vs h)
  have HO := Lib.hid hO
  cases hrb : rowsB rss q
  · rw [show fitOk xs rss q = false by simp [fitOk, hrb]]
    rw [mxV_no hrb] at HMO
    clear hT hF hS hV hr hg l1 l2 l3 l4 hrb hO hq
    obtain ⟨n, hn⟩ : ∃ n, n = xs.length := ⟨_, rfl⟩
    obtain ⟨M, hM⟩ : ∃ M : Nat → Int, M = fun k => xs.getD k 0 := ⟨_, rfl⟩
    rw [← hM, ← hn] at HC
    rw [← hn]
    clear hM hn hx hl
    go_enter Try.func12, Try.ntmps12
    go_wp2_with fail
    refine HC.out.mono ?_
    rintro e w2 ⟨rfl, hb⟩
    have L2 := (L0.kept hb).has (sl n M) 47
    rw [show w2.alloc (.cells (sl n M).toArray 47) = w2.alloc (.cells #[.int .i64 n, .int .i64 (M 0), .int .i64 (M 1), .int .i64 (M 2), .int .i64 (M 3), .int .i64 (M 4), .int .i64 (M 5)] 47) from rfl] at L2
    have HL2 := Lib.hid L2
    clear hb L2 L0
    go_upto_region 2 with fail
    generalize w2.alloc _ = w5 at *
    have HO5 := Lib.hid (HO.out.keptR HL2.out.below)
    go_wp2_with fail
    refine (HMO.out _ HO5.out).mono ?_
    rintro e w6 ⟨rfl, hb6⟩
    have L6 := (HL2.out.kept hb6).below
    have HB := Lib.hid (fun o cs => below_setRow (below_on L6 (below_new (w := w6) o)) L6.size cs)
    clear hb6 L6
    go_wp2_with (refine wpList_store_row rfl 55 _ _ rfl _ _ rfl rfl _ _ (has_new38 _ _) (by kernel_rfl) rfl (by kernel_rfl) ?_)
    go_ret2
    exact ⟨rfl, HB.out _ _⟩
  · have hrb2 := hrb
    unfold rowsB at hrb2
    simp only [Bool.and_eq_true, inB_iff] at hrb2
    obtain ⟨⟨r1, r2⟩, ⟨r3, r4⟩, _⟩ := hrb2
    have hiff := fitOk_iff xs rss q hrb (by omega) l3
    rw [mxV_yes hrb] at HMO
    have HFT := Lib.hid (fun W => fits_any rss.length (rss.getD 0 []).length xs.length (mxR rss rss.length) (fun k => xs.getD k 0) (fitOk xs rss q) W (by omega) (by omega) l3 hiff)
    clear hT hF hS hV hr hg l1 l2 l3 l4 hrb hO hq hiff r1 r2 r3 r4
    obtain ⟨n, hn⟩ : ∃ n, n = xs.length := ⟨_, rfl⟩
    obtain ⟨M, hM⟩ : ∃ M : Nat → Int, M = fun k => xs.getD k 0 := ⟨_, rfl⟩
    rw [← hM, ← hn] at HC HFT
    rw [← hn]
    clear hM hn hx hl
    generalize mxR rss rss.length = K at *
    generalize (rss.getD 0 []).length = c at *
    generalize fitOk xs rss q = B at *
    go_enter Try.func12, Try.ntmps12
    go_wp2_with fail
    refine HC.out.mono ?_
    rintro e w2 ⟨rfl, hb⟩
    have L2 := (L0.kept hb).has (sl n M) 47
    rw [show w2.alloc (.cells (sl n M).toArray 47) = w2.alloc (.cells #[.int .i64 n, .int .i64 (M 0), .int .i64 (M 1), .int .i64 (M 2), .int .i64 (M 3), .int .i64 (M 4), .int .i64 (M 5)] 47) from rfl] at L2
    have HL2 := Lib.hid L2
    clear hb L2 L0
    go_upto_region 2 with fail
    generalize w2.alloc _ = w5 at *
    have HO5 := Lib.hid (HO.out.keptR HL2.out.below)
    go_wp2_with fail
    refine (HMO.out _ HO5.out).mono ?_
    rintro e w6 ⟨rfl, hb6⟩
    have L7 := Law.setRowH (ts := []) ((HL2.out.kept hb6).has (ml 0 0 (fun _ => 0)) 55) (ds := ml rss.length c K)
    have HL7 := Lib.hid L7
    clear hb6 L7
    rw [show ((w6.alloc (.cells (ml 0 0 (fun _ => 0)).toArray 55)).setRow w6.heap.size (ml rss.length c K).toArray) = ((w6.alloc (.cells #[.int .i64 0, .int .i64 0, .int .i64 0, .int .i64 0, .int .i64 0, .int .i64 0, .int .i64 0, .int .i64 0, .int .i64 0, .int .i64 0, .int .i64 0, .int .i64 0, .int .i64 0, .int .i64 0, .int .i64 0, .int .i64 0, .int .i64 0, .int .i64 0, .int .i64 0, .int .i64 0, .int .i64 0, .int .i64 0, .int .i64 0, .int .i64 0, .int .i64 0, .int .i64 0, .int .i64 0, .int .i64 0, .int .i64 0, .int .i64 0, .int .i64 0, .int .i64 0, .int .i64 0, .int .i64 0, .int .i64 0, .int .i64 0, .int .i64 0, .int .i64 0] 55)).setRow w6.heap.size #[.int .i64 rss.length, .int .i64 c, .int .i64 (K 0), .int .i64 (K 1), .int .i64 (K 2), .int .i64 (K 3), .int .i64 (K 4), .int .i64 (K 5), .int .i64 (K 6), .int .i64 (K 7), .int .i64 (K 8), .int .i64 (K 9), .int .i64 (K 10), .int .i64 (K 11), .int .i64 (K 12), .int .i64 (K 13), .int .i64 (K 14), .int .i64 (K 15), .int .i64 (K 16), .int .i64 (K 17), .int .i64 (K 18), .int .i64 (K 19), .int .i64 (K 20), .int .i64 (K 21), .int .i64 (K 22), .int .i64 (K 23), .int .i64 (K 24), .int .i64 (K 25), .int .i64 (K 26), .int .i64 (K 27), .int .i64 (K 28), .int .i64 (K 29), .int .i64 (K 30), .int .i64 (K 31), .int .i64 (K 32), .int .i64 (K 33), .int .i64 (K 34), .int .i64 (K 35)]) from rfl] at HL7
    go_upto_region 5 with (refine wpList_store_row rfl 55 _ _ rfl _ _ rfl rfl _ _ (has_new38 _ _) (by kernel_rfl) rfl (by kernel_rfl) ?_)
    generalize World.setRow _ _ _ = w7 at *
    have hm := ml_hasV HL7.out.ownHas
    have hs := (HL7.out.tl.ownHas).row
    rw [show (sl n M).toArray = #[.int .i64 n, .int .i64 (M 0), .int .i64 (M 1), .int .i64 (M 2), .int .i64 (M 3), .int .i64 (M 4), .int .i64 (M 5)] from rfl] at hs
    have HB := Lib.hid (fun W h => below_on HL7.out.below (w' := W) h)
    go_wp2_with (first | refine wpList_load_rowG rfl 55 _ rfl _ rfl _ _ _ _ hm Try.underlying55 rfl (by kernel_rfl) ?_ | refine wpList_load_rowG rfl 47 _ rfl _ rfl _ _ _ _ hs Try.underlying47 rfl (by kernel_rfl) ?_)
    refine (HFT.out _).mono ?_
    rintro e w8 ⟨rfl, hb8⟩
    have HB8 := Lib.hid (HB.out _ hb8)
    clear hb8
    go_wp2_with fail
    go_ret2
    exact ⟨rfl, HB8.out⟩
set_option maxRecDepth 100000 in
set_option maxHeartbeats 3200000 in
theorem implFits_any (xs : List Int) (rss : List (List Int)) (q : Int) (w : World) (hx : xs.length ≤ 1048576) (hl : rss.length ≤ 1048576) (lo : Nat) (s : Value) (lo1 : Nat) (s1 : Value) (vs : List Value) (hOx : Own w lo s xs) (hO : OwnM w lo1 s1 vs rss) :
    Calls Try.prog 12 #[s, s1, .int .i64 q] w fun e w' => AnsOO (fitR xs rss q) w e w' := by
  obtain ⟨a, p, rfl, hr⟩ := hOx.reads
  cases hg : (lenB xs && isQ q)
  · rw [show fitR xs rss q = ⟨false, false⟩ by simp [fitR, hg]]
    have L0 := Law.start w
    have HC := Lib.hid (over_no a p xs q w hx hr hg)
    obtain ⟨av, pv, rfl⟩ := hO.formR
    clear hg hr hO hOx
    go_enter Try.func12, Try.ntmps12
    go_wp2_with fail
    refine HC.out.mono ?_
    rintro e w2 ⟨⟨n, M, F, rfl⟩, hb⟩
    have L2 := (L0.kept hb).has (sl n M) 47
    rw [show w2.alloc (.cells (sl n M).toArray 47) = w2.alloc (.cells #[.int .i64 n, .int .i64 (M 0), .int .i64 (M 1), .int .i64 (M 2), .int .i64 (M 3), .int .i64 (M 4), .int .i64 (M 5)] 47) from rfl] at L2
    have HL2 := Lib.hid L2
    clear hb L2 L0
    go_upto_region 2 with fail
    generalize w2.alloc _ = w5 at *
    go_wp2_with fail
    go_ret2
    exact ⟨rfl, HL2.out.below⟩
  · have hgg := hg
    simp only [Bool.and_eq_true] at hgg
    obtain ⟨h1, h2⟩ := hgg
    rw [show fitR xs rss q = ⟨fitOk xs rss q, true⟩ by simp [fitR, hg]]
    rcases isQ_cases h2 with rfl | rfl
    · exact implFits_q xs rss 2 (.inl rfl) 77 78 fV_two meth_size2 (fun w => by kernel_rfl) size_2 w hx hl a p hr h1 lo1 s1 vs hO
    · exact implFits_q xs rss 3 (.inr rfl) 78 82 fV_three meth_size3 (fun w => by kernel_rfl) size_3 w hx hl a p hr h1 lo1 s1 vs hO
theorem lawI_fits (xs : List Int) (rss : List (List Int)) (q : Int) (w : World) (hx : xs.length ≤ 1048576) (hl : rss.length + total rss ≤ 1048576) (lo : Nat) (s : Value) (lo1 : Nat) (s1 : Value) (vs : List Value) (hOx : Own w lo s xs) (hO : OwnM w lo1 s1 vs rss) :
    Calls Try.prog 12 #[s, s1, .int .i64 q] w fun e w' => AnsOO (fitR xs rss q) w e w' := implFits_any xs rss q w hx (by omega) lo s lo1 s1 vs hOx hO
theorem lawS_fits (xs : List Int) (rss : List (List Int)) (q : Int) (w : World) (hx : xs.length ≤ 1048576) (hl : rss.length + total rss ≤ 1048576) (lo : Nat) (s : Value) (lo1 : Nat) (s1 : Value) (vs : List Value) (hOx : Own w lo s xs) (hO : OwnM w lo1 s1 vs rss) :
    Calls Try.prog 9 #[s, s1, .int .i64 q] w fun e w' => AnsOO (fitR xs rss q) w e w' := specFits_any xs rss q w hx (by omega) lo s hOx lo1 s1 vs hO

end Go.Proofs.Ytabfiafjcnilnaa
