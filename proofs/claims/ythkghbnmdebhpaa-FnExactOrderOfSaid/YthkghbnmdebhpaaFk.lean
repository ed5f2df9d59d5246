/- Lengths that are alike: both texts. No condition but the sizes. -/
import Derived.Test.YthkghbnmdebhpaaFv
import Derived.Test.YthkghbnmdebhpaaSa
import Derived.Deep.RegionWith
import Derived.Laws.StructEq
import Derived.ChangeKeysEq
namespace Go.Proofs.Ythkghbnmdebhpaa
open Go.RowKit Go.WideShapes

/-- Are six numbers equal, one by one? -/
def eqN6 (F G : Nat → Int) : Bool := (List.range 6).all fun i => F i == G i

theorem eqItems_intN (P : Program) (d : Nat) (e : TypeId) (hp : P.plainKey e = true) (hu : P.underlying e = some (.int .i64)) (xs ys : Array Value) (F G : Nat → Int) (w : World) :
    ∀ l : List Nat, (∀ i ∈ l, xs[i]? = some (.int .i64 (F i)) ∧ ys[i]? = some (.int .i64 (G i))) → (Op.eqItems (d + 1) e 1 xs ys l).run P w = .ok (l.all fun i => F i == G i) w := by
  intro l
  induction l with
  | nil => intro _; simp [Op.eqItems]
  | cons i l ih =>
    intro h
    obtain ⟨h1, h2⟩ := h i (by simp)
    have ih := ih (fun j hj => h j (by simp [hj]))
    simp only [Op.eqItems, Sem.run_bind, Nat.mul_one, run_part_plain w hp h1, run_part_plain w hp h2, Result.andThen_ok, run_equalIn_int w d e .i64 .i64 (F i) (G i) hu, List.all_cons]
    cases hc : F i == G i
    · simp only [Bool.not_false, if_true, Sem.run_pure, Bool.false_and]
    · simp only [Bool.not_true, Bool.false_eq_true, if_false, ih, Bool.true_and]

theorem sv_get (F : Nat → Int) (i : Nat) (h : i < 6) : (#[Value.int .i64 (F 0), .int .i64 (F 1), .int .i64 (F 2), .int .i64 (F 3), .int .i64 (F 4), .int .i64 (F 5)] : Array Value)[i]? = some (.int .i64 (F i)) := by
  have : i = 0 ∨ i = 1 ∨ i = 2 ∨ i = 3 ∨ i = 4 ∨ i = 5 := by omega
  rcases this with rfl | rfl | rfl | rfl | rfl | rfl <;> rfl

/-- Two arrays of six compared. -/
theorem eqArr (F G : Nat → Int) (W : World) : (Op.equalIn 9999 47 (.agg #[.int .i64 (F 0), .int .i64 (F 1), .int .i64 (F 2), .int .i64 (F 3), .int .i64 (F 4), .int .i64 (F 5)]) (.agg #[.int .i64 (G 0), .int .i64 (G 1), .int .i64 (G 2), .int .i64 (G 3), .int .i64 (G 4), .int .i64 (G 5)])).run Try.prog W = .ok (eqN6 F G) W := by
  obtain ⟨i, hi, _⟩ := Option.map_eq_some_iff.1 Try.infoI
  rw [run_equalIn_array W 9998 (e := 3) (n := 6) (i := i) _ _ (by kernel_rfl) hi, show Try.prog.cellsOf 3 = 1 by kernel_rfl]
  exact eqItems_intN Try.prog 9997 3 (by kernel_rfl) (by kernel_rfl) _ _ F G W (List.range 6) (fun i hi => ⟨sv_get F i (List.mem_range.1 hi), sv_get G i (List.mem_range.1 hi)⟩)

/-- The comparison of two lists' series is that of the lists. -/
theorem eqSer_lists (xs ys : List Int) (h1 : xs.length ≤ 6) (h2 : ys.length ≤ 6) : (((xs.length : Int) == ys.length) && eqN6 (fl xs) (fl ys)) = decide (xs = ys) := by
  rw [Bool.eq_iff_iff, Bool.and_eq_true, beq_iff_eq, decide_eq_true_eq]
  constructor
  · rintro ⟨hl, h⟩
    refine List.ext_getElem (by omega) (fun i q1 q2 => ?_)
    have := List.all_eq_true.1 h i (List.mem_range.2 (by omega))
    rw [beq_iff_eq] at this
    simpa [fl, List.getD_eq_getElem?_getD, q1, q2] using this
  · rintro rfl
    exact ⟨rfl, List.all_eq_true.2 (fun i _ => by rw [beq_iff_eq])⟩

theorem own_rd {w : World} {lo : Nat} {a : Option Addr} {p : Nat} {xs : List Int} (h : Own w lo (.slice a xs.length p) xs) : Reads w a xs.length xs := by
  obtain ⟨a', p', e, hr⟩ := h.reads
  injection e with e1 e2 e3
  subst e1
  exact hr

def alkR (xs ys : List Int) : R2 := if lenB xs && lenB ys then ⟨decide (facs xs = facs ys), true⟩ else ⟨false, false⟩

set_option maxRecDepth 100000 in
set_option maxHeartbeats 6400000 in
theorem specAlk_any (xs ys : List Int) (w : World) (hx : xs.length ≤ 1048576) (hy : ys.length ≤ 1048576) (lo : Nat) (s : Value) (lo2 : Nat) (s2 : Value) (hO : Own w lo s xs) (hO2 : Own w lo2 s2 ys) :
    Calls Try.prog 42 #[s, s2] w fun e w' => AnsOO (alkR xs ys) w e w' := by
  obtain ⟨a, p, rfl, hr⟩ := hO.reads
  obtain ⟨a2, p2, rfl, hr2⟩ := hO2.reads
  clear hO hO2
  cases hg : lenB xs
  · rw [show alkR xs ys = ⟨false, false⟩ by simp [alkR, hg]]
    have HC := Lib.hid (at_boolB (feGood_any a p xs w hx hr) hg)
    clear hg
    go_enter Try.func42, Try.ntmps42
    go_wp2_with fail
    refine HC.out.mono ?_
    rintro e w2 ⟨rfl, hb⟩
    go_wp2_with fail
    go_ret2
    exact ⟨rfl, hb⟩
  · have HC := Lib.hid (at_boolB (feGood_any a p xs w hx hr) hg)
    cases hg2 : lenB ys
    · rw [show alkR xs ys = ⟨false, false⟩ by simp [alkR, hg2]]
      have HC2 := Lib.hid (fun W (h : Reads W a2 ys.length ys) => at_boolB (feGood_any a2 p2 ys W hy h) hg2)
      clear hg hg2
      go_enter Try.func42, Try.ntmps42
      go_wp2_with fail
      refine HC.out.mono ?_
      rintro e w2 ⟨rfl, hb⟩
      go_wp2_with fail
      refine (HC2.out _ (hr2.kept hb)).mono ?_
      rintro e w3 ⟨rfl, hb3⟩
      go_wp2_with fail
      go_ret2
      exact ⟨rfl, below_on hb hb3⟩
    · rw [show alkR xs ys = ⟨decide (facs xs = facs ys), true⟩ by simp [alkR, hg, hg2]]
      have HC2 := Lib.hid (fun W (h : Reads W a2 ys.length ys) => at_boolB (feGood_any a2 p2 ys W hy h) hg2)
      have l1 := len_facts hg
      have l2 := len_facts hg2
      have HF := Lib.hid (fun (W : World) (h : Reads W a xs.length xs) => feFactors_any a p xs W (by omega) (len_bd hg) h)
      have HF2 := Lib.hid (fun (W : World) (h : Reads W a2 ys.length ys) => feFactors_any a2 p2 ys W (by omega) (len_bd hg2) h)
      have HZ := Lib.hid (show (facs xs).length ≤ 1048576 by rw [facs_len]; exact hx)
      clear l1 l2 hg hg2
      generalize facs xs = us at *
      generalize facs ys = vs at *
      go_enter Try.func42, Try.ntmps42
      go_wp2_with fail
      refine HC.out.mono ?_
      rintro e w2 ⟨rfl, hb⟩
      have L1 := (Law.start w).kept hb
      clear hb HC
      go_wp2_with fail
      refine (HC2.out _ (L1.reads hr2)).mono ?_
      rintro e w3 ⟨rfl, hb3⟩
      have L2 := L1.kept hb3
      clear L1 hb3 HC2
      go_wp2_with fail
      refine (HF.out _ (L2.reads hr)).mono ?_
      rintro e wA ⟨vA, rfl, OA, hbA⟩
      obtain ⟨aA, pA, rfl, _⟩ := OA.reads
      have L3 := L2.own hbA OA
      clear L2 OA hbA
      go_wp2_with fail
      refine (HF2.out _ (L3.reads hr2)).mono ?_
      rintro e wB ⟨vB, rfl, OB, hbB⟩
      obtain ⟨aB, pB, rfl, _⟩ := OB.reads
      have L4 := L3.own hbB OB
      clear L3 OB hbB
      go_wp2_with fail
      refine (l1Same_any aA aB us.length vs.length pA pB us vs _ HZ.out rfl rfl (own_rd L4.tl.ownInts) (own_rd L4.ownInts)).mono ?_
      rintro e w4 ⟨rfl, hd⟩
      have HB := Lib.hid (L4.kept hd.below).below
      clear hd L4
      go_wp2_with fail
      go_ret2
      exact ⟨rfl, HB.out⟩

set_option maxRecDepth 100000 in
set_option maxHeartbeats 6400000 in
theorem implAlk_any (xs ys : List Int) (w : World) (hx : xs.length ≤ 1048576) (hy : ys.length ≤ 1048576) (lo : Nat) (s : Value) (lo2 : Nat) (s2 : Value) (hO : Own w lo s xs) (hO2 : Own w lo2 s2 ys) :
    Calls Try.prog 43 #[s, s2] w fun e w' => AnsOO (alkR xs ys) w e w' := by
  obtain ⟨a, p, rfl, hr⟩ := hO.reads
  obtain ⟨a2, p2, rfl, hr2⟩ := hO2.reads
  clear hO hO2
  have hA : ∃ (n : Int) (F : Nat → Int), (lenB xs = true → n = xs.length ∧ F = fl xs) ∧ ∀ W, Reads W a xs.length xs → Calls Try.prog 49 #[.slice a xs.length p] W fun e w' => e = .returned (.tuple #[sv n F, .bool (lenB xs)]) ∧ Below W.heap.size W w' := by
    cases hg : lenB xs
    · exact ⟨0, fun _ => 0, fun h => by simp at h, fun W h => lengthsOf_no a p xs W hx h hg⟩
    · exact ⟨xs.length, fl xs, fun _ => ⟨rfl, rfl⟩, fun W h => lengthsOf_yes a p xs W hx h hg⟩
  have hB : ∃ (n : Int) (F : Nat → Int), (lenB ys = true → n = ys.length ∧ F = fl ys) ∧ ∀ W, Reads W a2 ys.length ys → Calls Try.prog 49 #[.slice a2 ys.length p2] W fun e w' => e = .returned (.tuple #[sv n F, .bool (lenB ys)]) ∧ Below W.heap.size W w' := by
    cases hg : lenB ys
    · exact ⟨0, fun _ => 0, fun h => by simp at h, fun W h => lengthsOf_no a2 p2 ys W hy h hg⟩
    · exact ⟨ys.length, fl ys, fun _ => ⟨rfl, rfl⟩, fun W h => lengthsOf_yes a2 p2 ys W hy h hg⟩
  obtain ⟨n, F, hnF, hA⟩ := hA
  obtain ⟨m, G, hmG, hB⟩ := hB
  cases hg : lenB xs
  · rw [show alkR xs ys = ⟨false, false⟩ by simp [alkR, hg]]
    rw [hg] at hA
    generalize lenB ys = bb at *
    have HA := Lib.hid hA
    have HB := Lib.hid hB
    clear hA hB hnF hmG hg
    go_enter Try.func43, Try.ntmps43
    go_wp2_with fail
    refine (HA.out _ hr).mono ?_
    rintro e w2 ⟨rfl, hb⟩
    have L1 := ((Law.start w).kept hb).kept (below_new (.cells #[.int .i64 n, .int .i64 (F 0), .int .i64 (F 1), .int .i64 (F 2), .int .i64 (F 3), .int .i64 (F 4), .int .i64 (F 5)] 49))
    clear hb
    go_wp2_with fail
    refine (HB.out _ (L1.reads hr2)).mono ?_
    rintro e w3 ⟨rfl, hb⟩
    have L2 := (L1.kept hb).kept (below_new (.cells #[.int .i64 m, .int .i64 (G 0), .int .i64 (G 1), .int .i64 (G 2), .int .i64 (G 3), .int .i64 (G 4), .int .i64 (G 5)] 49))
    clear hb L1
    go_wp2_with fail
    go_ret2
    exact ⟨rfl, L2.below⟩
  · obtain ⟨rfl, rfl⟩ := hnF hg
    cases hg2 : lenB ys
    · rw [show alkR xs ys = ⟨false, false⟩ by simp [alkR, hg2]]
      rw [hg] at hA
      rw [hg2] at hB
      generalize fl xs = F at *
      have HA := Lib.hid hA
      have HB := Lib.hid hB
      clear hA hB hnF hmG hg hg2
      go_enter Try.func43, Try.ntmps43
      go_wp2_with fail
      refine (HA.out _ hr).mono ?_
      rintro e w2 ⟨rfl, hb⟩
      have L1 := ((Law.start w).kept hb).kept (below_new (.cells #[.int .i64 xs.length, .int .i64 (F 0), .int .i64 (F 1), .int .i64 (F 2), .int .i64 (F 3), .int .i64 (F 4), .int .i64 (F 5)] 49))
      clear hb
      go_wp2_with fail
      refine (HB.out _ (L1.reads hr2)).mono ?_
      rintro e w3 ⟨rfl, hb⟩
      have L2 := (L1.kept hb).kept (below_new (.cells #[.int .i64 m, .int .i64 (G 0), .int .i64 (G 1), .int .i64 (G 2), .int .i64 (G 3), .int .i64 (G 4), .int .i64 (G 5)] 49))
      clear hb L1
      go_wp2_with fail
      go_ret2
      exact ⟨rfl, L2.below⟩
    · obtain ⟨em, eG⟩ := hmG hg2
      rw [show alkR xs ys = ⟨decide (facs xs = facs ys), true⟩ by simp [alkR, hg, hg2]]
      rw [hg] at hA
      rw [hg2] at hB
      obtain ⟨a1, a6, _⟩ := len_facts hg
      obtain ⟨b1, b6, _⟩ := len_facts hg2
      have hq := eqSer_lists (facs xs) (facs ys) (by rw [facs_len]; exact a6) (by rw [facs_len]; exact b6)
      have hf := fun W => factors_any xs W a1 a6 (len_bd hg)
      have hf2 := fun W => factors_any ys W b1 b6 (len_bd hg2)
      obtain ⟨n, en⟩ : ∃ n : Int, n = xs.length := ⟨_, rfl⟩
      rw [facs_len, facs_len, ← en, ← em] at hq
      rw [← em, ← eG] at hf2
      rw [← en] at hf hA
      have hE := fun W => eqArr (fl (facs xs)) (fl (facs ys)) W
      generalize eqN6 (fl (facs xs)) (fl (facs ys)) = q at *
      generalize fl (facs xs) = FF at *
      generalize fl (facs ys) = GG at *
      generalize decide (facs xs = facs ys) = D at *
      generalize fl xs = F at *
      have HF := Lib.hid hf
      have HF2 := Lib.hid hf2
      have HA := Lib.hid hA
      have HB := Lib.hid hB
      have HE := Lib.hid hE
      clear hA hB hnF hmG hg hg2 hE a1 a6 b1 b6 em eG en hf hf2
      have hcase : (n = m ∧ q = true ∧ D = true) ∨ (n = m ∧ q = false ∧ D = false) ∨ (¬ n = m ∧ D = false) := by
        by_cases h : n = m
        · subst h
          rw [beq_self_eq_true, Bool.true_and] at hq
          subst hq
          cases q <;> simp
        · rw [beq_eq_false_iff_ne.2 h, Bool.false_and] at hq
          exact .inr (.inr ⟨h, hq.symm⟩)
      clear hq
      rcases hcase with ⟨rfl, rfl, rfl⟩ | ⟨rfl, rfl, rfl⟩ | ⟨hnm, rfl⟩
      · go_enter Try.func43, Try.ntmps43
        go_wp2_with fail
        refine (HA.out _ hr).mono ?_
        rintro e w2 ⟨rfl, hb⟩
        have L1 := ((Law.start w).kept hb).has (sl n F) 49
        clear hb
        go_wp2_with fail
        refine (HB.out _ (L1.reads hr2)).mono ?_
        rintro e w3 ⟨rfl, hb⟩
        have L2 := (L1.kept hb).has (sl n G) 49
        rw [show w3.alloc (.cells (sl n G).toArray 49) = w3.alloc (.cells #[.int .i64 n, .int .i64 (G 0), .int .i64 (G 1), .int .i64 (G 2), .int .i64 (G 3), .int .i64 (G 4), .int .i64 (G 5)] 49) from rfl] at L2
        have HL := Lib.hid L2
        clear hb L1 L2
        go_upto_region 5 with fail
        generalize w3.alloc _ = w5 at *
        have ⟨f0, f1, f2, f3, f4, f5, f6, _⟩ := HL.out.ownHas.seven
        have ⟨e0, e1, e2, e3, e4, e5, e6, _⟩ := HL.out.tl.ownHas.seven
        replace HL := Lib.hid HL.out.drew
        go_region_with ((first
          | (go_at_call 65; ((with_reducible refine (HF.out _).mono ?_); rintro e wA ⟨rfl, hbA⟩; replace HL := Lib.hid (HL.out.kept hbA); clear hbA; have ⟨f0, f1, f2, f3, f4, f5, f6, _⟩ := HL.out.ownHas.seven; have ⟨e0, e1, e2, e3, e4, e5, e6, _⟩ := HL.out.tl.ownHas.seven; have hEA := HE.out wA))
          | (go_at_call 65; ((with_reducible refine (HF2.out _).mono ?_); rintro e wB ⟨rfl, hbB⟩; replace HL := Lib.hid (HL.out.kept hbB); clear hbB; have ⟨f0, f1, f2, f3, f4, f5, f6, _⟩ := HL.out.ownHas.seven; have ⟨e0, e1, e2, e3, e4, e5, e6, _⟩ := HL.out.tl.ownHas.seven; have hEB := HE.out wB))))
        all_goals
          have HB2 := Lib.hid HL.out.below
          clear HL
          go_wp2_with fail
          go_ret2
          exact ⟨rfl, HB2.out⟩
      · go_enter Try.func43, Try.ntmps43
        go_wp2_with fail
        refine (HA.out _ hr).mono ?_
        rintro e w2 ⟨rfl, hb⟩
        have L1 := ((Law.start w).kept hb).has (sl n F) 49
        clear hb
        go_wp2_with fail
        refine (HB.out _ (L1.reads hr2)).mono ?_
        rintro e w3 ⟨rfl, hb⟩
        have L2 := (L1.kept hb).has (sl n G) 49
        rw [show w3.alloc (.cells (sl n G).toArray 49) = w3.alloc (.cells #[.int .i64 n, .int .i64 (G 0), .int .i64 (G 1), .int .i64 (G 2), .int .i64 (G 3), .int .i64 (G 4), .int .i64 (G 5)] 49) from rfl] at L2
        have HL := Lib.hid L2
        clear hb L1 L2
        go_upto_region 5 with fail
        generalize w3.alloc _ = w5 at *
        have ⟨f0, f1, f2, f3, f4, f5, f6, _⟩ := HL.out.ownHas.seven
        have ⟨e0, e1, e2, e3, e4, e5, e6, _⟩ := HL.out.tl.ownHas.seven
        replace HL := Lib.hid HL.out.drew
        go_region_with ((first
          | (go_at_call 65; ((with_reducible refine (HF.out _).mono ?_); rintro e wA ⟨rfl, hbA⟩; replace HL := Lib.hid (HL.out.kept hbA); clear hbA; have ⟨f0, f1, f2, f3, f4, f5, f6, _⟩ := HL.out.ownHas.seven; have ⟨e0, e1, e2, e3, e4, e5, e6, _⟩ := HL.out.tl.ownHas.seven; have hEA := HE.out wA))
          | (go_at_call 65; ((with_reducible refine (HF2.out _).mono ?_); rintro e wB ⟨rfl, hbB⟩; replace HL := Lib.hid (HL.out.kept hbB); clear hbB; have ⟨f0, f1, f2, f3, f4, f5, f6, _⟩ := HL.out.ownHas.seven; have ⟨e0, e1, e2, e3, e4, e5, e6, _⟩ := HL.out.tl.ownHas.seven; have hEB := HE.out wB))))
        all_goals
          have HB2 := Lib.hid HL.out.below
          clear HL
          go_wp2_with fail
          go_ret2
          exact ⟨rfl, HB2.out⟩
      · go_enter Try.func43, Try.ntmps43
        go_wp2_with fail
        refine (HA.out _ hr).mono ?_
        rintro e w2 ⟨rfl, hb⟩
        have L1 := ((Law.start w).kept hb).has (sl n F) 49
        clear hb
        go_wp2_with fail
        refine (HB.out _ (L1.reads hr2)).mono ?_
        rintro e w3 ⟨rfl, hb⟩
        have L2 := (L1.kept hb).has (sl m G) 49
        rw [show w3.alloc (.cells (sl m G).toArray 49) = w3.alloc (.cells #[.int .i64 m, .int .i64 (G 0), .int .i64 (G 1), .int .i64 (G 2), .int .i64 (G 3), .int .i64 (G 4), .int .i64 (G 5)] 49) from rfl] at L2
        have HL := Lib.hid L2
        clear hb L1 L2
        go_upto_region 5 with fail
        generalize w3.alloc _ = w5 at *
        have ⟨f0, f1, f2, f3, f4, f5, f6, _⟩ := HL.out.ownHas.seven
        have ⟨e0, e1, e2, e3, e4, e5, e6, _⟩ := HL.out.tl.ownHas.seven
        replace HL := Lib.hid HL.out.drew
        go_region_with ((first
          | (go_at_call 65; ((with_reducible refine (HF.out _).mono ?_); rintro e wA ⟨rfl, hbA⟩; replace HL := Lib.hid (HL.out.kept hbA); clear hbA; have ⟨f0, f1, f2, f3, f4, f5, f6, _⟩ := HL.out.ownHas.seven; have ⟨e0, e1, e2, e3, e4, e5, e6, _⟩ := HL.out.tl.ownHas.seven; have hEA := HE.out wA))
          | (go_at_call 65; ((with_reducible refine (HF2.out _).mono ?_); rintro e wB ⟨rfl, hbB⟩; replace HL := Lib.hid (HL.out.kept hbB); clear hbB; have ⟨f0, f1, f2, f3, f4, f5, f6, _⟩ := HL.out.ownHas.seven; have ⟨e0, e1, e2, e3, e4, e5, e6, _⟩ := HL.out.tl.ownHas.seven; have hEB := HE.out wB))))
        all_goals
          have HB2 := Lib.hid HL.out.below
          clear HL
          go_wp2_with fail
          go_ret2
          exact ⟨rfl, HB2.out⟩

end Go.Proofs.Ythkghbnmdebhpaa
