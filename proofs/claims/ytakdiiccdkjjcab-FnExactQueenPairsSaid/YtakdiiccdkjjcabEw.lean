/- Queens quiet as bishops and as rooks, in the specification. No condition but the sizes. -/
import Derived.Test.YtakdiiccdkjjcabEq
import Derived.Test.YtakdiiccdkjjcabEd
import Derived.Test.YtakdiiccdkjjcabRw
namespace Go.Proofs.Ytakdiiccdkjjcab
open Go.RowKit Go.WideShapes

theorem big_or (a b : Nat) (ha : a < 2048) (hb : b < 11) : bits .or .i64 (a : Int) (2 ^ b) = ((a ||| 2 ^ b : Nat) : Int) ∧ bits .or .i64 (a : Int) (wrap64 (2 ^ b)) = ((a ||| 2 ^ b : Nat) : Int) ∧ bits .or .i64 (a : Int) (IntKind.i64.wrap (2 ^ b)) = ((a ||| 2 ^ b : Nat) : Int) := by
  have h2 : wrap64 (2 ^ b) = (2 : Int) ^ b ∧ IntKind.i64.wrap (2 ^ b) = (2 : Int) ^ b ∧ ((2 ^ b : Nat) : Int) = (2 : Int) ^ b := by
    have key : ∀ b : Fin 11, wrap64 (2 ^ (b : Nat)) = (2 : Int) ^ (b : Nat) ∧ IntKind.i64.wrap (2 ^ (b : Nat)) = (2 : Int) ^ (b : Nat) ∧ ((2 ^ (b : Nat) : Nat) : Int) = (2 : Int) ^ (b : Nat) := by decide +kernel
    exact key ⟨b, hb⟩
  have h1 : bits .or .i64 (a : Int) (2 ^ b) = ((a ||| 2 ^ b : Nat) : Int) := by
    have key : ∀ x : Fin 64, ∀ y : Fin 32, ∀ b : Fin 11, bits .or .i64 ((x.val * 32 + y.val : Nat) : Int) (2 ^ (b : Nat)) = (((x.val * 32 + y.val) ||| 2 ^ (b : Nat) : Nat) : Int) := by decide +kernel
    have := key ⟨a / 32, by omega⟩ ⟨a % 32, by omega⟩ ⟨b, hb⟩
    simp only at this
    rwa [show a / 32 * 32 + a % 32 = a by omega] at this
  exact ⟨h1, by rw [h2.1]; exact h1, by rw [h2.2.1]; exact h1⟩
theorem big_bit (a b : Nat) (ha : a < 2048) (hb : b < 11) : (((a : Int) / 2 ^ b).tmod 2 == 0) = !a.testBit b ∧ (((a : Int) / 2 ^ b) % 2 == 0) = !a.testBit b := by
  have key : ∀ x : Fin 64, ∀ y : Fin 32, ∀ b : Fin 11, ((((x.val * 32 + y.val : Nat) : Int) / 2 ^ (b : Nat)).tmod 2 == 0) = !(x.val * 32 + y.val).testBit b ∧ ((((x.val * 32 + y.val : Nat) : Int) / 2 ^ (b : Nat)) % 2 == 0) = !(x.val * 32 + y.val).testBit b := by decide +kernel
  have := key ⟨a / 32, by omega⟩ ⟨a % 32, by omega⟩ ⟨b, hb⟩
  simp only at this
  rwa [show a / 32 * 32 + a % 32 = a by omega] at this
theorem big_lt (a b : Nat) (ha : a < 2048) (hb : b < 11) : a ||| 2 ^ b < 2048 := by
  have h : 2 ^ b < 2 ^ 11 := Nat.pow_lt_pow_right (by decide) hb
  exact Nat.or_lt_two_pow (n := 11) ha h

theorem rsP_len (P : Nat → Nat → Bool) (m d : Nat) : ∀ r, (rsP P m r d).length ≤ d * m := by
  induction d with
  | zero => intro r; exact Nat.zero_le _
  | succ d ih =>
    intro r
    rw [rsP, List.length_append, Nat.succ_mul]
    have h1 := ih (r + 1)
    have h2 : (rwP P m r).length ≤ m := by
      unfold rwP
      rw [List.length_map]
      exact Nat.le_trans (List.length_filter_le _ _) (by simp)
    omega
theorem bcN_le (P : Nat → Nat → Bool) (m d r k C F R : Nat) (hd : d ≤ 6) (hm : m ≤ 6) : bcN P m d r k C F R ≤ 68719476736 := by
  rw [bcN_cq]
  refine Nat.le_trans (cqN_le _ _ _) (Nat.le_trans (Nat.pow_le_pow_right (by decide) (?_ : _ ≤ 36)) (by decide))
  have h1 := rsP_len P m d r
  have h2 : d * m ≤ 6 * 6 := Nat.mul_le_mul hd hm
  exact Nat.le_trans (List.length_filter_le _ _) (by omega)
theorem sumF_app (f : Nat × Nat → Nat) (a b : List (Nat × Nat)) : sumF f (a ++ b) = sumF f a + sumF f b := by
  induction a with
  | nil => rw [List.nil_append, sumF, Nat.zero_add]
  | cons x a ih => rw [List.cons_append, sumF, sumF, ih, Nat.add_assoc]
theorem sumF_le (f : Nat × Nat → Nat) (B : Nat) (l : List (Nat × Nat)) (h : ∀ y, f y ≤ B) : sumF f l ≤ l.length * B := by
  induction l with
  | nil => exact Nat.zero_le _
  | cons x l ih =>
    rw [sumF, List.length_cons, Nat.succ_mul]
    have := h x
    omega
/-- The count, when the first c columns of the row have been tried. -/
def accB (P : Nat → Nat → Bool) (m d r k C F R c : Nat) : Nat := bcN P m d (r + 1) k C F R + sumF (fun y => bcN P m d (r + 1) (k - 1) (C ||| 2 ^ y.2) (F ||| 2 ^ (r + y.2)) (R ||| 2 ^ (r + m - 1 - y.2))) ((rwP P c r).filter (fun y => !takB m C F R y))
theorem rwP_succ (P : Nat → Nat → Bool) (c r : Nat) : rwP P (c + 1) r = rwP P c r ++ (if P r c then [(r, c)] else []) := by
  unfold rwP
  rw [List.range_succ, List.filter_append, List.map_append]
  congr 1
  by_cases h : P r c = true
  · rw [if_pos h]; simp [h]
  · rw [if_neg h]; simp [h]
theorem accB_zero (P : Nat → Nat → Bool) (m d r k C F R : Nat) : accB P m d r k C F R 0 = bcN P m d (r + 1) k C F R := rfl
theorem accB_full (P : Nat → Nat → Bool) (m d r k C F R : Nat) (h0 : ¬ k = 0) (h1 : ¬ d + 1 < k) : accB P m d r k C F R m = bcN P m (d + 1) r k C F R := by
  rw [bcN, if_neg h0, if_neg h1]; rfl
theorem accB_no (P : Nat → Nat → Bool) (m d r k C F R c : Nat) (h : (P r c && !takB m C F R (r, c)) = false) : accB P m d r k C F R (c + 1) = accB P m d r k C F R c := by
  unfold accB
  rw [rwP_succ, List.filter_append, sumF_app]
  by_cases hp : P r c = true
  · rw [if_pos hp]
    rw [hp, Bool.true_and] at h
    rw [List.filter_cons_of_neg (by rw [h]; decide)]
    rfl
  · rw [if_neg hp]; rfl
theorem accB_yes (P : Nat → Nat → Bool) (m d r k C F R c : Nat) (h : (P r c && !takB m C F R (r, c)) = true) :
    accB P m d r k C F R c + bcN P m d (r + 1) (k - 1) (C ||| 2 ^ c) (F ||| 2 ^ (r + c)) (R ||| 2 ^ (r + m - 1 - c)) = accB P m d r k C F R (c + 1) := by
  unfold accB
  rw [rwP_succ, List.filter_append, sumF_app]
  rw [Bool.and_eq_true] at h
  rw [if_pos h.1, List.filter_cons_of_pos (by exact h.2), List.filter_nil, sumF, sumF]
  show _ = _ + (_ + (bcN P m d (r + 1) (k - 1) (C ||| 2 ^ c) (F ||| 2 ^ (r + c)) (R ||| 2 ^ (r + m - 1 - c)) + 0))
  omega
theorem accB_le (P : Nat → Nat → Bool) (m d r k C F R c : Nat) (hd : d ≤ 6) (hm : m ≤ 6) (hc : c ≤ 6) : accB P m d r k C F R c ≤ 481036337152 := by
  unfold accB
  have h1 := bcN_le P m d (r + 1) k C F R hd hm
  have h2 := sumF_le (fun y => bcN P m d (r + 1) (k - 1) (C ||| 2 ^ y.2) (F ||| 2 ^ (r + y.2)) (R ||| 2 ^ (r + m - 1 - y.2))) 68719476736 ((rwP P c r).filter (fun y => !takB m C F R y)) (fun y => bcN_le _ _ _ _ _ _ _ _ hd hm)
  have h3 : ((rwP P c r).filter (fun y => !takB m C F R y)).length ≤ 6 := by
    refine Nat.le_trans (List.length_filter_le _ _) ?_
    unfold rwP
    rw [List.length_map]
    exact Nat.le_trans (List.length_filter_le _ _) (by simpa using hc)
  have h4 := Nat.mul_le_mul_right 68719476736 h3
  omega

theorem wr_sub (n r d : Nat) (h : n = r + (d + 1)) (hn : n ≤ 6) : wrap64 ((n : Int) - r) = (d : Int) + 1 := by
  rw [show (n : Int) - r = (d : Int) + 1 by omega]
  exact IntWalk.wrap64_in _ (by omega)
theorem wr_add (r : Nat) (h : r ≤ 6) : wrap64 ((r : Int) + 1) = ((r + 1 : Nat) : Int) := by
  rw [show ((r + 1 : Nat) : Int) = (r : Int) + 1 by omega]
  exact IntWalk.wrap64_in _ (by omega)
theorem wr_km (k : Nat) (h : ¬ k = 0) (hk : k ≤ 12) : wrap64 ((k : Int) - 1) = ((k - 1 : Nat) : Int) ∧ IntKind.i64.wrap ((k : Int) - 1) = ((k - 1 : Nat) : Int) := by
  rw [show (k : Int) - 1 = ((k - 1 : Nat) : Int) by omega]
  exact ⟨IntWalk.wrap64_in _ (by omega), IntWalk.i64_in _ (by omega)⟩
theorem wr_sum (a b : Nat) (ha : a ≤ 481036337152) (hb : b ≤ 68719476736) : wrap64 ((a : Int) + b) = ((a + b : Nat) : Int) ∧ IntKind.i64.wrap ((a : Int) + b) = ((a + b : Nat) : Int) := by
  rw [show (a : Int) + b = ((a + b : Nat) : Int) by push_cast; rfl]
  exact ⟨IntWalk.wrap64_in _ (by omega), IntWalk.i64_in _ (by omega)⟩
theorem wr_add2 (r : Nat) (h : r ≤ 6) : IntKind.i64.wrap ((r : Int) + 1) = ((r + 1 : Nat) : Int) := by
  rw [show ((r + 1 : Nat) : Int) = (r : Int) + 1 by omega]
  exact IntWalk.i64_in _ (by omega)
set_option maxRecDepth 100000 in
set_option maxHeartbeats 12800000 in
theorem biCount_any (n m : Nat) (xs : List Int) (hn : n ≤ 6) (hm : m ≤ 6) (hx : xs.length ≤ 1048576) (hl : xs.length = n) (hgc : ∀ k, 0 ≤ xs.getD k 0 ∧ xs.getD k 0 < 64) (lo : Nat) (s : Value) (d : Nat) : ∀ (r k C F R : Nat) (w : World), n = r + d → k ≤ 12 → C < 2048 → F < 2048 → R < 2048 → Own w lo s xs →
    Calls Try.prog 67 #[.agg #[.int .i64 n, .int .i64 m, s], .int .i64 r, .int .i64 k, .int .i64 C, .int .i64 F, .int .i64 R] w fun e w' => e = .returned (.int .i64 (bcN (bt xs) m d r k C F R : Nat)) ∧ Below w.heap.size w w' := by
  induction d with
  | zero =>
    intro r k C F R w hr hk hC hF hR hO
    obtain ⟨sa, sc, rfl, _⟩ := hO.reads
    have L0 := (Law.start w).box (.int .i64 n) (.int .i64 m) (.slice sa xs.length sc) 28
    have HL := Lib.hid L0
    have hw : wrap64 ((n : Int) - r) = 0 := by rw [show (n : Int) - r = 0 by omega]; exact IntWalk.wrap64_in _ (by decide)
    clear L0 hO hr hl hgc
    by_cases h0 : k = 0
    · rw [show bcN (bt xs) m 0 r k C F R = 1 from if_pos h0]
      subst h0
      rw [show ((0 : Nat) : Int) = 0 from rfl]
      go_enter Try.func67, Try.ntmps67
      go_wp2_with fail
      go_ret
      exact ⟨rfl, HL.out.below⟩
    · rw [show bcN (bt xs) m 0 r k C F R = 0 from if_neg h0]
      have hk0 : ((k : Int) == 0) = false := by rw [beq_eq_false_iff_ne]; omega
      have hlt : (0 : Int) < k := by omega
      go_enter Try.func67, Try.ntmps67
      go_upto_region 1 with fail
      generalize w.alloc _ = w1 at *
      have ⟨_, b0, b1, b2, _⟩ := HL.out.ownBox
      go_wp2_with fail
      go_ret
      exact ⟨rfl, HL.out.below⟩
  | succ d ih =>
    intro r k C F R w hr hk hC hF hR hO
    have HO := Lib.hid hO
    obtain ⟨sa, sc, rfl, _⟩ := hO.reads
    have L0 := (Law.start w).box (.int .i64 n) (.int .i64 m) (.slice sa xs.length sc) 28
    have HL := Lib.hid L0
    clear L0 hO
    by_cases h0 : k = 0
    · rw [show bcN (bt xs) m (d + 1) r k C F R = 1 by rw [bcN, if_pos h0]]
      subst h0
      clear hr hl hgc ih
      rw [show ((0 : Nat) : Int) = 0 from rfl]
      go_enter Try.func67, Try.ntmps67
      go_wp2_with fail
      go_ret
      exact ⟨rfl, HL.out.below⟩
    · have hk0 : ((k : Int) == 0) = false := by rw [beq_eq_false_iff_ne]; omega
      have HW := Lib.hid (wr_sub n r d hr hn)
      by_cases h1 : d + 1 < k
      · rw [show bcN (bt xs) m (d + 1) r k C F R = 0 by rw [bcN, if_neg h0, if_pos h1]]
        have hlt : (d : Int) + 1 < k := by omega
        clear hr hl hgc ih
        have hw := HW.out
        go_enter Try.func67, Try.ntmps67
        go_upto_region 1 with fail
        generalize w.alloc _ = w1 at *
        have ⟨_, b0, b1, b2, _⟩ := HL.out.ownBox
        go_wp2_with fail
        go_ret
        exact ⟨rfl, HL.out.below⟩
      · rw [← accB_full (bt xs) m d r k C F R h0 h1]
        have hlt : ¬ (d : Int) + 1 < k := by omega
        have HIH := Lib.hid (fun k C F R W hk hC hF hR h => ih (r + 1) k C F R W (by omega) hk hC hF hR h)
        have HAB := Lib.hid (fun c (hc : c ≤ 6) => accB_le (bt xs) m d r k C F R c (by omega) hm hc)
        have HBL := Lib.hid (fun k C F R => bcN_le (bt xs) m d (r + 1) k C F R (by omega) hm)
        have HDG := Lib.hid (fun c W (hc : c < 6) => biDiag_any n m (.slice sa xs.length sc) r c W hm (by omega) hc)
        have HHA := Lib.hid (fun (c : Nat) (W : World) (hc : c < 6) (h : Own W lo (.slice sa xs.length sc) xs) => boHas_any n m xs r c W (by omega) hx hc (hgc r) lo _ h)
        have HR6 := Lib.hid (show r < 6 by omega)
        have hr1 := wr_add r (by omega)
        have HR2 := Lib.hid (wr_add2 r (by omega))
        have HK := Lib.hid (And.intro h0 hk)
        clear ih hgc hl hr h1
        have hw := HW.out
        go_enter Try.func67, Try.ntmps67
        go_upto_region 1 with fail
        generalize w.alloc _ = w1 at *
        have ⟨_, b0, b1, b2, _⟩ := HL.out.ownBox
        have hO1 := HO.out.kept HL.out.below
        go_wp2_with fail
        refine (HIH.out k C F R _ hk hC hF hR hO1).mono ?_
        rintro e w2 ⟨rfl, hb⟩
        replace HL := Lib.hid (HL.out.kept hb)
        clear hb b0 b1 b2 hO1 hw
        rw [← accB_zero]
        go_wp2_with fail
        go_loopw [13, 14, 15, 16] (fun cn c _ _ wr => ∃ q : Nat, q ≤ m ∧ c = .int .i64 q ∧ cn = .int .i64 (accB (bt xs) m d r k C F R q : Nat) ∧ Law w [tBox w.heap.size (.int .i64 n) (.int .i64 m) (.slice sa xs.length sc)] wr) (fun _ c _ _ _ => m - (intOf c).toNat)
        case atStart => exact ⟨0, Nat.zero_le _, rfl, rfl, HL.out⟩
        case round =>
          clear HL
          obtain ⟨q, hq, rfl, rfl, L⟩ := hrel
          have HL := Lib.hid L
          clear L
          have ⟨_, b0, b1, b2, _⟩ := HL.out.ownBox
          by_cases hqm : q < m
          · obtain ⟨X, hX⟩ : ∃ X, X = r + q := ⟨_, rfl⟩
            obtain ⟨Y, hY⟩ : ∃ Y, Y = r + m - 1 - q := ⟨_, rfl⟩
            have hr6 := HR6.out
            have HD := Lib.hid (fun W => HDG.out q W (by omega))
            rw [show (r : Int) + q = (X : Nat) by omega, show (r : Int) - q + m - 1 = (Y : Nat) by omega] at HD
            have hX11 : X < 11 := by omega
            have hY11 : Y < 11 := by omega
            have HA := Lib.hid (fun W h => HHA.out q W (by omega) h)
            have HTK := Lib.hid (show takB m C F R (r, q) = (C.testBit q || (F.testBit X || R.testBit Y)) by rw [hX, hY]; rfl)
            have HBT := Lib.hid (show bt xs r q = (xs.getD r 0).toNat.testBit q from rfl)
            obtain ⟨c1, c2⟩ := big_bit C q hC (by omega)
            obtain ⟨f1, f2⟩ := big_bit F X hF hX11
            obtain ⟨t1, t2⟩ := big_bit R Y hR hY11
            have HOR1 := Lib.hid (big_or C q hC (by omega))
            have HOR2 := Lib.hid (big_or F X hF hX11)
            have HOR3 := Lib.hid (big_or R Y hR hY11)
            have HLT := Lib.hid (And.intro (big_lt C q hC (by omega)) (And.intro (big_lt F X hF hX11) (big_lt R Y hR hY11)))
            have HYES := Lib.hid (accB_yes (bt xs) m d r k C F R q)
            rw [← hX, ← hY] at HYES
            have HNO := Lib.hid (accB_no (bt xs) m d r k C F R q)
            have hq0 : (0 : Int) ≤ q := by omega
            have hq64 : (q : Int) < 64 := by omega
            clear hX hY
            rw [HBT.out, HTK.out] at HYES HNO
            cases hbit : (xs.getD r 0).toNat.testBit q
            · rw [hbit] at HA
              have HNX := Lib.hid (HNO.out (by rw [hbit]; rfl))
              clear hbit HYES HNO HTK HBT c1 c2 f1 f2 t1 t2 HOR1 HOR2 HOR3 HLT
              go_wp2_with fail
              refine (HD.out _).mono ?_
              rintro e w3 ⟨rfl, hb⟩
              replace HL := Lib.hid (HL.out.kept hb)
              clear hb b0 b1 b2
              have ⟨_, b0, b1, b2, _⟩ := HL.out.ownBox
              have hO2 := HO.out.kept HL.out.below
              go_wp2_with fail
              refine (HA.out _ hO2).mono ?_
              rintro e w4 ⟨rfl, hb⟩
              replace HL := Lib.hid (HL.out.kept hb)
              clear hb b0 b1 b2 hO2
              go_wp2_with fail
              go_roundw
              case rel => exact ⟨q + 1, by omega, by go_num, by rw [HNX.out], HL.out⟩
              case measure => simp [intOf]; omega
            · rw [hbit] at HA
              rw [hbit] at HYES HNO
              cases hc : C.testBit q
              · rw [hc] at c1 c2
                simp only [Bool.not_false] at c1 c2
                rw [hc] at HYES HNO
                cases hf : F.testBit X
                · rw [hf] at f1 f2
                  simp only [Bool.not_false] at f1 f2
                  rw [hf] at HYES HNO
                  cases ht : R.testBit Y
                  · rw [ht] at t1 t2
                    simp only [Bool.not_false] at t1 t2
                    have HNX := Lib.hid (HYES.out (by rw [ht]; rfl))
                    have HB1 := Lib.hid (And.intro (HAB.out q (by omega)) (HBL.out (k - 1) (C ||| 2 ^ q) (F ||| 2 ^ X) (R ||| 2 ^ Y)))
                    have HREC := Lib.hid (fun W h => HIH.out (k - 1) (C ||| 2 ^ q) (F ||| 2 ^ X) (R ||| 2 ^ Y) W (by omega) HLT.out.1 HLT.out.2.1 HLT.out.2.2 h)
                    rw [show ((r + 1 : Nat) : Int) = (r : Int) + 1 from Int.natCast_succ r] at HREC
                    have HKM := Lib.hid (And.intro HK.out.1 hk)
                    clear hbit hc hf ht HYES HNO HTK HBT HLT
                    go_wp2_with fail
                    refine (HD.out _).mono ?_
                    rintro e w3 ⟨rfl, hb⟩
                    replace HL := Lib.hid (HL.out.kept hb)
                    clear hb b0 b1 b2
                    have ⟨_, b0, b1, b2, _⟩ := HL.out.ownBox
                    have hO2 := HO.out.kept HL.out.below
                    go_wp2_with fail
                    refine (HA.out _ hO2).mono ?_
                    rintro e w4 ⟨rfl, hb⟩
                    replace HL := Lib.hid (HL.out.kept hb)
                    clear hb b0 b1 b2 hO2
                    replace HL := Lib.hid HL.out.drew
                    have ⟨_, b0, b1, b2, _⟩ := HL.out.ownBox
                    have hO3 := HO.out.kept HL.out.below
                    obtain ⟨o1, o2, o3⟩ := HOR1.out
                    obtain ⟨o4, o5, o6⟩ := HOR2.out
                    obtain ⟨o7, o8, o9⟩ := HOR3.out
                    have hr2 := HR2.out
                    have hkm := wr_km k HKM.out.1 HKM.out.2
                    have hsum := wr_sum _ _ HB1.out.1 HB1.out.2
                    have hX0 : (0 : Int) ≤ X := by omega
                    have hX64 : (X : Int) < 64 := by omega
                    have hY0 : (0 : Int) ≤ Y := by omega
                    have hY64 : (Y : Int) < 64 := by omega
                    generalize bcN (bt xs) m d (r + 1) (k - 1) (C ||| 2 ^ q) (F ||| 2 ^ X) (R ||| 2 ^ Y) = yy at *
                    generalize accB (bt xs) m d r k C F R q = aa at *
                    go_wp2_with fail
                    clear c1 c2 f1 f2 t1 t2
                    go_region_held3 (fun w' => w'.cell? ⟨w.heap.size, 0, none⟩ = some (.int .i64 n) ∧ w'.cell? ⟨w.heap.size, 1, none⟩ = some (.int .i64 m) ∧ w'.cell? ⟨w.heap.size, 2, none⟩ = some (.slice sa xs.length sc)) (exact ⟨b0, b1, b2⟩) ((go_at_call 67; ((with_reducible refine (HREC.out _ hO3).mono ?_); rintro r wA ⟨rfl, hb⟩; replace HL := Lib.hid (HL.out.kept hb); replace b0 := cell_later hb b0; replace b1 := cell_later hb b1; replace b2 := cell_later hb b2; clear hb)))
                    all_goals
                      clear b0 b1 b2 hO3 o1 o2 o3 o4 o5 o6 o7 o8 o9 HREC
                      go_wp2_with fail
                      go_roundw
                      case rel => exact ⟨q + 1, by omega, by go_num, by rw [← HNX.out]; go_num, HL.out⟩
                      case measure => simp [intOf]; omega
                  · rw [ht] at t1 t2
                    simp only [Bool.not_true] at t1 t2
                    have HNX := Lib.hid (HNO.out (by rw [ht]; rfl))
                    clear hbit hc hf ht HYES HNO HTK HBT HOR1 HOR2 HOR3 HLT
                    go_wp2_with fail
                    refine (HD.out _).mono ?_
                    rintro e w3 ⟨rfl, hb⟩
                    replace HL := Lib.hid (HL.out.kept hb)
                    clear hb b0 b1 b2
                    have ⟨_, b0, b1, b2, _⟩ := HL.out.ownBox
                    have hO2 := HO.out.kept HL.out.below
                    go_wp2_with fail
                    refine (HA.out _ hO2).mono ?_
                    rintro e w4 ⟨rfl, hb⟩
                    replace HL := Lib.hid (HL.out.kept hb)
                    clear hb b0 b1 b2 hO2
                    go_wp2_with fail
                    go_roundw
                    case rel => exact ⟨q + 1, by omega, by go_num, by rw [HNX.out], HL.out⟩
                    case measure => simp [intOf]; omega
                · rw [hf] at f1 f2
                  simp only [Bool.not_true] at f1 f2
                  have HNX := Lib.hid (HNO.out (by rw [hf]; rfl))
                  clear hbit hc hf HYES HNO HTK HBT t1 t2 HOR1 HOR2 HOR3 HLT
                  go_wp2_with fail
                  refine (HD.out _).mono ?_
                  rintro e w3 ⟨rfl, hb⟩
                  replace HL := Lib.hid (HL.out.kept hb)
                  clear hb b0 b1 b2
                  have ⟨_, b0, b1, b2, _⟩ := HL.out.ownBox
                  have hO2 := HO.out.kept HL.out.below
                  go_wp2_with fail
                  refine (HA.out _ hO2).mono ?_
                  rintro e w4 ⟨rfl, hb⟩
                  replace HL := Lib.hid (HL.out.kept hb)
                  clear hb b0 b1 b2 hO2
                  go_wp2_with fail
                  go_roundw
                  case rel => exact ⟨q + 1, by omega, by go_num, by rw [HNX.out], HL.out⟩
                  case measure => simp [intOf]; omega
              · rw [hc] at c1 c2
                simp only [Bool.not_true] at c1 c2
                have HNX := Lib.hid (HNO.out (by rw [hc]; rfl))
                clear hbit hc HYES HNO HTK HBT f1 f2 t1 t2 HOR1 HOR2 HOR3 HLT
                go_wp2_with fail
                refine (HD.out _).mono ?_
                rintro e w3 ⟨rfl, hb⟩
                replace HL := Lib.hid (HL.out.kept hb)
                clear hb b0 b1 b2
                have ⟨_, b0, b1, b2, _⟩ := HL.out.ownBox
                have hO2 := HO.out.kept HL.out.below
                go_wp2_with fail
                refine (HA.out _ hO2).mono ?_
                rintro e w4 ⟨rfl, hb⟩
                replace HL := Lib.hid (HL.out.kept hb)
                clear hb b0 b1 b2 hO2
                go_wp2_with fail
                go_roundw
                case rel => exact ⟨q + 1, by omega, by go_num, by rw [HNX.out], HL.out⟩
                case measure => simp [intOf]; omega
          · obtain rfl : m = q := by omega
            go_wp2_with fail
            go_ret
            exact ⟨rfl, HL.out.below⟩

end Go.Proofs.Ytakdiiccdkjjcab
