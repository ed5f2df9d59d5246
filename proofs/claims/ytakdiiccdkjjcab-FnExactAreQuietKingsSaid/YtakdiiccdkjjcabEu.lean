/- Quiet pieces counted, in the program. No condition but the sizes. -/
import Derived.Test.YtakdiiccdkjjcabEt
import Derived.Test.YtakdiiccdkjjcabM3
import Derived.Test.YtakdiiccdkjjcabEe
namespace Go.Proofs.Ytakdiiccdkjjcab
open Go.RowKit Go.WideShapes

theorem rowM_tb (p : Nat → Bool) (m b : Nat) : (rowM p m).testBit b = (decide (b < m) && p b) := by
  induction m with
  | zero => simp [rowM]
  | succ m ih =>
    rw [rowM]
    by_cases hp : p m = true
    · rw [if_pos hp, Nat.add_comm, show 2 ^ m = 2 ^ m * 1 by omega]
      by_cases hb : b < m
      · rw [Nat.testBit_two_pow_mul_add 1 (rowM_lt p m), if_pos hb, ih]
        simp [hb, show b < m + 1 by omega]
      · rw [Nat.testBit_two_pow_mul_add 1 (rowM_lt p m), if_neg hb]
        by_cases e : b = m
        · subst e; simp [hp]
        · have : b - m = (b - m - 1) + 1 := by omega
          rw [this, Nat.testBit_succ]
          simp
          omega
    · rw [if_neg hp, Nat.add_zero, ih]
      by_cases e : b = m
      · subst e
        have : p b = false := by simpa using hp
        simp [this]
      · by_cases hb : b < m
        · simp [hb, show b < m + 1 by omega]
        · simp [hb, show ¬ b < m + 1 by omega]
theorem leftM_bd (D : Int → Int → Bool) (n m : Nat) (M : Nat → Int) (r c k : Nat) (hm : m ≤ 6) : 0 ≤ leftM D n m M r c k ∧ leftM D n m M r c k < 64 := by
  unfold leftM drawn
  split
  · exact ⟨by omega, rowM_64 _ _ hm⟩
  · split
    · simp [rowM]
    · decide
theorem left_cells (D : Int → Int → Bool) (n m : Nat) (M : Nat → Int) (r c : Nat) : pcL (fun a b => (leftM D n m M r c a).toNat.testBit b) n m = (pcL (fun a b => (M a).toNat.testBit b) n m).filter (freeB D (r, c)) := by
  rw [← pcL_filter]
  refine pcL_congr _ _ _ _ (fun a b ha hb => ?_)
  unfold leftM drawn
  rw [if_pos ha, Int.toNat_natCast, rowM_tb]
  simp [hb, freeB]
/-- A cell goes away. -/
def clrM (M : Nat → Int) (a b : Nat) : Nat → Int := fun i => if i = a then M a - 2 ^ b else M i
theorem clr_bits (x : Int) (b : Nat) (h : 0 ≤ x ∧ x < 64) (hb : b < 6) (ht : x.toNat.testBit b = true) : bits .andNot .i64 x (wrap64 (2 ^ b)) = x - 2 ^ b ∧ (0 ≤ x - 2 ^ b ∧ x - 2 ^ b < 64) ∧ ∀ c, c < 6 → (x - 2 ^ b).toNat.testBit c = (x.toNat.testBit c && decide (c ≠ b)) := by
  obtain ⟨n, rfl⟩ := Int.eq_ofNat_of_zero_le h.1
  have key : ∀ n : Fin 64, ∀ b : Fin 6, (((n : Nat) : Int)).toNat.testBit b = true → bits .andNot .i64 ((n : Nat) : Int) (wrap64 (2 ^ (b : Nat))) = ((n : Nat) : Int) - 2 ^ (b : Nat) ∧ (0 ≤ ((n : Nat) : Int) - 2 ^ (b : Nat) ∧ ((n : Nat) : Int) - 2 ^ (b : Nat) < 64) ∧ ∀ c : Fin 6, (((n : Nat) : Int) - 2 ^ (b : Nat)).toNat.testBit c = (((n : Nat) : Int).toNat.testBit c && decide ((c : Nat) ≠ (b : Nat))) := by decide +kernel
  obtain ⟨h1, h2, h3⟩ := key ⟨n, by omega⟩ ⟨b, hb⟩ ht
  exact ⟨h1, h2, fun c hc => h3 ⟨c, hc⟩⟩
theorem clr_cells (M : Nat → Int) (n m a b : Nat) (hm : m ≤ 6) (hb : b < 6) (hgc : 0 ≤ M a ∧ M a < 64) (ht : (M a).toNat.testBit b = true) (t : List (Nat × Nat)) (h : pcL (fun a b => (M a).toNat.testBit b) n m = (a, b) :: t) :
    pcL (fun i j => (clrM M a b i).toNat.testBit j) n m = t := by
  rw [← pcL_tail _ n m (a, b) t h]
  refine pcL_congr _ _ _ _ (fun i j hi hj => ?_)
  unfold clrM
  by_cases e : i = a
  · subst e
    rw [if_pos rfl, (clr_bits (M i) b hgc hb ht).2.2 j (by omega)]
    congr 1
    rw [Bool.eq_iff_iff]
    simp
  · rw [if_neg e]
    simp [e]

set_option maxRecDepth 100000 in
set_option maxHeartbeats 12800000 in
theorem countQuiet_any (n m : Nat) (F : FuncId) (D : Int → Int → Bool) (hD : MoveF F D) (hn : n ≤ 6) (hm : m ≤ 6) (k : Nat) : ∀ (M : Nat → Int) (w : World), k ≤ 12 → (∀ k, k < 6 → 0 ≤ M k ∧ M k < 64) →
    Calls Try.prog 68 #[gv n m M, .int .i64 k, .func (.func F) #[] #[]] w fun e w' => e = .returned (.int .i64 (cqN D k (pcL (fun a b => (M a).toNat.testBit b) n m) : Nat)) ∧ Below w.heap.size w w' := by
  induction k with
  | zero =>
    intro M w _ _
    have HB := Lib.hid (below_new (w := w) (.cells (gl n m M).toArray 64))
    rw [show ((0 : Nat) : Int) = 0 from rfl]
    go_enter Try.func68, Try.ntmps68
    go_wp2_with fail
    go_ret
    exact ⟨rfl, HB.out⟩
  | succ k ih =>
    intro M w hk hgc
    have L0 := (Law.start w).has (gl n m M) 64
    rw [show w.alloc (.cells (gl n m M).toArray 64) = w.alloc (.cells #[.int .i64 n, .int .i64 m, .int .i64 (M 0), .int .i64 (M 1), .int .i64 (M 2), .int .i64 (M 3), .int .i64 (M 4), .int .i64 (M 5)] 64) from rfl] at L0
    obtain ⟨L, hL⟩ : ∃ L, L = pcL (fun a b => (M a).toNat.testBit b) n m := ⟨_, rfl⟩
    have hL36 : L.length ≤ 36 := by
      rw [hL]
      exact Nat.le_trans (pcL_len _ n m) (Nat.mul_le_mul hn hm)
    have hcs : cellsL (rowL n M) n m = L.map two := by
      rw [pcL_cells, hL]
      congr 1
      exact pcL_congr _ _ _ _ (fun a b ha _ => by show ((rowL n M).getD a 0).toNat.testBit b = _; rw [rowL_get n M a ha])
    have hCL := fun W => cellList_any n m (rowL n M) M W hn hm (fun q hq => (rowL_get n M q hq).symm) hgc
    rw [hcs] at hCL
    have HCL := Lib.hid hCL
    have HIH := Lib.hid (fun M W h => ih M W (by omega) h)
    have HUN := Lib.hid (fun M a b W ha hb h => unattacked_any n m M a b F D hD W hn hm ha hb h)
    have HLM := Lib.hid (fun q (hq : q < L.length) => (pcL_mem (fun a b => (M a).toNat.testBit b) n m L[q]).1 (by rw [← hL]; exact List.getElem_mem hq))
    have HBND := Lib.hid (fun j l (hl : l.length ≤ 36) => show cqN D j l ≤ 68719476736 from Nat.le_trans (cqN_le D j l) (Nat.le_trans (Nat.pow_le_pow_right (by decide) hl) (by decide)))
    have HL0 := Lib.hid (show pcL (fun a b => (M a).toNat.testBit b) n m = L.drop 0 by rw [List.drop_zero, hL])
    have HGC := Lib.hid hgc
    have HL := Lib.hid L0
    rw [← hL]
    have hkw : wrap64 ((k : Int) + 1 - 1) = k := by rw [show (k : Int) + 1 - 1 = k by omega]; exact IntWalk.wrap64_in _ (by omega)
    have hk1 : (((k + 1 : Nat) : Int) == 0) = false := by rw [beq_eq_false_iff_ne]; omega
    clear L0 hgc hcs hCL ih hL
    go_enter Try.func68, Try.ntmps68
    go_upto_region 1 with fail
    generalize w.alloc _ = w1 at *
    obtain ⟨e0, e1, e2, e3, e4, e5, e6, e7, _⟩ := HL.out.ownHas.eight
    go_wp2_with fail
    refine (HCL.out _).mono ?_
    rintro e w2 ⟨v, vs, rfl, hM, hb⟩
    obtain ⟨av, pv, hv⟩ := ownM_shape hM
    replace HL := Lib.hid (HL.out.addM hb hM)
    subst hv
    rw [List.length_map] at HL ⊢
    clear hM hb e0 e1 e2 e3 e4 e5 e6 e7 HCL
    go_wp2_with fail
    go_loopw [7, 9, 10, 11, 17] (fun cn _ _ _ i wr => ∃ (q x : Nat) (Mq : Nat → Int), q ≤ L.length ∧ i = .int .i64 q ∧ cn = .int .i64 (x : Nat) ∧ Hid (x + cqN D (k + 1) (L.drop q) = cqN D (k + 1) L) ∧ Hid (pcL (fun a b => (Mq a).toNat.testBit b) n m = L.drop q) ∧ Hid (∀ k, k < 6 → 0 ≤ Mq k ∧ Mq k < 64) ∧ Hid (Law w [tM (.slice av L.length pv) vs (L.map two), tHas w.heap.size (gl n m Mq) 64] wr)) (fun _ _ _ _ i _ => L.length - (intOf i).toNat)
    case atStart => exact ⟨0, 0, M, Nat.zero_le _, rfl, rfl, Lib.hid (by rw [List.drop_zero, Nat.zero_add]), HL0, HGC, HL⟩
    case round =>
      clear HL HL0 HGC
      obtain ⟨q, x, Mq, hq, rfl, rfl, HX, HP, HG, HL⟩ := hrel
      obtain ⟨wo, rfl⟩ : ∃ wo : World, wo = wr := ⟨_, rfl⟩
      by_cases hlt : q < L.length
      · obtain ⟨ha, hb, _⟩ := HLM.out q hlt
        obtain ⟨⟨a, b⟩, hab⟩ : ∃ y, y = L[q] := ⟨_, rfl⟩
        rw [← hab] at ha hb
        have hdr : L.drop q = (a, b) :: L.drop (q + 1) := by rw [List.drop_eq_getElem_cons hlt, ← hab]
        have hbit : (Mq a).toNat.testBit b = true := ((pcL_mem (fun a b => (Mq a).toNat.testBit b) n m (a, b)).1 (by rw [HP.out, hdr]; simp)).2.2
        simp only at ha hb
        have hga := HG.out a (by omega)
        obtain ⟨hc1, hc2, _⟩ := clr_bits (Mq a) b hga (by omega) hbit
        have HPN := Lib.hid (clr_cells Mq n m a b hm (by omega) hga hbit (L.drop (q + 1)) (by rw [HP.out, hdr]))
        have HGN := Lib.hid (fun j (hj : j < 6) => show 0 ≤ clrM Mq a b j ∧ clrM Mq a b j < 64 by
          unfold clrM
          split
          · exact hc2
          · exact HG.out j hj)
        have hstep : cqN D (k + 1) (L.drop q) = cqN D k ((L.drop (q + 1)).filter (freeB D (a, b))) + cqN D (k + 1) (L.drop (q + 1)) := by rw [hdr, cqN_cons]
        have hrec : cqN D k (pcL (fun i j => (leftM D n m (clrM Mq a b) a b i).toNat.testBit j) n m) = cqN D k ((L.drop (q + 1)).filter (freeB D (a, b))) := by rw [left_cells, HPN.out]
        have hxb : x ≤ 68719476736 := by
          have h1 := HX.out
          have h2 := HBND.out (k + 1) L hL36
          omega
        have hyb := HBND.out k ((L.drop (q + 1)).filter (freeB D (a, b))) (Nat.le_trans (List.length_filter_le _ _) (by rw [List.length_drop]; omega))
        have HREC := Lib.hid (fun W => HIH.out (leftM D n m (clrM Mq a b) a b) W (fun j _ => leftM_bd D n m (clrM Mq a b) a b j hm))
        rw [hrec] at HREC
        obtain ⟨y, hy⟩ : ∃ y, y = cqN D k ((L.drop (q + 1)).filter (freeB D (a, b))) := ⟨_, rfl⟩
        rw [← hy] at HREC hyb hstep
        have HXN := Lib.hid (show (x + y) + cqN D (k + 1) (L.drop (q + 1)) = cqN D (k + 1) L by have := HX.out; omega)
        have hxy : wrap64 ((x : Int) + y) = ((x + y : Nat) : Int) := by rw [show ((x + y : Nat) : Int) = (x : Int) + y by push_cast; rfl]; exact IntWalk.wrap64_in _ (by omega)
        have hcq : (L.map two)[q]'(by rw [List.length_map]; exact hlt) = [(a : Int), (b : Int)] := by rw [List.getElem_map, ← hab]; rfl
        obtain ⟨gv1, cv, gx, cx, hv, hvx⟩ := two_form HL.out.ownM q (by rw [List.length_map]; exact hlt) a b hcq
        rw [List.length_map] at hv
        injection hv with hv1 hv2 hv3
        subst hv1
        subst hv3
        have HXX := Lib.hid (fun (W : World) (h : OwnM W 0 (.slice (some ⟨gv1, 0, none⟩) L.length pv) vs (L.map two)) => two_at (by rw [List.length_map]; exact h) (by rw [List.length_map]; exact hlt) hcq hvx)
        obtain ⟨x0, x1, x2⟩ := HXX.out _ HL.out.ownM
        clear hab hdr hbit hrec hy hstep hcq hvx hc2
        go_wp2_with fail
        go_region
        replace HL := Lib.hid HL.out.drew
        clear x0 x1 x2 HXX
        go_upto_region 1 with fail
        generalize wo.drew = w6 at *
        have hce := HL.out.tl.ownHas.cell (2 + a)
        rw [gl_get _ _ _ a (by omega)] at hce
        have hfe := HL.out.tl.ownHas.free (2 + a)
        have ha0 : (0 : Int) ≤ a := by omega
        have ha6 : (a : Int) < 6 := by omega
        have hb0 : (0 : Int) ≤ b := by omega
        have hb64 : (b : Int) < 64 := by omega
        have hST := Law.setHas (ts := [_]) HL.out (2 + a) (.int .i64 (Mq a - 2 ^ b))
        rw [gl_set n m Mq (clrM Mq a b) a (by omega) (Mq a - 2 ^ b) (by unfold clrM; rw [if_pos rfl]) (fun j hj => by unfold clrM; rw [if_neg hj])] at hST
        have HST := Lib.hid hST.drew
        have HUNA := Lib.hid (fun W => HUN.out (clrM Mq a b) a b W (by omega) (by omega) HGN.out)
        generalize clrM Mq a b = MN at *
        generalize leftM D n m MN a b = LM at *
        generalize Mq a - 2 ^ b = z at *
        generalize Mq a = za at *
        clear hST HL hga
        go_wp2_with fail
        go_region
        generalize (w6.setCell _ _).drew = w7 at *
        clear hce hfe hc1
        obtain ⟨e0, e1, e2, e3, e4, e5, e6, e7, _⟩ := HST.out.tl.ownHas.eight
        go_wp2_with fail
        refine (HUNA.out _).mono ?_
        rintro e w8 ⟨rfl, hb8⟩
        have HL8 := Lib.hid (HST.out.kept hb8)
        clear hb8 HST HUNA e0 e1 e2 e3 e4 e5 e6 e7
        go_wp2_with fail
        refine (HREC.out _).mono ?_
        rintro e w9 ⟨rfl, hb9⟩
        have HL9 := Lib.hid (HL8.out.kept hb9)
        clear hb9 HL8 HREC
        go_wp2_with fail
        go_roundw
        case rel => exact ⟨q + 1, x + y, MN, by omega, by go_num, by go_num, HXN, HPN, HGN, HL9⟩
        case measure => simp [intOf]; omega
      · obtain rfl : q = L.length := by omega
        have hx : x = cqN D (k + 1) L := by
          have := HX.out
          rw [List.drop_length, cqN_nil] at this
          omega
        subst hx
        go_wp2_with fail
        go_ret
        exact ⟨rfl, HL.out.below⟩

end Go.Proofs.Ytakdiiccdkjjcab
