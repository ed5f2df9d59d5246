/- All lengths of n numbers, in the program. No condition but the sizes. -/
import Derived.Test.YthkghbnmdebhpabGd
namespace Go.Proofs.Ythkghbnmdebhpab
open Go.RowKit Go.WideShapes

/-- .. the part before m. -/
def extU (Q : List Int) (m : Nat) : List (List Int) := (List.range m).flatMap fun (q : Nat) => if lastD 0 Q ≤ (q : Int) then [Q ++ [(q : Int)]] else []
theorem extU_first (l : Nat) (Q : List Int) (h : lastD 0 Q = l) : extU Q l = [] := by
  unfold extU
  rw [List.flatMap_eq_nil_iff]
  intro q hq
  rw [List.mem_range] at hq
  rw [if_neg (by omega)]
theorem extU_succ (m : Nat) (Q : List Int) (h : lastD 0 Q ≤ m) : extU Q (m + 1) = extU Q m ++ [Q ++ [(m : Int)]] := by
  unfold extU
  rw [List.range_succ, List.flatMap_append]
  congr 1
  simp [h]
theorem extU_last (n : Nat) (Q : List Int) : extU Q (n + 1) = extL n 0 Q := rfl
theorem extU_len (m : Nat) (Q : List Int) : (extU Q m).length ≤ m := by
  unfold extU
  induction m with
  | zero => simp
  | succ m ih =>
    rw [List.range_succ, List.flatMap_append, List.length_append]
    have : ([m].flatMap fun (q : Nat) => if lastD 0 Q ≤ (q : Int) then [Q ++ [(q : Int)]] else []).length ≤ 1 := by
      simp only [List.flatMap_cons, List.flatMap_nil, List.append_nil]
      split <;> simp
    omega
theorem fm_take (L : List (List Int)) (f : List Int → List (List Int)) (k : Nat) (hk : k < L.length) : (L.take (k + 1)).flatMap f = (L.take k).flatMap f ++ f L[k] := by
  rw [List.take_succ_eq_append_getElem hk, List.flatMap_append]
  simp
theorem fm_len (L : List (List Int)) (n : Nat) : (L.flatMap (extL n 0)).length ≤ L.length * (n + 1) := by
  induction L with
  | nil => simp
  | cons a t ih =>
    rw [List.flatMap_cons, List.length_append, List.length_cons, Nat.succ_mul]
    have := extU_len (n + 1) a
    rw [extU_last] at this
    omega
theorem ownS_lo {w0 w : World} {v : Value} {n : Nat} {LL : List (List Int)} {ts : List Thing} (h : Law w0 (tS v n LL :: ts) w) : OwnS w w0.heap.size v n LL := by
  have hO := h.ownS
  have hr := h.range _ (List.mem_cons_self ..)
  refine ⟨hO.1, ?_⟩
  rcases hO.2 with h1 | ⟨g, cap, cur, e, hb, r⟩
  · exact .inl h1
  · exact .inr ⟨g, cap, cur, e, (hr g (show v.ownBlock = some g by rw [e]; rfl)).1, r⟩

set_option maxRecDepth 100000 in
set_option maxHeartbeats 3200000 in
theorem allLengths_any (n : Nat) (w : World) (h1 : 1 ≤ n) (h6 : n ≤ 6) :
    Calls Try.prog 84 #[.int .i64 n] w fun e w' => ∃ v, e = .returned v ∧ OwnS w' w.heap.size v n (goOn n n 0) ∧ Below w.heap.size w w' := by
  have HLEN := Lib.hid (fun d (h : d ≤ 6) => Nat.le_trans (goOn_len n d 0) (pow_n1 n d h6 h))
  have HBD := Lib.hid (fun d => goOn_bd n d 0)
  have HEX := Lib.hid (fun d => goOn_ext n d 0)
  have h0 : OwnS (w.alloc (.cells #[.int .i64 n, .int .i64 0, .int .i64 0, .int .i64 0, .int .i64 0, .int .i64 0, .int .i64 0] 64)) w.heap.size (.slice (some ⟨w.heap.size, 0, none⟩) 1 1) n [[]] :=
    World.ownsRow_lit w #[.int .i64 n, .int .i64 0, .int .i64 0, .int .i64 0, .int .i64 0, .int .i64 0, .int .i64 0] 1 (Nat.le_refl _) (by unfold maxLen; omega) rfl
  have HL0 := Lib.hid ((Law.start w).addS (below_new _) h0)
  clear h0
  go_enter Try.func84, Try.ntmps84
  go_wp2_with fail
  go_loopw [3, 13] (fun v i wr => ∃ k : Nat, k ≤ n ∧ i = .int .i64 k ∧ Law w [tS v n (goOn n k 0)] wr) (fun _ i _ => n - (intOf i).toNat)
  case atStart => exact ⟨0, Nat.zero_le _, rfl, HL0.out⟩
  case round =>
    clear HL0
    obtain ⟨k, hk, rfl, L⟩ := hrel
    by_cases hlt : k < n
    · obtain ⟨va, vp, rfl⟩ := L.ownS.form
      have hex := HEX.out k
      have hlen := HLEN.out k (by omega)
      have hbd := HBD.out k
      generalize goOn n k 0 = LL at *
      have HX := Lib.hid hex
      have HB := Lib.hid hbd
      have HLL := Lib.hid hlen
      have HL := Lib.hid (L.addS (Below.refl _ _) (OwnS.nil _ _ n))
      clear L hex hbd hlen
      go_wp2_with fail
      go_loopw [5, 18] (fun f i wr => ∃ q : Nat, q ≤ LL.length ∧ i = .int .i64 q ∧ Law w [tS f n ((LL.take q).flatMap (extL n 0)), tS (.slice va LL.length vp) n LL] wr) (fun _ i _ => LL.length - (intOf i).toNat)
      case atStart => exact ⟨0, Nat.zero_le _, rfl, by simpa using HL.out⟩
      case round =>
        clear HL
        obtain ⟨q, hq, rfl, L⟩ := hrel
        by_cases hql : q < LL.length
        · obtain ⟨g, rfl, hc⟩ := L.tl.ownS.seven q hql
          obtain ⟨hQl, hQb⟩ := HB.out LL[q] (List.getElem_mem hql)
          have c0 := hc 0 _ rfl
          rw [Nat.add_zero] at c0
          have c1 := hc 1 _ rfl
          have c2 := hc 2 _ rfl
          have c3 := hc 3 _ rfl
          have c4 := hc 4 _ rfl
          have c5 := hc 5 _ rfl
          have c6 := hc 6 _ rfl
          have hft := fm_take LL (extL n 0) q hql
          generalize LL[q] = Q at *
          have hkI : (q : Int) < LL.length := by omega
          have HQB := Lib.hid hQb
          have HFT := Lib.hid hft
          have L2 := L.has (sl n (fl Q)) 64
          rw [show wr.alloc (.cells (sl n (fl Q)).toArray 64) = wr.alloc (.cells #[.int .i64 n, .int .i64 (fl Q 0), .int .i64 (fl Q 1), .int .i64 (fl Q 2), .int .i64 (fl Q 3), .int .i64 (fl Q 4), .int .i64 (fl Q 5)] 64) from rfl] at L2
          have HL2 := Lib.hid L2
          clear L L2 hc hft hQb
          generalize hFQ : fl Q = F at *
          have HF := Lib.hid hFQ.symm
          clear hFQ
          go_upto_region 9 with fail
          clear c0 c1 c2 c3 c4 c5 c6
          obtain ⟨b, hb⟩ : ∃ b, b = wr.heap.size := ⟨_, rfl⟩
          rw [← hb] at HL2 ⊢
          generalize wr.alloc _ = w5 at *
          clear hb
          obtain ⟨l, hl⟩ : ∃ l : Nat, lastD 0 Q = l := by
            have : 0 ≤ lastD 0 Q := by
              unfold lastD
              split
              · exact Int.le_refl _
              · exact (HQB.out _ (by have : Q ≠ [] := by assumption
                                     have hp := List.length_pos_iff.2 this
                                     simp [List.getD, show Q.length - 1 < Q.length by omega])).1
            exact ⟨(lastD 0 Q).toNat, by omega⟩
          have hln : l ≤ n := by
            have h := hl
            unfold lastD at h
            split at h
            · omega
            · rename_i hne
              have hp := List.length_pos_iff.2 hne
              have := (HQB.out (Q.getD (Q.length - 1) 0) (by simp [List.getD, show Q.length - 1 < Q.length by omega])).2
              omega
          have hcell : w5.cell? ⟨b, 1 + (k - 1), none⟩ = some (.int .i64 l) := by
            have h := HL2.out.ownHas.cell (1 + (k - 1))
            rw [sl_get _ _ (k - 1) (by omega)] at h
            rw [h, HF.out, ← hl]
            unfold lastD
            by_cases hQ0 : Q = []
            · rw [if_pos hQ0, hQ0]; simp [fl]
            · rw [if_neg hQ0, ← hQl]
          have hk6 : k < 6 := by omega
          have hcl := fm_len (LL.take q) n
          have HCL := Lib.hid (show ((LL.take q).flatMap (extL n 0)).length ≤ 900000 by
            have h1 : (LL.take q).length ≤ 117649 := by rw [List.length_take]; have := HLL.out; omega
            have h2 : (LL.take q).length * (n + 1) ≤ 117649 * 7 := Nat.mul_le_mul h1 (by omega)
            omega)
          clear hcl
          obtain ⟨C, hC⟩ : ∃ C, C = (LL.take q).flatMap (extL n 0) := ⟨_, rfl⟩
          rw [← hC] at HL2 HFT HCL
          clear hC
          by_cases hk0 : k = 0
          · subst hk0
            simp only [show ((0 : Nat) : Int) = 0 from rfl]
            go_upto_region 10 with fail
            clear hcell
            go_wp2_with fail
            go_loopw [5, 8] (fun f i wr => ∃ (m : Nat) (G : Nat → Int), l ≤ m ∧ m ≤ n + 1 ∧ i = .int .i64 m ∧ Hid (∀ j, j ≠ 0 → G j = fl Q j) ∧ Law w [tHas b (sl n G) 64, tS f n (C ++ extU Q m), tS (.slice (some ⟨g, 0, none⟩) LL.length vp) n LL] wr) (fun _ i _ => ((n : Int) + 1 - intOf i).toNat)
            case atStart => exact ⟨l, F, Nat.le_refl _, by omega, rfl, (fun j _ => by rw [HF.out] : ∀ j, j ≠ 0 → F j = fl Q j), by rw [extU_first l Q hl, List.append_nil]; exact HL2.out⟩
            case round =>
              clear HL2
              obtain ⟨m, G, hlm, hm, rfl, HG, L⟩ := hrel
              obtain ⟨wo, rfl⟩ : ∃ wo : World, wo = wr := ⟨_, rfl⟩
              by_cases hmn : m ≤ n
              · have hmI : (m : Int) ≤ n := by omega
                have hcz := L.ownHas.cell (1 + 0)
                rw [sl_get _ _ 0 (by omega)] at hcz
                have hfz := L.ownHas.free (1 + 0)
                have hS := Law.setHas (ts := []) L (1 + 0) (.int .i64 (m : Int))
                rw [sl_set n G (fl (Q ++ [(m : Int)])) 0 (by omega) (m : Int) (by simp [fl, List.getD, ← hQl]) (fun j hj => by
                  rw [HG.out j hj]
                  simp only [fl, List.getD]
                  by_cases h : j < Q.length
                  · rw [List.getElem?_append_left h]
                  · rw [List.getElem?_append_right (by omega), List.getElem?_eq_none (by simp; omega), List.getElem?_eq_none (by omega)])] at hS
                have hex := extU_succ m Q (by omega)
                have hel := extU_len m Q
                have HE := Lib.hid (show C ++ extU Q (m + 1) = (C ++ extU Q m) ++ [Q ++ [(m : Int)]] by rw [hex, List.append_assoc])
                have HLE := Lib.hid (show (C ++ extU Q m).length + 1 ≤ 1048576 by rw [List.length_append]; have := HCL.out; omega)
                have HNE := Lib.hid (show ∀ j, j ≠ 0 → fl (Q ++ [(m : Int)]) j = fl Q j from fun j hj => by
                  simp only [fl, List.getD]
                  by_cases h : j < Q.length
                  · rw [List.getElem?_append_left h]
                  · rw [List.getElem?_append_right (by omega), List.getElem?_eq_none (by simp; omega), List.getElem?_eq_none (by omega)])
                have HS := Lib.hid hS
                generalize G 0 = z at *
                clear L hS HG hex hel
                go_upto_region 13 with fail
                generalize wo.setCell _ _ = w6 at *
                clear hcz hfz
                obtain ⟨c0, c1, c2, c3, c4, c5, c6, _⟩ := HS.out.ownHas.seven
                have L5 := HS.out.swap.kept (below_new (.cells #[.int .i64 n, .int .i64 (fl (Q ++ [(m : Int)]) 0), .int .i64 (fl (Q ++ [(m : Int)]) 1), .int .i64 (fl (Q ++ [(m : Int)]) 2), .int .i64 (fl (Q ++ [(m : Int)]) 3), .int .i64 (fl (Q ++ [(m : Int)]) 4), .int .i64 (fl (Q ++ [(m : Int)]) 5)] 64))
                have HL5 := Lib.hid L5
                have HNW := Lib.hid (Has.new w6 (sl n (fl (Q ++ [(m : Int)]))) 64)
                rw [show w6.alloc (.cells (sl n (fl (Q ++ [(m : Int)]))).toArray 64) = w6.alloc (.cells #[.int .i64 n, .int .i64 (fl (Q ++ [(m : Int)]) 0), .int .i64 (fl (Q ++ [(m : Int)]) 1), .int .i64 (fl (Q ++ [(m : Int)]) 2), .int .i64 (fl (Q ++ [(m : Int)]) 3), .int .i64 (fl (Q ++ [(m : Int)]) 4), .int .i64 (fl (Q ++ [(m : Int)]) 5)] 64) from rfl] at HNW
                clear L5 HS
                generalize hG2 : fl (Q ++ [(m : Int)]) = G2 at *
                have HG2 := Lib.hid hG2.symm
                clear hG2
                go_wp2_with (at_builtin; refine wp_appendS rfl _ _ rfl (Q ++ [(m : Int)]) HL5.out w6.heap.size rfl rfl (by rw [← HG2.out]; exact HNW.out) HLE.out ?_)
                intro v' w7 L7
                have HL7 := Lib.hid L7.swap
                clear L7 HL5 HNW c0 c1 c2 c3 c4 c5 c6
                go_wp2_with fail
                go_roundw
                case rel => exact ⟨m + 1, G2, by omega, by omega, by go_num, HNE.out, by first | (rw [HE.out]; exact HL7.out) | (rw [HE.out, List.append_assoc]; exact HL7.out)⟩
                case measure => simp [intOf]; omega
              · obtain rfl : m = n + 1 := by omega
                rw [extU_last n Q] at L
                have HL3 := Lib.hid L.tl
                have hmI : ¬ ((n + 1 : Nat) : Int) ≤ n := by omega
                have hLLb := HLL.out
                clear L hmn HG
                go_wp2_with fail
                go_roundw
                case rel => first | exact ⟨q + 1, by omega, by go_num, by rw [HFT.out]; exact HL3.out⟩ | (refine ⟨_, _, _, _, ?_, rfl, rfl, rfl, rfl⟩; exact ⟨q + 1, by omega, by go_num, by rw [HFT.out]; exact HL3.out⟩)
                case measure => simp [intOf]; omega
          · have hk1 : (0 : Int) ≤ (k : Int) - 1 := by omega
            have hk2 : ((k : Int) - 1).toNat = k - 1 := by omega
            have hk3 : (k : Int) - 1 < 6 := by omega
            have hk4 : IntKind.i64.wrap ((k : Int) - 1) = (k : Int) - 1 := IntWalk.i64_in _ (by omega)
            have hk5 : max ((k : Int) - 1) 0 = (k : Int) - 1 := by omega
            have hk7 : ¬ (k : Int) - 1 < 0 := by omega
            go_upto_region 10 with fail
            clear hcell hk1 hk2 hk3 hk4 hk5 hk7
            go_wp2_with fail
            go_loopw [5, 8] (fun f i wr => ∃ (m : Nat) (G : Nat → Int), l ≤ m ∧ m ≤ n + 1 ∧ i = .int .i64 m ∧ Hid (∀ j, j ≠ k → G j = fl Q j) ∧ Law w [tHas b (sl n G) 64, tS f n (C ++ extU Q m), tS (.slice (some ⟨g, 0, none⟩) LL.length vp) n LL] wr) (fun _ i _ => ((n : Int) + 1 - intOf i).toNat)
            case atStart => exact ⟨l, F, Nat.le_refl _, by omega, rfl, (fun j _ => by rw [HF.out] : ∀ j, j ≠ k → F j = fl Q j), by rw [extU_first l Q hl, List.append_nil]; exact HL2.out⟩
            case round =>
              clear HL2
              obtain ⟨m, G, hlm, hm, rfl, HG, L⟩ := hrel
              obtain ⟨wo, rfl⟩ : ∃ wo : World, wo = wr := ⟨_, rfl⟩
              by_cases hmn : m ≤ n
              · have hmI : (m : Int) ≤ n := by omega
                have hcz := L.ownHas.cell (1 + k)
                rw [sl_get _ _ k (by omega)] at hcz
                have hfz := L.ownHas.free (1 + k)
                have hS := Law.setHas (ts := []) L (1 + k) (.int .i64 (m : Int))
                rw [sl_set n G (fl (Q ++ [(m : Int)])) k (by omega) (m : Int) (by simp [fl, List.getD, ← hQl]) (fun j hj => by
                  rw [HG.out j hj]
                  simp only [fl, List.getD]
                  by_cases h : j < Q.length
                  · rw [List.getElem?_append_left h]
                  · rw [List.getElem?_append_right (by omega), List.getElem?_eq_none (by simp; omega), List.getElem?_eq_none (by omega)])] at hS
                have hex := extU_succ m Q (by omega)
                have hel := extU_len m Q
                have HE := Lib.hid (show C ++ extU Q (m + 1) = (C ++ extU Q m) ++ [Q ++ [(m : Int)]] by rw [hex, List.append_assoc])
                have HLE := Lib.hid (show (C ++ extU Q m).length + 1 ≤ 1048576 by rw [List.length_append]; have := HCL.out; omega)
                have HNE := Lib.hid (show ∀ j, j ≠ k → fl (Q ++ [(m : Int)]) j = fl Q j from fun j hj => by
                  simp only [fl, List.getD]
                  by_cases h : j < Q.length
                  · rw [List.getElem?_append_left h]
                  · rw [List.getElem?_append_right (by omega), List.getElem?_eq_none (by simp; omega), List.getElem?_eq_none (by omega)])
                have HS := Lib.hid hS
                generalize G k = z at *
                clear L hS HG hex hel
                go_upto_region 13 with fail
                generalize wo.setCell _ _ = w6 at *
                clear hcz hfz
                obtain ⟨c0, c1, c2, c3, c4, c5, c6, _⟩ := HS.out.ownHas.seven
                have L5 := HS.out.swap.kept (below_new (.cells #[.int .i64 n, .int .i64 (fl (Q ++ [(m : Int)]) 0), .int .i64 (fl (Q ++ [(m : Int)]) 1), .int .i64 (fl (Q ++ [(m : Int)]) 2), .int .i64 (fl (Q ++ [(m : Int)]) 3), .int .i64 (fl (Q ++ [(m : Int)]) 4), .int .i64 (fl (Q ++ [(m : Int)]) 5)] 64))
                have HL5 := Lib.hid L5
                have HNW := Lib.hid (Has.new w6 (sl n (fl (Q ++ [(m : Int)]))) 64)
                rw [show w6.alloc (.cells (sl n (fl (Q ++ [(m : Int)]))).toArray 64) = w6.alloc (.cells #[.int .i64 n, .int .i64 (fl (Q ++ [(m : Int)]) 0), .int .i64 (fl (Q ++ [(m : Int)]) 1), .int .i64 (fl (Q ++ [(m : Int)]) 2), .int .i64 (fl (Q ++ [(m : Int)]) 3), .int .i64 (fl (Q ++ [(m : Int)]) 4), .int .i64 (fl (Q ++ [(m : Int)]) 5)] 64) from rfl] at HNW
                clear L5 HS
                generalize hG2 : fl (Q ++ [(m : Int)]) = G2 at *
                have HG2 := Lib.hid hG2.symm
                clear hG2
                go_wp2_with (at_builtin; refine wp_appendS rfl _ _ rfl (Q ++ [(m : Int)]) HL5.out w6.heap.size rfl rfl (by rw [← HG2.out]; exact HNW.out) HLE.out ?_)
                intro v' w7 L7
                have HL7 := Lib.hid L7.swap
                clear L7 HL5 HNW c0 c1 c2 c3 c4 c5 c6
                go_wp2_with fail
                go_roundw
                case rel => exact ⟨m + 1, G2, by omega, by omega, by go_num, HNE.out, by first | (rw [HE.out]; exact HL7.out) | (rw [HE.out, List.append_assoc]; exact HL7.out)⟩
                case measure => simp [intOf]; omega
              · obtain rfl : m = n + 1 := by omega
                rw [extU_last n Q] at L
                have HL3 := Lib.hid L.tl
                have hmI : ¬ ((n + 1 : Nat) : Int) ≤ n := by omega
                have hLLb := HLL.out
                clear L hmn HG
                go_wp2_with fail
                go_roundw
                case rel => first | exact ⟨q + 1, by omega, by go_num, by rw [HFT.out]; exact HL3.out⟩ | (refine ⟨_, _, _, _, ?_, rfl, rfl, rfl, rfl⟩; exact ⟨q + 1, by omega, by go_num, by rw [HFT.out]; exact HL3.out⟩)
                case measure => simp [intOf]; omega
        · obtain rfl : q = LL.length := by omega
          rw [List.take_length, ← HX.out] at L
          have HL2 := Lib.hid (L.sub (List.Sublist.cons_cons _ (List.nil_sublist _)))
          have hLLb := HLL.out
          clear L hql
          go_wp2_with fail
          go_roundw
          case rel => exact ⟨k + 1, by omega, by go_num, HL2.out⟩
          case measure => simp [intOf]; omega
    · obtain rfl : k = n := by omega
      have HL := Lib.hid L
      clear L hlt
      go_wp2_with fail
      go_ret
      exact ⟨_, rfl, ownS_lo HL.out, HL.out.below⟩

end Go.Proofs.Ythkghbnmdebhpab
