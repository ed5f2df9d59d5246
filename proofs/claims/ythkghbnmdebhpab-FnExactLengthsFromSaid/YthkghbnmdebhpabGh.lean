/- All lengths by their factors, in the program. No condition but the sizes. -/
import Derived.Test.YthkghbnmdebhpabGg
import Derived.Test.YthkghbnmdebhpabFt
import Derived.Carry
namespace Go.Proofs.Ythkghbnmdebhpab
open Go.RowKit Go.WideShapes Go.ChangeMaps

theorem facs_small {n : Nat} (hn : n ≤ 6) {Q : List Int} (hl : Q.length = n) (hb : ∀ x ∈ Q, 0 ≤ x ∧ x ≤ n) : (∀ k, -1000 ≤ Q.getD k 0 ∧ Q.getD k 0 ≤ 1000) ∧ ∀ k, -1000 ≤ (facs Q).getD k 0 ∧ (facs Q).getD k 0 ≤ 1000 := by
  have h1 : ∀ k, 0 ≤ Q.getD k 0 ∧ Q.getD k 0 ≤ n := fun k => by
    by_cases hk : k < Q.length
    · have := hb (Q.getD k 0) (by simp [List.getD, hk])
      exact this
    · rw [List.getD_eq_getElem?_getD, List.getElem?_eq_none (by omega)]
      simp
  refine ⟨fun k => by have := h1 k; omega, sortL_bd (-1000) 1000 (by decide) _ (fun k => ?_)⟩
  by_cases hk : k < Q.length
  · rw [facU_get Q k hk]
    have := h1 k
    omega
  · rw [List.getD_eq_getElem?_getD, List.getElem?_eq_none (by rw [facU_len]; omega)]
    simp
theorem Law.newMap {w0 w : World} {ts : List Thing} (h : Law w0 ts w) (n : Nat) : Law w0 (tGr w.heap.size n [] ++ ts) (w.alloc (.map #[] 0)) :=
  h.add (below_new _) (tMap w.heap.size []) ⟨#[], 0, heap_alloc_new w _, MapKept.stamped_empty 0, rfl⟩ (fun k hk => by
    have hk : k = w.heap.size := hk
    subst hk
    simp)
theorem Law.rot {w0 w : World} {t : Thing} {A B : List Thing} (h : Law w0 (t :: (A ++ B)) w) : Law w0 (A ++ t :: B) w := h.perm List.perm_middle.symm
theorem Law.toFront {w0 w : World} {t : Thing} {A B : List Thing} (h : Law w0 (A ++ t :: B) w) : Law w0 (t :: (A ++ B)) w := h.perm List.perm_middle

set_option maxRecDepth 100000 in
set_option maxHeartbeats 3200000 in
theorem classesOf_any (n : Nat) (w : World) (h1 : 1 ≤ n) (h6 : n ≤ 6) :
    Calls Try.prog 60 #[.int .i64 n] w fun e w' => ∃ b gs, e = .returned (.map (some b)) ∧ Good n (goOn n n 0) gs ∧ Law w (tGr b n gs ++ []) w' := by
  have HLEN := Lib.hid (Nat.le_trans (goOn_len n n 0) (pow_n1 n n h6 h6))
  have HBD := Lib.hid (goOn_bd n n 0)
  have HAL := Lib.hid (fun W => allLengths_any n W h1 h6)
  have HFA := Lib.hid (fun (Q : List Int) W (hl : Q.length = n) (hb : ∀ k, -1000 ≤ Q.getD k 0 ∧ Q.getD k 0 ≤ 1000) => hl ▸ factors_any Q W (by omega) (by omega) hb)
  generalize goOn n n 0 = LL at *
  have HL0 := Lib.hid ((Law.start w).newMap n)
  have hmm := @run_makeMap Try.prog
  go_enter Try.func60, Try.ntmps60
  go_wp2_with fail
  clear hmm
  refine (HAL.out _).mono ?_
  rintro e w2 ⟨v, rfl, hO, hb⟩
  have HL := Lib.hid (HL0.out.addS hb hO).rot
  clear hb hO HL0
  obtain ⟨va, vp, rfl⟩ := HL.out.toFront.ownS.form
  obtain ⟨b, hbb⟩ : ∃ b, b = w.heap.size := ⟨_, rfl⟩
  rw [← hbb] at HL ⊢
  have HW := Lib.hid hbb
  clear hbb
  go_wp2_with fail
  go_loopw [11] (fun i wr => ∃ (q : Nat) (gs : List Cls), q ≤ LL.length ∧ i = .int .i64 q ∧ Hid (Good n (LL.take q) gs) ∧ Law w (tGr b n gs ++ [tS (.slice va LL.length vp) n LL]) wr) (fun i _ => LL.length - (intOf i).toNat)
  case atStart => exact ⟨0, [], Nat.zero_le _, rfl, Good.nil n, HL.out⟩
  case round =>
    clear HL
    obtain ⟨q, gs, hq, rfl, HG, L⟩ := hrel
    by_cases hlt : q < LL.length
    · obtain ⟨g, rfl, hc⟩ := L.toFront.ownS.seven q hlt
      obtain ⟨hQl, hQb⟩ := HBD.out LL[q] (List.getElem_mem hlt)
      obtain ⟨hs1, hs2⟩ := facs_small h6 hQl hQb
      have c0 := hc 0 _ rfl
      rw [Nat.add_zero] at c0
      have c1 := hc 1 _ rfl
      have c2 := hc 2 _ rfl
      have c3 := hc 3 _ rfl
      have c4 := hc 4 _ rfl
      have c5 := hc 5 _ rfl
      have c6 := hc 6 _ rfl
      have htk : LL.take (q + 1) = LL.take q ++ [LL[q]] := List.take_succ_eq_append_getElem hlt
      generalize LL[q] = Q at *
      have hkI : (q : Int) < LL.length := by omega
      have HTK := Lib.hid htk
      have HQL := Lib.hid hQl
      have HS2 := Lib.hid hs2
      have HF := Lib.hid (fun W => HFA.out Q W hQl hs1)
      have L2 := L.has (sl n (fl Q)) 64
      rw [show wr.alloc (.cells (sl n (fl Q)).toArray 64) = wr.alloc (.cells #[.int .i64 n, .int .i64 (fl Q 0), .int .i64 (fl Q 1), .int .i64 (fl Q 2), .int .i64 (fl Q 3), .int .i64 (fl Q 4), .int .i64 (fl Q 5)] 64) from rfl] at L2
      have HL2 := Lib.hid L2
      clear L L2 hc htk hQb hQl hs1 hs2
      generalize hFQ : fl Q = F at *
      have HFQ := Lib.hid hFQ.symm
      clear hFQ
      go_upto_region 5 with fail
      clear c0 c1 c2 c3 c4 c5 c6
      obtain ⟨t5, ht5⟩ : ∃ t5, t5 = wr.heap.size := ⟨_, rfl⟩
      rw [← ht5] at HL2 ⊢
      generalize wr.alloc _ = w5 at *
      clear ht5
      obtain ⟨c0, c1, c2, c3, c4, c5, c6, _⟩ := HL2.out.ownHas.seven
      go_wp2_with fail
      refine (HF.out _).mono ?_
      rintro e w6 ⟨rfl, hb6⟩
      have L7 := (HL2.out.kept hb6).has (sl n (fl (facs Q))) 64
      rw [show w6.alloc (.cells (sl n (fl (facs Q))).toArray 64) = w6.alloc (.cells #[.int .i64 n, .int .i64 (fl (facs Q) 0), .int .i64 (fl (facs Q) 1), .int .i64 (fl (facs Q) 2), .int .i64 (fl (facs Q) 3), .int .i64 (fl (facs Q) 4), .int .i64 (fl (facs Q) 5)] 64) from rfl] at L7
      have HL7 := Lib.hid L7
      clear L7 hb6 c0 c1 c2 c3 c4 c5 c6 HL2
      generalize hFF : fl (facs Q) = F2 at *
      have HFF := Lib.hid hFF.symm
      clear hFF
      go_upto_region 6 with fail
      obtain ⟨t6, ht6⟩ : ∃ t6, t6 = w6.heap.size := ⟨_, rfl⟩
      rw [← ht6] at HL7 ⊢
      generalize w6.alloc _ = w7 at *
      clear ht6
      obtain ⟨f0, f1, f2, f3, f4, f5, f6, _⟩ := HL7.out.ownHas.seven
      obtain ⟨c0, c1, c2, c3, c4, c5, c6, _⟩ := HL7.out.tl.ownHas.seven
      have L8 := HL7.out.has (sl n F) 64
      rw [show w7.alloc (.cells (sl n F).toArray 64) = w7.alloc (.cells #[.int .i64 n, .int .i64 (F 0), .int .i64 (F 1), .int .i64 (F 2), .int .i64 (F 3), .int .i64 (F 4), .int .i64 (F 5)] 64) from rfl] at L8
      have L9 := L8.perm (ts' := tGr b n gs ++ [tHas w7.heap.size (sl n F) 64, tHas t6 (sl n F2) 64, tHas t5 (sl n F) 64, tS (.slice (some ⟨g, 0, none⟩) LL.length vp) n LL]) (by
        show ([_, _, _] ++ (tGr b n gs ++ [_])).Perm (tGr b n gs ++ ([_, _, _] ++ [_]))
        rw [← List.append_assoc, ← List.append_assoc]
        exact List.Perm.append_right _ List.perm_append_comm)
      obtain ⟨v0, st, w9, es1, clock1, R, r1, L10, HST⟩ := L9.entryG Try.underlying71 h6 HG.out (by rw [List.length_take]; have := HLEN.out; omega) Q HQL.out HS2.out
      rw [show sv n (fl (facs Q)) = sv n F2 by rw [HFF.out]] at r1
      have HL10 := Lib.hid L10
      have HLB := Lib.hid (show (byF (LL.take q) (facs Q)).length + 1 ≤ 1048576 by
        have h1 := List.length_filter_le (fun P => decide (facs P = facs Q)) (LL.take q)
        have h2 : (LL.take q).length ≤ 117649 := by rw [List.length_take]; have := HLEN.out; omega
        simp only [byF]
        omega)
      clear L8 L9 L10 HL7
      have HNW := Lib.hid (show Has w9 w7.heap.size (sl n (fl Q)) 64 by
        rw [← HFQ.out]
        exact HL10.out.holds (tHas w7.heap.size (sl n F) 64) (by simp))
      go_wp2_with (at_builtin; refine wp_appendS rfl _ _ rfl Q HL10.out w7.heap.size rfl rfl HNW.out HLB.out ?_)
      intro v' w10 L11
      obtain ⟨w11, gs', s1, HG', L12⟩ := HST.out v' w10 L11
      replace s1 : (Instr.entryStore 71 (.map (some b)) (.int .i64 ((st : Nat) : Int)) v').run Try.prog w10 = .ok () w11 := s1
      have HG2 := Lib.hid (show Good n (LL.take (q + 1)) gs' by rw [HTK.out]; exact HG')
      have HL12 := Lib.hid (show Law w (tGr b n gs' ++ [tS (.slice (some ⟨g, 0, none⟩) LL.length vp) n LL]) w11 from
        (Law.subG (A := tGr b n gs') (Law.subG (A := tGr b n gs') (Law.subG (A := tGr b n gs') L12))))
      clear HG' L12 L11 HST HL10 HNW r1 c0 c1 c2 c3 c4 c5 c6 f0 f1 f2 f3 f4 f5 f6 HG
      have hLLb := HLEN.out
      go_wp2_with fail
      go_roundw
      case rel => exact ⟨q + 1, gs', by omega, by go_num, HG2.out, HL12.out⟩
      case measure => simp [intOf]; omega
    · obtain rfl : q = LL.length := by omega
      have HG2 := Lib.hid (show Good n LL gs by have h := HG.out; rw [List.take_length] at h; exact h)
      have HL := Lib.hid (show Law w (tGr b n gs ++ []) wr from Law.subG (A := tGr b n gs) L)
      clear HG L hlt
      go_wp2_with fail
      go_ret
      exact ⟨b, gs, rfl, HG2.out, HL.out⟩

end Go.Proofs.Ythkghbnmdebhpab
