import Derived.Test.YtakdiiccdkjjcabFold34
import Derived.Test.YtakdiiccdkjjcabFold25

section
namespace Go.Proofs.Ytakdiiccdkjjcab
open Go.RowKit Go.WideShapes

set_option maxRecDepth 100000 in
set_option maxHeartbeats 12800000 in
theorem specRkc_yes (xs : List Int) (q : Nat) (w : World) (hx : xs.length ≤ 1048576) (a : Option Addr) (p : Nat) (hr : Reads w a xs.length xs) (hg : lenB xs = true) (hq : q = 2 ∨ q = 3) (hc : celN xs xs.length ≤ 20) :
    Calls Try.prog 51 #[.slice a xs.length p, .int .i64 q] w (AnsL ⟨lstI (xs.length + 1) (rkN xs q), true⟩ w) := by
  obtain ⟨l1, l2, l3, _⟩ := len_facts hg
  have hgg := feGood_any a p xs w hx hr
  rw [hg] at hgg
  have HG := Lib.hid hgg
  have hqq := weBase_any q
  rw [show isQ (q : Int) = true by rcases hq with rfl | rfl <;> rfl] at hqq
  have HQ := Lib.hid hqq
  have hW := fun W h => weAll_any xs a p W l1 l2 l3 h
  have hIN := fun k hk => rk_in xs hg q (by omega) hc k hk
  have hwl := fun k => wts_len xs (fun k => (l3 k).2) xs.length k
  have hwi := fun k e => wts_in xs (fun k => (l3 k).2) xs.length k e l2
  obtain ⟨n, hn⟩ : ∃ n, n = xs.length := ⟨_, rfl⟩
  have hzg := fun k h => lstR_get (n + 1) (wts xs n) k h
  have hzl := lstR_len (n + 1) (wts xs n)
  have hCE := fun W (h : Reads W a n xs) => weCells_any n xs a p W hn.symm (by omega) l3 h
  have hT := fun k e => show rkT xs q k e = (wts xs n k).getD e 0 * (q : Int) ^ ((celN xs n : Int) - k - e).toNat by rw [hn]; rfl
  have hN := fun k => show rkN xs q k = ((q : Int) - 1) ^ k * sumT (rkT xs q k) (wts xs n k).length by rw [hn]; rfl
  rw [← hn] at HG hW hr hc l2 ⊢
  simp only [← hn] at hwl hwi
  have HW := Lib.hid hW
  have HCE := Lib.hid hCE
  have HIN := Lib.hid hIN
  have HWL := Lib.hid hwl
  have HWI := Lib.hid hwi
  have HT := Lib.hid hT
  have HN := Lib.hid hN
  have HZG := Lib.hid hzg
  have HZL := Lib.hid hzl
  have HR := Lib.hid hr
  have HPW := Lib.hid (fun (K : Int) W hK => wePower_any q (by omega) K W hK)
  have HP1 := Lib.hid (fun (K : Int) W hK => wePower_any (q - 1) (by omega) K W hK)
  rw [show ((q - 1 : Nat) : Int) = (q : Int) - 1 by omega] at HP1
  have hq1 : IntKind.i64.wrap ((q : Int) - 1) = (q : Int) - 1 := IntWalk.i64_in _ (by omega)
  have hq0 : (0 : Int) ≤ q ∧ (q : Int) ≤ 3 := by omega
  clear hgg hqq hW hIN hwl hwi hzg hzl hCE hT hN hg hq hn hr l1 l3 hx
  generalize celN xs n = C at *
  generalize wts xs n = WW at *
  generalize lstR (n + 1) WW = zz at *
  generalize rkT xs q = T at *
  generalize rkN xs q = RN at *
  have hC20 : (C : Int) ≤ 20 := by omega
  go_enter Try.func51, Try.ntmps51
  go_wp2_with fail
  refine HG.out.mono ?_
  rintro e w2 ⟨rfl, hb⟩
  have HB := Lib.hid hb
  clear hb
  go_wp2_with fail
  refine (HQ.out _).mono ?_
  rintro e w3 ⟨rfl, rfl⟩
  go_wp2_with fail
  refine (HCE.out _ (HR.out.kept HB.out)).mono ?_
  rintro e w3 ⟨rfl, rfl⟩
  go_wp2_with fail
  refine (HCE.out _ (HR.out.kept HB.out)).mono ?_
  rintro e w3 ⟨rfl, rfl⟩
  go_wp2_with fail
  refine (HW.out _ (HR.out.kept HB.out)).mono ?_
  rintro e w4 ⟨g, vs, rfl, hO, hb⟩
  have L4 := (((Law.start w).kept HB.out).addM hb hO)
  have L5 := L4.own (Below.refl _ _) (Own.nil w4 w4.heap.size)
  rw [show ([] : List Int) = lstI 0 RN from rfl] at L5
  have HL := Lib.hid L5
  clear hO hb L4 L5
  go_wp2_with fail
  go_loopw [6, 31] (fun v i wr => ∃ k : Nat, k ≤ n + 1 ∧ i = .int .i64 k ∧ Law w [tOwn v (lstI k RN), tM (.slice (some ⟨g, 0, none⟩) (n + 1) (n + 1)) vs zz] wr) (fun _ i _ => n + 1 - (intOf i).toNat)
  case atStart => exact ⟨0, Nat.zero_le _, rfl, HL.out⟩
  case round =>
    clear HL
    obtain ⟨k, hk, rfl, L⟩ := hrel
    by_cases hlt : k < n + 1
    · obtain ⟨a2, p2, hc1, hr2⟩ := rowM_at L.tl HZL.out k hlt _ (HZG.out k)
      obtain ⟨a5, p5, hv5, _⟩ := L.ownInts.reads
      rw [lstI_len] at hv5
      subst hv5
      have HRR := Lib.hid hr2
      have HL := Lib.hid L
      have hin := HIN.out k (by omega)
      have HINK := Lib.hid hin
      have HTK := Lib.hid (HT.out k)
      have HNK := Lib.hid (HN.out k)
      have HWIK := Lib.hid (HWI.out k)
      have HLEN := Lib.hid (show (WW k).length ≤ 37 by have := HWL.out k; omega)
      have hkn1 : (k : Int) < (n : Int) + 1 := by omega
      clear hr2 L hin
      generalize WW k = ys at *
      generalize T k = TK at *
      go_wp2_with fail
      go_loopw [10, 38] (fun s i wr' => ∃ e : Nat, e ≤ ys.length ∧ i = .int .i64 e ∧ s = .int .i64 (sumT TK e) ∧ wr = wr') (fun _ i _ => ys.length - (intOf i).toNat)
      case atStart => exact ⟨0, Nat.zero_le _, rfl, rfl, rfl⟩
      case round =>
        obtain ⟨e, he, rfl, rfl, hww⟩ := hrel
        subst hww
        by_cases hlt2 : e < ys.length
        · obtain ⟨b2, o2, ha2, _, hcc⟩ := reads_row HRR.out (by omega)
          subst ha2
          have hce := hcc e hlt2
          have hy := HWIK.out e
          have hlen := HLEN.out
          have htk := (HINK.out.1 e)
          have hsk := (HINK.out.2.1 (e + 1) (by omega)).2
          have hsk0 := (HINK.out.2.1 e (by omega)).1
          have hst : sumT TK (e + 1) = sumT TK e + TK e := rfl
          have hte := HTK.out e
          have HPW1 := Lib.hid (fun W => HPW.out ((C : Int) - k - e) W (by omega))
          rw [hst] at hsk
          rw [hte] at htk hsk
          by_cases h0 : 0 < ys.getD e 0
          · have HM := Lib.hid (show wrap64 (ys.getD e 0 * (q : Int) ^ ((C : Int) - k - e).toNat) = ys.getD e 0 * (q : Int) ^ ((C : Int) - k - e).toNat from IntWalk.wrap64_in _ (by omega))
            have HS2 := Lib.hid ((show wrap64 (sumT TK e + ys.getD e 0 * (q : Int) ^ ((C : Int) - k - e).toNat) = sumT TK e + ys.getD e 0 * (q : Int) ^ ((C : Int) - k - e).toNat from IntWalk.wrap64_in _ (by omega)).trans (show sumT TK e + ys.getD e 0 * (q : Int) ^ ((C : Int) - k - e).toNat = sumT TK (e + 1) by rw [hst, hte]))
            clear htk hsk hsk0 hst hte hcc hy
            generalize (q : Int) ^ ((C : Int) - k - e).toNat = P at *
            generalize ys.getD e 0 = y at *
            generalize sumT TK e = S at *
            go_wp2_with fail
            refine (HPW1.out _).mono ?_
            rintro e7 w7 ⟨rfl, rfl⟩
            have he37 : (e : Int) ≤ 37 := by omega
            go_wp2_with fail
            go_roundw
            case rel => exact ⟨e + 1, by omega, by go_num, by rw [HM.out, HS2.out], trivial⟩
            case measure => simp [intOf]; omega
          · have hy0 : ys.getD e 0 = 0 := by omega
            have HS2 := Lib.hid (show sumT TK (e + 1) = sumT TK e by rw [hst, hte, hy0, Int.zero_mul, Int.add_zero])
            rw [hy0] at hce
            clear htk hsk hsk0 hst hte hcc hy h0 hy0
            go_wp2_with fail
            go_roundw
            case rel => exact ⟨e + 1, by omega, by go_num, by rw [HS2.out], trivial⟩
            case measure => simp [intOf]; omega
        · obtain rfl : e = ys.length := by omega
          have hn9 := HNK.out
          have hin3 := HINK.out.2.2
          have HP2 := Lib.hid (fun W => HP1.out (k : Int) W (by omega))
          rw [Int.toNat_natCast] at HP2
          rw [hn9] at hin3
          have HM := Lib.hid ((show wrap64 (((q : Int) - 1) ^ k * sumT TK ys.length) = ((q : Int) - 1) ^ k * sumT TK ys.length from IntWalk.wrap64_in _ (by omega)).trans hn9.symm)
          clear hn9 hin3
          generalize sumT TK ys.length = S at *
          generalize ((q : Int) - 1) ^ k = P at *
          go_wp2_with fail
          refine (HP2.out _).mono ?_
          rintro e w7 ⟨rfl, rfl⟩
          have L7 := HL.out.kept (below_new (.cells #[.int .i64 (wrap64 (P * S))] 3))
          have hnew : (wr.alloc (.cells #[.int .i64 (wrap64 (P * S))] 3)).cell? ⟨wr.heap.size, 0, none⟩ = some (.int .i64 (wrap64 (P * S))) := by rw [World.cell?_alloc_at _ _ _ _ rfl]; rfl
          have HL7 := Lib.hid (And.intro L7 hnew)
          have HSN := Lib.hid (show lstI k RN ++ [wrap64 (P * S)] = lstI (k + 1) RN by rw [HM.out]; exact lstI_snoc k RN)
          clear L7 hnew
          go_wp2_with (at_builtin; refine wp_appendI rfl _ _ rfl (wrap64 (P * S)) HL7.out.1 wr.heap.size rfl rfl HL7.out.2 (by rw [lstI_len]; omega) _ HSN.out ?_)
          intro g8 c8 w8 L8
          have HL8 := Lib.hid L8
          rw [lstI_len] at HL8 ⊢
          clear L8 HL7
          go_wp2_with fail
          go_roundw
          case rel => exact ⟨k + 1, by omega, by go_num, HL8.out⟩
          case measure => simp [intOf]; omega
    · obtain rfl : k = n + 1 := by omega
      have HL := Lib.hid L
      clear L
      go_wp2_with fail
      go_ret2
      exact ⟨_, rfl, HL.out.ownLo, HL.out.below⟩
end Go.Proofs.Ytakdiiccdkjjcab
end

section
namespace Go.Proofs.Ytakdiiccdkjjcab
open Go.RowKit Go.WideShapes

/-- What stands for a field. -/
def isG (F : Value) : Prop := F = .nilIface ∨ F = fV2 ∨ F = fV3
theorem isG_fV (q : Nat) (hq : q = 2 ∨ q = 3) : isG (fV q) := by
  rcases hq with rfl | rfl
  · exact .inr (.inl rfl)
  · exact .inr (.inr rfl)
set_option maxRecDepth 100000 in
set_option maxHeartbeats 1600000 in
theorem over_noG (a : Option Addr) (p : Nat) (xs : List Int) (q : Int) (w : World) (hx : xs.length ≤ 1048576) (hr : Reads w a xs.length xs) (hg : (lenB xs && isQ q) = false) :
    Calls Try.prog 93 #[.slice a xs.length p, .int .i64 q] w fun e w' => (∃ u N F, isG F ∧ e = .returned (.tuple #[sv u N, F, .bool false])) ∧ Below w.heap.size w w' := by
  have L0 := (Law.start w).has (sl 0 (fun _ => 0)) 90
  rw [show w.alloc (.cells (sl 0 (fun _ => 0)).toArray 90) = w.alloc (.cells #[.int .i64 0, .int .i64 0, .int .i64 0, .int .i64 0, .int .i64 0, .int .i64 0, .int .i64 0] 90) from rfl] at L0
  have hc : ∃ (u : Int) (N : Nat → Int), Calls Try.prog 88 #[.slice a xs.length p] (w.alloc (.cells #[.int .i64 0, .int .i64 0, .int .i64 0, .int .i64 0, .int .i64 0, .int .i64 0, .int .i64 0] 90)) fun e w' => e = .returned (.tuple #[sv u N, .bool (lenB xs)]) ∧ Below (w.alloc (.cells #[.int .i64 0, .int .i64 0, .int .i64 0, .int .i64 0, .int .i64 0, .int .i64 0, .int .i64 0] 90)).heap.size (w.alloc (.cells #[.int .i64 0, .int .i64 0, .int .i64 0, .int .i64 0, .int .i64 0, .int .i64 0, .int .i64 0] 90)) w' := by
    cases h : lenB xs
    · exact ⟨0, fun _ => 0, lengthsOf_no a p xs _ hx (L0.reads hr) h⟩
    · exact ⟨_, _, lengthsOf_yes a p xs _ hx (L0.reads hr) h⟩
  have hf : ∃ F, isG F ∧ ∀ W, Calls Try.prog 133 #[.int .i64 q] W fun e w' => e = .returned (.tuple #[F, .bool (isQ q)]) ∧ W = w' := by
    cases h : isQ q
    · exact ⟨_, .inl rfl, fun W => fieldOf_no q W h⟩
    · obtain ⟨n, rfl, hn⟩ := isQ_nat h
      exact ⟨_, isG_fV n hn, fun W => fieldOf_yes n hn W⟩
  obtain ⟨u, M, hc⟩ := hc
  obtain ⟨F, hF, hf⟩ := hf
  have HIF := Lib.hid hF
  clear hF
  have HF := Lib.hid hf
  have HC := Lib.hid hc
  have HL := Lib.hid L0
  clear hc hr L0 hx hf
  generalize lenB xs = b1 at *
  generalize isQ q = b2 at *
  cases b1
  · clear hg
    go_enter Try.func93, Try.ntmps93
    go_wp2_with fail
    refine HC.out.mono ?_
    rintro e w2 ⟨rfl, hb⟩
    have L2 := (HL.out.kept hb).has (sl u M) 90
    rw [show w2.alloc (.cells (sl u M).toArray 90) = w2.alloc (.cells #[.int .i64 u, .int .i64 (M 0), .int .i64 (M 1), .int .i64 (M 2), .int .i64 (M 3), .int .i64 (M 4), .int .i64 (M 5)] 90) from rfl] at L2
    have HL2 := Lib.hid L2
    clear hb L2 HC HL
    go_upto_region 2 with fail
    generalize w2.alloc _ = w5 at *
    go_wp2_with fail
    refine (HF.out _).mono ?_
    rintro e w6 ⟨rfl, rfl⟩
    obtain ⟨e0, e1, e2, e3, e4, e5, e6, _⟩ := HL2.out.ownHas.seven
    obtain ⟨f0, f1, f2, f3, f4, f5, f6, ff⟩ := HL2.out.tl.ownHas.seven
    have HB := Lib.hid HL2.out.below
    clear HL2
    go_wp2_with fail
    refine bodyPost_ret (v := .tuple #[sv u M, F, .bool false]) (by simp [results, Try.results93, go_sem, f0, f1, f2, f3, f4, f5, f6]) rfl ⟨⟨_, _, _, HIF.out, rfl⟩, ?_⟩
    have h2 := HB.out
    repeat (refine Below.setCell ?_ (by simp <;> omega) _)
    exact h2
  · rw [Bool.true_and] at hg
    subst hg
    go_enter Try.func93, Try.ntmps93
    go_wp2_with fail
    refine HC.out.mono ?_
    rintro e w2 ⟨rfl, hb⟩
    have L2 := (HL.out.kept hb).has (sl u M) 90
    rw [show w2.alloc (.cells (sl u M).toArray 90) = w2.alloc (.cells #[.int .i64 u, .int .i64 (M 0), .int .i64 (M 1), .int .i64 (M 2), .int .i64 (M 3), .int .i64 (M 4), .int .i64 (M 5)] 90) from rfl] at L2
    have HL2 := Lib.hid L2
    clear hb L2 HC HL
    go_upto_region 2 with fail
    generalize w2.alloc _ = w5 at *
    go_wp2_with fail
    refine (HF.out _).mono ?_
    rintro e w6 ⟨rfl, rfl⟩
    obtain ⟨e0, e1, e2, e3, e4, e5, e6, _⟩ := HL2.out.ownHas.seven
    obtain ⟨f0, f1, f2, f3, f4, f5, f6, ff⟩ := HL2.out.tl.ownHas.seven
    have HB := Lib.hid HL2.out.below
    clear HL2
    go_wp2_with fail
    refine bodyPost_ret (v := .tuple #[sv u M, F, .bool false]) (by simp [results, Try.results93, go_sem, f0, f1, f2, f3, f4, f5, f6]) rfl ⟨⟨_, _, _, HIF.out, rfl⟩, ?_⟩
    have h2 := HB.out
    repeat (refine Below.setCell ?_ (by simp <;> omega) _)
    exact h2
end Go.Proofs.Ytakdiiccdkjjcab
end
