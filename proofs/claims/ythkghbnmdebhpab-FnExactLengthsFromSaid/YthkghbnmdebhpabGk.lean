/- Lengths that are alike: the program. No condition but the sizes. -/
import Derived.Test.YthkghbnmdebhpabGj
import Derived.Test.YthkghbnmdebhpabM4
namespace Go.Proofs.Ythkghbnmdebhpab
open Go.RowKit Go.WideShapes

theorem clsL_len (n : Nat) (fs : List Int) (h6 : n ≤ 6) : (clsL n fs).length ≤ 117649 :=
  Nat.le_trans (List.length_filter_le _ _) (Nat.le_trans (goOn_len n n 0) (pow_n1 n n h6 h6))
theorem clsL_each (n : Nat) (fs : List Int) : ∀ Q ∈ clsL n fs, Q.length = n := fun Q hQ => (goOn_bd n n 0 Q (List.mem_filter.1 hQ).1).1

set_option maxRecDepth 100000 in
set_option maxHeartbeats 3200000 in
theorem implCls_any (xs : List Int) (w : World) (hx : xs.length ≤ 1048576) (lo : Nat) (s : Value) (hO : Own w lo s xs) :
    Calls Try.prog 25 #[s] w fun e w' => AnsM (clsR xs) w e w' := by
  obtain ⟨a, p, rfl, hr⟩ := hO.reads
  clear hO
  cases hg : lenB xs
  · rw [show clsR xs = ⟨[], false⟩ by simp [clsR, hg]]
    have HC := Lib.hid (lengthsOf_no a p xs w hx hr hg)
    clear hg
    go_enter Try.func25, Try.ntmps25
    go_wp2_with fail
    refine HC.out.mono ?_
    rintro e w2 ⟨rfl, hb⟩
    go_wp2_with fail
    go_ret2
    exact ⟨_, [], rfl, OwnM.nil _ _, below_on hb (below_new _)⟩
  · rw [show clsR xs = ⟨clsL xs.length (facs xs), true⟩ by simp [clsR, hg]]
    obtain ⟨i0, hi, hz0, hz1, hz2⟩ := info_parts Try.infoL
    obtain ⟨l1, l2, _⟩ := len_facts hg
    have HC := Lib.hid (lengthsOf_yes a p xs w hx hr hg)
    have HK := Lib.hid (fun W => classOf_any xs W l1 l2 (len_bd hg) (fun k => by have := facs_bd hg k; omega))
    have HRL := Lib.hid (clsL_len xs.length (facs xs) l2)
    have HRE := Lib.hid (clsL_each xs.length (facs xs))
    have HLI := Lib.hid (fun (Q : List Int) W (hl : Q.length = xs.length) => hl ▸ list_any Q W (by omega))
    clear hg l1 l2
    generalize clsL xs.length (facs xs) = R at *
    obtain ⟨M, hM⟩ : ∃ M : Nat → Int, M = fun k => xs.getD k 0 := ⟨_, rfl⟩
    rw [show fl xs = M from hM.symm] at HK
    rw [← hM] at HC
    clear hM
    go_enter Try.func25, Try.ntmps25
    go_wp2_with fail
    refine HC.out.mono ?_
    rintro e w2 ⟨rfl, hb⟩
    have HB := Lib.hid (below_on hb (below_new (.cells #[.int .i64 xs.length, .int .i64 (M 0), .int .i64 (M 1), .int .i64 (M 2), .int .i64 (M 3), .int .i64 (M 4), .int .i64 (M 5)] 64)))
    clear hb HC
    go_wp2_with fail
    refine (HK.out _).mono ?_
    rintro e w3 ⟨v, rfl, hO, hb3⟩
    obtain ⟨va, vp, rfl⟩ := hO.form
    have HL1 := Lib.hid (((Law.start w).kept HB.out).addS hb3 hO)
    clear hO hb3 HK
    go_wp2_with (at_make; refine wpList_make_full _ rfl _ _ 39 rfl w3.heap.size 22 i0 (.slice none 0 0) 1 Try.underlying39 hi hz0 hz1 .i64 .i64 _ _ R.length rfl rfl rfl rfl ?b1 ?b2 ?b3 ?_)
    case b1 => rw [hz2]; have := HRL.out; omega
    case b2 => unfold maxLen; have := HRL.out; omega
    case b3 => exact Nat.le_refl _
    intro w4 hown hgr
    have HL := Lib.hid (HL1.out.addM ((Below.refl _ _).grown hgr (Nat.le_refl _) (by simp)) (own_madeM hown))
    clear hown hgr hi hz0 hz1 hz2 HL1
    generalize w3.heap.size = G at *
    generalize xs.length = n at *
    go_wp2_with fail
    go_loopw [24] (fun i wr => ∃ (k : Nat) (vs : List Value), k ≤ R.length ∧ vs.length = R.length ∧ i = .int .i64 k ∧ Law w [tM (.slice (some ⟨G, 0, none⟩) R.length R.length) vs (fillL R [] R.length k), tS (.slice va R.length vp) n R] wr) (fun i _ => R.length - (intOf i).toNat)
    case atStart => exact ⟨0, List.replicate R.length (.slice none 0 0), Nat.zero_le _, by simp, rfl, by rw [fillL_zero]; exact HL.out⟩
    case round =>
      clear HL
      obtain ⟨k, vs, hk, hvl, rfl, L⟩ := hrel
      have HV := Lib.hid hvl
      have hRl := HRL.out
      by_cases hlt : k < R.length
      · obtain ⟨g, rfl, hc⟩ := L.tl.ownS.seven k hlt
        have hQl := HRE.out R[k] (List.getElem_mem hlt)
        have c0 := hc 0 _ rfl
        rw [Nat.add_zero] at c0
        have c1 := hc 1 _ rfl
        have c2 := hc 2 _ rfl
        have c3 := hc 3 _ rfl
        have c4 := hc 4 _ rfl
        have c5 := hc 5 _ rfl
        have c6 := hc 6 _ rfl
        have HF := Lib.hid (fillL_set R [] R.length k hlt hlt)
        generalize R[k] = Q at *
        have hkI : (k : Int) < R.length := by omega
        have HQ := Lib.hid (fun W => HLI.out Q W hQl)
        have L2 := L.has (sl n (fl Q)) 64
        rw [show wr.alloc (.cells (sl n (fl Q)).toArray 64) = wr.alloc (.cells #[.int .i64 n, .int .i64 (fl Q 0), .int .i64 (fl Q 1), .int .i64 (fl Q 2), .int .i64 (fl Q 3), .int .i64 (fl Q 4), .int .i64 (fl Q 5)] 64) from rfl] at L2
        have HL2 := Lib.hid L2
        clear L L2 hc hQl hvl
        generalize fl Q = F at *
        go_upto_region 9 with fail
        clear c0 c1 c2 c3 c4 c5 c6
        obtain ⟨t9, ht9⟩ : ∃ t9, t9 = wr.heap.size := ⟨_, rfl⟩
        rw [← ht9] at HL2 ⊢
        generalize wr.alloc _ = w5 at *
        clear ht9
        obtain ⟨c0, c1, c2, c3, c4, c5, c6, _⟩ := HL2.out.ownHas.seven
        go_wp2_with fail
        refine (HQ.out _).mono ?_
        rintro e w6 ⟨u, rfl, hO, hb⟩
        obtain ⟨au, pu, hu, _⟩ := hO.reads
        subst hu
        have L2 := HL2.out.tl.own hb hO
        have hM2 := L2.tl.ownM
        have hc0 := World.ownsRow.cellAt (by have := hM2.outer; rw [HV.out] at this; exact this) k (by omega)
        have hfz := World.ownsRow.frozenAt (by have := hM2.outer; rw [HV.out] at this; exact this) k
        have hcz : w6.cell? ⟨G, k, none⟩ = some (vs[k]'(by rw [HV.out]; exact hlt)) := by
          rw [hc0]
          simp [HV.out, hlt]
        clear hc0 c0 c1 c2 c3 c4 c5 c6
        have L3 := L2.putM HV.out k hlt
        rw [HF.out] at L3
        have HL3 := Lib.hid L3
        have HVS := Lib.hid (show (vs.set k (.slice au Q.length pu)).length = R.length by rw [List.length_set]; exact HV.out)
        clear L2 L3 hM2 HL2 hO hb HF
        go_wp2_with fail
        go_roundw
        case rel => exact ⟨k + 1, _, by omega, HVS.out, by go_num, HL3.out⟩
        case measure => simp [intOf]; omega
      · obtain rfl : k = R.length := by omega
        rw [fillL_full] at L
        have HL := Lib.hid L
        clear L
        go_wp2_with fail
        go_ret2
        exact ⟨_, vs, rfl, HL.out.ownMLo, HL.out.below⟩

end Go.Proofs.Ythkghbnmdebhpab
