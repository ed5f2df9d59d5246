/- The first rows that refuse, in the program. No condition but the sizes. -/
import Derived.Test.YtdimbnkgomfojabCd
import Derived.Test.YtdimbnkgomfojabCb
import Derived.BigQuiet
namespace Go.Proofs.Ytdimbnkgomfojab
open Go.RowKit Go.WideShapes

set_option maxRecDepth 100000 in
set_option maxHeartbeats 1600000 in
theorem ref1_any (n m : Int) (M : Nat → Int) (bg g cp : Nat) (R : List Int) (w : World) (hx : R.length ≤ 1048576) (hr : Reads w (some ⟨g, 0, none⟩) R.length R) (hR : rowsIn R) (hM : ∀ k, k < 6 → 0 ≤ M k ∧ M k < 64)
    (HG : Has w bg (gl n m M) 68) :
    Calls Try.prog 81 (#[.slice (some ⟨g, 0, none⟩) R.length cp] ++ #[.pointer (some ⟨bg, 0, none⟩)]) w fun e w' => e = .returned (.bool (decide (0 < (R.length : Int) - pop (orM M R : Nat)))) ∧ Below w.heap.size w w' := by
  have HE := Lib.hid (excess_any n m M (some ⟨g, 0, none⟩) cp R w hx hr hR hM)
  obtain ⟨e0, e1, e2, e3, e4, e5, e6, e7, _⟩ := HG.eight
  obtain ⟨x, hx2⟩ : ∃ x, x = (R.length : Int) - pop (orM M R : Nat) := ⟨_, rfl⟩
  rw [← hx2] at HE ⊢
  clear hx2 hr HG hR hM
  go_enter Try.func81, Try.ntmps81
  go_wp2_with fail
  refine HE.out.mono ?_
  rintro e w2 ⟨rfl, hb⟩
  have HB := Lib.hid hb
  clear hb e0 e1 e2 e3 e4 e5 e6 e7
  go_wp2_with fail
  go_ret
  exact ⟨rfl, HB.out⟩

set_option maxRecDepth 100000 in
set_option maxHeartbeats 1600000 in
theorem ref2_any (bl g cp : Nat) (l : Nat) (v : Value) (w : World) (HL : Has w bl [v] 22) :
    Calls Try.prog 83 (#[.slice (some ⟨g, 0, none⟩) l cp] ++ #[.pointer (some ⟨bl, 0, none⟩)]) w fun e w' => e = .returned (.bool false) ∧ w' = w.setCell ⟨bl, 0, none⟩ (.slice (some ⟨g, 0, none⟩) l cp) := by
  obtain ⟨z0, z1⟩ := HL.one1
  clear HL
  go_enter Try.func83, Try.ntmps83
  go_wp2_with fail
  go_ret
  exact ⟨rfl, rfl⟩

/-- What is kept of a search that ends with the first one. -/
structure KeepF (bl : Nat) (lo : Nat) (o : Option (List Int)) (w : World) : Prop where
  box : ∃ v, Has w bl [v] 22 ∧ ((v = .slice none 0 0 ∧ o = none) ∨ ∃ R g cp, o = some R ∧ v = .slice (some ⟨g, 0, none⟩) R.length cp ∧ Own w lo v R)
theorem KeepF.kept {bl lo : Nat} {o : Option (List Int)} {w w' : World} (h : KeepF bl lo o w) (hb : Below w.heap.size w w') : KeepF bl lo o w' := by
  obtain ⟨v, h1, h2⟩ := h.box
  refine ⟨v, h1.kept hb h1.lt, ?_⟩
  rcases h2 with h2 | ⟨R, g, cp, e1, e2, e3⟩
  · exact .inl h2
  · exact .inr ⟨R, g, cp, e1, e2, e3.kept hb⟩
theorem KeepF.set {bl lo g cp : Nat} {o : Option (List Int)} {w : World} {R : List Int} (h : KeepF bl lo o w) (hO : Own w lo (.slice (some ⟨g, 0, none⟩) R.length cp) R) (hl : bl < lo) : KeepF bl lo (some R) (w.setCell ⟨bl, 0, none⟩ (.slice (some ⟨g, 0, none⟩) R.length cp)) := by
  obtain ⟨v, h1, _⟩ := h.box
  refine ⟨_, h1.set 0 (.slice (some ⟨g, 0, none⟩) R.length cp), .inr ⟨R, g, cp, rfl, rfl, hO.set (a := ⟨bl, 0, none⟩) hl _⟩⟩

set_option maxRecDepth 100000 in
set_option maxHeartbeats 3200000 in
theorem implRef_any (r c : Int) (xs : List Int) (w : World) (hx : xs.length ≤ 1048576) (lo : Nat) (s : Value) (hO : Own w lo s xs) :
    Calls Try.prog 47 #[.agg #[.int .i64 r, .int .i64 c, s]] w fun e w' => AnsL (refR r c xs) w e w' := by
  have L0 := (Law.start w).box (.int .i64 r) (.int .i64 c) s 28
  obtain ⟨a, cap, rfl, hr⟩ := hO.reads
  have hr0 := L0.reads hr
  clear hO
  cases hg : goodB r c xs
  · rw [show refR r c xs = ⟨[], false⟩ by simp [refR, hg]]
    go_enter Try.func47, Try.ntmps47
    go_wp2_with fail
    refine (gridOf_no r c a cap xs _ hx hr0 hg).mono ?_
    rintro e w1 ⟨rfl, hb⟩
    have HB := Lib.hid (((L0.kept hb).kept (below_new (.cells #[.int .i64 0, .int .i64 0, .int .i64 0, .int .i64 0, .int .i64 0, .int .i64 0, .int .i64 0, .int .i64 0] 68))).below)
    clear L0 hb hg hr0
    go_wp2_with fail
    go_ret2
    exact ⟨_, rfl, Own.nil _ _, HB.out⟩
  · obtain ⟨g1, g2, g3, _⟩ := good_facts hg
    obtain ⟨n, rfl⟩ := Int.eq_ofNat_of_zero_le (show 0 ≤ r by omega)
    obtain ⟨m, rfl⟩ := Int.eq_ofNat_of_zero_le (show 0 ≤ c by omega)
    obtain ⟨M, hM, hc⟩ := gridOf_good n m a cap xs _ hx hr0 hg
    have hgc := good_cell hg
    have hMb : ∀ k, k < 6 → 0 ≤ M k ∧ M k < 64 := fun k _ => by rw [hM]; exact hgc k
    rw [show refR n m xs = refL xs n m by simp [refR, hg]]
    have hn : n ≤ 6 := by omega
    have hsr : ∀ j R, (sets n)[j]? = some R → R.length ≤ 1048576 ∧ rowsIn R ∧ decide (0 < (R.length : Int) - pop (orM M R : Nat)) = isRef xs n m R := fun j R h => by
      have hmem := List.mem_of_getElem? h
      have := sets_short n hn R hmem
      have h2 := sets_rows n hn R hmem
      refine ⟨by omega, rowsIn_of hn h2, ?_⟩
      rw [excS_pop xs M n m (by omega) (fit_good hg) (fun k _ => hM k) R h2]
      unfold excS isRef
      rw [decide_eq_decide]
      omega
    -- the search
    have hsearch : ∀ (W : World) (bg bl : Nat), Has W bg (gl n m M) 68 → Has W bl [.slice none 0 0] 22 → bg ≠ bl →
        Calls Try.prog 84 #[.agg #[.func (.func 81) #[] #[.pointer (some ⟨bg, 0, none⟩)], .func (.func 83) #[] #[.pointer (some ⟨bl, 0, none⟩)]], .int .i64 n] W fun e w' => e = .returned (.tuple #[]) ∧ KeepF bl W.heap.size ((sets n).find? (isRef xs n m)) w' ∧ Chg (fun b => b = bl) W w' := by
      intro W bg bl hG hL hd
      have hcont : ∀ j R, (sets n)[j]? = some R → isRef xs n m (setA n j) = isRef xs n m R := fun j R h => by rw [setA_of h]
      have hpre : ∀ j, (runW (fun j => !isRef xs n m (setA n j) || false) j).2 = true → firstW (isRef xs n m) (sets n) j = none := fun j h => by
        refine firstW_none _ _ _ (fun i R hi hR => ?_)
        have := runW_goes _ j h i hi
        simp only [Bool.or_false, Bool.not_eq_true'] at this
        rw [← hcont i R hR]
        exact this
      have h := among_any n 81 83 #[.pointer (some ⟨bg, 0, none⟩)] #[.pointer (some ⟨bl, 0, none⟩)] (fun b => b = bl)
        (fun j w' => Has w' bg (gl n m M) 68 ∧ KeepF bl W.heap.size (firstW (isRef xs n m) (sets n) j) w') (fun j => isRef xs n m (setA n j)) (fun _ => false) W hn
        (fun b hb => by rw [hb]; exact hL.lt) (fun j w1 w2 hb hi => ⟨hi.1.kept hb hi.1.lt, hi.2.kept hb⟩) (fun _ _ => by kernel_rfl) (fun _ _ => by kernel_rfl)
        (fun j w1 hgo hj hi => by
          refine ⟨hi.1, ?_⟩
          have h0 := hpre j hgo
          have h1 : firstW (isRef xs n m) (sets n) (j + 1) = none := by
            cases e : (sets n)[j]? with
            | none =>
              have hk : (sets n).length ≤ j := List.getElem?_eq_none_iff.1 e
              unfold firstW at h0 ⊢
              rw [List.take_of_length_le (by omega)] at h0 ⊢
              exact h0
            | some R => rw [firstW_next _ _ _ R e h0, if_neg (by rw [← hcont j R e, hj]; simp)]
          rw [h1, ← h0]
          exact hi.2)
        (fun j R hjR _ w1 g cp hi hO => by
          obtain ⟨h1, h2, h3⟩ := hsr j R hjR
          have := ref1_any n m M bg g cp R w1 h1 (own_readsQ hO rfl) h2 hMb hi.1
          rw [h3, ← hcont j R hjR] at this
          exact this)
        (fun j R hjR hgo hj w1 g cp hi hO => by
          obtain ⟨v, hv, _⟩ := hi.2.box
          have h0 := hpre j hgo
          refine (ref2_any bl g cp R.length v w1 hv).mono ?_
          rintro e w' ⟨rfl, rfl⟩
          refine ⟨rfl, ⟨hi.1.other _ (fun e => hd e.symm) _, ?_⟩, ⟨rfl, rfl, rfl, by simp [World.setCell], fun k _ hf => Below.heap_setCell w1 ⟨bl, 0, none⟩ _ k hf⟩⟩
          rw [firstW_next _ _ _ R hjR h0, if_pos (by rw [← hcont j R hjR]; exact hj)]
          exact hi.2.set hO hL.lt)
        ⟨hG, ⟨_, hL, .inl ⟨rfl, rfl⟩⟩⟩
      refine h.mono (fun e w' h => ⟨h.1, ?_, h.2.2⟩)
      have hk := h.2.1.2
      rcases runW_end (fun j => !isRef xs n m (setA n j) || false) (sets n).length with he | ⟨j, hj, h1, h2, h3⟩
      · rw [runW_full _ _ he, firstW_all] at hk
        exact hk
      · rw [h1] at hk
        have hR := List.getElem?_eq_getElem hj
        have hw : isRef xs n m (setA n j) = true := by simpa using h2
        have h4 := firstW_next (isRef xs n m) (sets n) j _ hR (hpre j h3)
        rw [if_pos (by rw [← hcont j _ hR]; exact hw)] at h4
        rw [firstW_some _ _ _ _ h4, ← h4]
        exact hk
    have HC := Lib.hid hc
    have HS := Lib.hid hsearch
    have HYE : Hid (∀ R, (sets n).find? (isRef xs n m) = some R → refL xs n m = ⟨R, true⟩ ∧ 0 < R.length) := Lib.hid (fun R h => by
      refine ⟨by unfold refL; rw [h], ?_⟩
      have := List.find?_some h
      unfold isRef at this
      rw [decide_eq_true_eq] at this
      omega)
    have HYN : Hid ((sets n).find? (isRef xs n m) = none → refL xs n m = ⟨[], false⟩) := Lib.hid (fun h => by unfold refL; rw [h])
    clear hg hr0 hc hM hMb hgc hsr hsearch
    generalize refL xs n m = y at *
    generalize (sets n).find? (isRef xs n m) = o at *
    go_enter Try.func47, Try.ntmps47
    go_wp2_with fail
    refine HC.out.mono ?_
    rintro e w1 ⟨rfl, hb⟩
    have L1 := ((L0.kept hb).has (gl n m M) 68).has [.slice none 0 0] 22
    simp only [World.size_alloc] at L1
    rw [show (gl n m M).toArray = #[.int .i64 n, .int .i64 m, .int .i64 (M 0), .int .i64 (M 1), .int .i64 (M 2), .int .i64 (M 3), .int .i64 (M 4), .int .i64 (M 5)] from rfl, show ([.slice none 0 0] : List Value).toArray = #[.slice none 0 0] from rfl] at L1
    have HL := Lib.hid L1
    clear L0 hb HC L1
    go_upto_region 5 with fail
    generalize (w1.alloc (.cells #[.int .i64 n, .int .i64 m, .int .i64 (M 0), .int .i64 (M 1), .int .i64 (M 2), .int .i64 (M 3), .int .i64 (M 4), .int .i64 (M 5)] 68)).alloc (.cells #[.slice none 0 0] 22) = w5 at *
    have L2 := HL.out.has [.func (.func 81) #[] #[.pointer (some ⟨w1.heap.size, 0, none⟩)], .func (.func 83) #[] #[.pointer (some ⟨w1.heap.size + 1, 0, none⟩)]] 87
    rw [show ([.func (.func 81) #[] #[.pointer (some ⟨w1.heap.size, 0, none⟩)], .func (.func 83) #[] #[.pointer (some ⟨w1.heap.size + 1, 0, none⟩)]] : List Value).toArray = #[.func (.func 81) #[] #[.pointer (some ⟨w1.heap.size, 0, none⟩)], .func (.func 83) #[] #[.pointer (some ⟨w1.heap.size + 1, 0, none⟩)]] from rfl] at L2
    have HL1 := Lib.hid L2
    clear L2 HL
    go_upto_region 6 with fail
    generalize w5.alloc (.cells #[.func (.func 81) #[] #[.pointer (some ⟨w1.heap.size, 0, none⟩)], .func (.func 83) #[] #[.pointer (some ⟨w1.heap.size + 1, 0, none⟩)]] 87) = w6 at *
    have f0 := HL1.out.ownHas.cell 0
    have f1 := HL1.out.ownHas.cell 1
    simp only [List.getElem?_cons_zero, List.getElem?_cons_succ] at f0 f1
    have ⟨e0, _⟩ := HL1.out.tl.tl.ownHas.eight
    have hc := HS.out w6 w1.heap.size (w1.heap.size + 1) HL1.out.tl.tl.ownHas HL1.out.tl.ownHas (by omega)
    have HC := Lib.hid hc
    have HB := Lib.hid HL1.out.below
    have HLT := Lib.hid (show w.heap.size ≤ w1.heap.size + 1 by have := (HL1.out.range _ (List.mem_cons_of_mem _ (List.mem_cons_self ..)) _ rfl).1; exact this)
    clear hc HS HL1
    go_wp2_with fail
    refine HC.out.mono ?_
    rintro e w7 ⟨rfl, hk, hch⟩
    have HF := Lib.hid (show Below w.heap.size w w7 from ⟨hch.os.trans HB.out.os, hch.tape.trans HB.out.tape, hch.output.trans HB.out.output, Nat.le_trans HB.out.size hch.size, fun b hb => (hch.block b (Nat.lt_of_lt_of_le hb HB.out.size) (by have := HLT.out; omega)).trans (HB.out.block b hb)⟩)
    obtain ⟨v, hv, hcase⟩ := hk.box
    have hv0 := hv.one1.1
    have HFD := Lib.hid (fun q => (show Below w.heap.size w (w7.drewN q) from below_drewN HF.out q))
    clear hch HC e0 f0 f1 hv hk
    rcases hcase with ⟨rfl, hno⟩ | ⟨R, g, cp, hyes, rfl, hO⟩
    · have HY := Lib.hid (HYN.out hno)
      clear hno HB
      go_wp2_with fail
      go_quiet (fail)
      go_wp2_with fail
      go_ret2
      rw [HY.out]
      exact ⟨_, rfl, Own.nil _ _, HFD.out _⟩
    · have HY := Lib.hid (HYE.out R hyes).1
      have HD := Lib.hid (show decide (0 < R.length) = true by have := (HYE.out R hyes).2; simp; omega)
      have hpos : (0 : Int) < R.length := by have := (HYE.out R hyes).2; omega
      have HO := Lib.hid (fun q => (show Own (w7.drewN q) w.heap.size (.slice (some ⟨g, 0, none⟩) R.length cp) R from (hO.lower HB.out.size).kept (below_drewN (Below.refl _ _) q)))
      clear hyes hO HB
      go_wp2_with fail
      go_quiet (fail)
      go_wp2_with fail
      go_ret2
      rw [HY.out]
      exact ⟨.slice (some ⟨g, 0, none⟩) R.length cp, (by show Ending.returned (.tuple #[.slice (some ⟨g, 0, none⟩) R.length cp, .bool (decide (0 < R.length))]) = _; rw [HD.out]), HO.out _, HFD.out _⟩

end Go.Proofs.Ytdimbnkgomfojab
