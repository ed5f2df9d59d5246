/- Lengths from their factors: the program, where the factors are numbers of 64 bits. -/
import Derived.Test.YthkghbnmdebhpabGk
namespace Go.Proofs.Ythkghbnmdebhpab
open Go.RowKit Go.WideShapes Go.ChangeMaps Go.MapKept

theorem sort_same (fs : List Int) : sortL fs = fs ↔ sortB fs = true := by
  constructor
  · intro h
    have hs := sortL_sorted fs
    rw [h] at hs
    rw [sortB_iff]
    intro k hk
    have := List.pairwise_iff_getElem.1 hs k (k + 1) (by omega) hk (by omega)
    simpa [List.getD, show k < fs.length by omega, hk] using this
  · intro h
    have hall : ∀ k, k ≤ fs.length → sortL (fs.take k) = fs.take k := by
      intro k
      induction k with
      | zero => intro _; simp [sortL]
      | succ k ih =>
        intro hk
        have hl : (fs.take k).length = k := by simp; omega
        have hg : ∀ i, i < k → (fs.take k).getD i 0 = fs.getD i 0 := fun i hi => by simp [List.getD, hi]
        rw [sortL_succ fs k (by omega), ih (by omega), insL_at (fs.getD k 0) (fs.take k) k (by omega) (fun i hi => by rw [hg i hi]; exact sortB_up h i k (by omega) (by omega)) (fun hlt => by omega)]
        have hkl : k < fs.length := by omega
        have e : fs.getD k 0 = fs[k] := by simp [List.getD, hkl]
        rw [e, List.take_of_length_le (by omega : (fs.take k).length ≤ k), List.drop_of_length_le (by omega : (fs.take k).length ≤ k), List.take_succ_eq_append_getElem hkl]
    have := hall fs.length (Nat.le_refl _)
    rwa [List.take_length] at this

/-- A class looked up. -/
theorem Law.lookK {w0 w : World} {ts : List Thing} {T : TypeId} (hT : Try.prog.underlying T = some (.map 64 69)) {b n : Nat} {D : List (List Int)} {gs : List Cls} (L : Law w0 (tGr b n gs ++ ts) w) (hn : n ≤ 6)
    (H : Good n D gs) (f : List Int) (hf : f.length = n) (hkl : ∃ l, Go.keyOf Try.prog 64 (sv n (fl f)) = some l) :
    ∃ v, (Instr.lookup T (.map (some b)) (sv n (fl f)) false).run Try.prog w = .ok v w ∧ OwnS w w0.heap.size v n (byF D f) := by
  obtain ⟨es, clock, hb, hst, hkv⟩ := L.map
  have hks : ∀ e ∈ es.toList, ∃ l, Go.keyOf Try.prog 64 e.key = some l := fun e he => by
    have : (e.key, e.val) ∈ gs.map (kvG n) := by rw [← hkv]; exact List.mem_map.2 ⟨e, he, rfl⟩
    obtain ⟨g, hg, e1⟩ := List.mem_map.1 this
    simp only [kvG, Prod.mk.injEq] at e1
    rw [← e1.1]
    exact key_of hn (H.bd g hg)
  obtain ⟨kl, hkl⟩ := hkl
  rcases serLaw.find w hkl es.toList hks with ⟨f1, f2⟩ | ⟨j, e0, f1, f2, f3⟩
  · refine ⟨.slice none 0 0, by simp [Instr.lookup, run_underlying hT, MapKept.run_getObj_map hb, serLaw.check w _ hkl, f1, Result.andThen], ?_⟩
    rw [H.cover f]
    · exact OwnS.nil _ _ _
    · intro h
      obtain ⟨g, hg, e⟩ := List.mem_map.1 h
      have : kvG n g ∈ kv es := by rw [hkv]; exact List.mem_map.2 ⟨g, hg, rfl⟩
      obtain ⟨x, hx, e1⟩ := List.mem_map.1 this
      simp only [kvG, Prod.mk.injEq] at e1
      exact f2 x hx (by rw [e1.1, e])
  · refine ⟨e0.val, by simp [Instr.lookup, run_underlying hT, MapKept.run_getObj_map hb, serLaw.check w _ hkl, f1, Result.andThen], ?_⟩
    have : (e0.key, e0.val) ∈ gs.map (kvG n) := by rw [← hkv]; exact List.mem_map.2 ⟨e0, List.mem_of_getElem? f2, rfl⟩
    obtain ⟨g, hg, e1⟩ := List.mem_map.1 this
    simp only [kvG, Prod.mk.injEq] at e1
    have hgf : g.1 = f := sv_inj hn (H.len g hg) hf (by rw [e1.1, f3])
    rw [← e1.2, ← hgf, ← H.same g hg]
    obtain ⟨A, B, rfl⟩ := List.append_of_mem hg
    refine ownS_lo (ts := tMap b ((A ++ g :: B).map (kvG n)) :: (A.map (tG n) ++ B.map (tG n) ++ ts)) (L.perm ?_)
    show (tGr b n (A ++ g :: B) ++ ts).Perm (tG n g :: _)
    simp only [tGr, List.map_append, List.map_cons, List.cons_append, List.append_assoc]
    exact List.Perm.trans (List.Perm.cons _ List.perm_middle) (List.Perm.swap ..)


set_option maxRecDepth 100000 in
set_option maxHeartbeats 3200000 in
theorem implLfr_any (fs : List Int) (w : World) (hx : fs.length ≤ 1048576) (lo : Nat) (s : Value) (hO : Own w lo s fs) (hw : ∀ k, (Lit.int .i64 (fs.getD k 0)).wf = true) :
    Calls Try.prog 32 #[s] w fun e w' => AnsL (lfrR fs) w e w' := by
  obtain ⟨a, p, rfl, hr⟩ := hO.reads
  clear hO
  cases hg : (inB 1 fs.length 6 && sortB fs)
  · have hR : lfrR fs = ⟨[], false⟩ := by
      unfold lfrR
      rw [if_neg]
      intro h
      rw [Bool.and_eq_true, Bool.and_eq_true, decide_eq_true_eq, sort_same] at h
      simp [h.1, h.2.1] at hg
    rw [hR]
    have HC := Lib.hid (seriesOf_no a p fs w hx hr hg)
    clear hg hR
    go_enter Try.func32, Try.ntmps32
    go_wp2_with fail
    refine HC.out.mono ?_
    rintro e w2 ⟨rfl, hb⟩
    go_wp2_with fail
    go_ret2
    exact ⟨_, rfl, Own.nil _ _, below_on hb (below_new _)⟩
  · rw [Bool.and_eq_true] at hg
    obtain ⟨hi, hs⟩ := hg
    have h16 := inB_iff.1 hi
    have h1 : 1 ≤ fs.length := by omega
    have h6 : fs.length ≤ 6 := by omega
    have hR : lfrR fs = if clsL fs.length fs = [] then ⟨[], false⟩ else ⟨(clsL fs.length fs).getD 0 [], true⟩ := by
      unfold lfrR
      rw [hi, show decide (sortL fs = fs) = true by rw [decide_eq_true_eq, sort_same]; exact hs]
      cases clsL fs.length fs <;> simp
    rw [hR]
    have HC := Lib.hid (seriesOf_yes a p fs w hx hr hi hs)
    have HN := Lib.hid (fun W => classesOf_any fs.length W h1 h6)
    have HK := Lib.hid (fun (W0 W : World) (b : Nat) (gs : List Cls) (hg : Good fs.length (goOn fs.length fs.length 0) gs) (L : Law W0 (tGr b fs.length gs ++ []) W) => L.lookK Try.underlying71 h6 hg fs rfl (serKey _ _ (wf_small _ (by omega)) hw))
    have HRL := Lib.hid (clsL_len fs.length fs h6)
    have HRE := Lib.hid (clsL_each fs.length fs)
    have HLI := Lib.hid (fun (Q : List Int) W (hl : Q.length = fs.length) => hl ▸ list_any Q W (by omega))
    clear hw hs hi h16 hR hx
    generalize hRR : clsL fs.length fs = R at *
    rw [show byF (goOn fs.length fs.length 0) fs = R from hRR] at HK
    clear hRR
    obtain ⟨RR, hRR⟩ : ∃ RR : LR, RR = if R = [] then ⟨[], false⟩ else ⟨R.getD 0 [], true⟩ := ⟨_, rfl⟩
    rw [← hRR]
    have HRR := Lib.hid hRR
    clear hRR
    generalize goOn fs.length fs.length 0 = LL at *
    obtain ⟨F, hF⟩ : ∃ F : Nat → Int, F = fun k => fs.getD k 0 := ⟨_, rfl⟩
    rw [show fl fs = F from hF.symm] at HK
    rw [← hF] at HC
    clear hF
    go_enter Try.func32, Try.ntmps32
    go_wp2_with fail
    refine HC.out.mono ?_
    rintro e w2 ⟨rfl, hb⟩
    have L0 := ((Law.start w).kept hb).has (sl fs.length F) 64
    rw [show w2.alloc (.cells (sl fs.length F).toArray 64) = w2.alloc (.cells #[.int .i64 fs.length, .int .i64 (F 0), .int .i64 (F 1), .int .i64 (F 2), .int .i64 (F 3), .int .i64 (F 4), .int .i64 (F 5)] 64) from rfl] at L0
    have HL := Lib.hid L0
    clear hb HC L0 hr
    generalize fs.length = n at *
    go_upto_region 4 with fail
    generalize w2.alloc _ = w5 at *
    have ⟨f0, f1, f2, f3, f4, f5, f6, _⟩ := HL.out.ownHas.seven
    replace HL := Lib.hid HL.out.drew
    go_region_with ((first
      | (go_at_call 60; ((with_reducible refine (HN.out _).mono ?_); rintro e wA ⟨b, gs, rfl, hG, hM⟩; have HSZ := Lib.hid HL.out.below.size; replace HL := Lib.hid (HL.out.kept hM.below); have HG := Lib.hid hG; have HM := Lib.hid hM; clear hM hG; have ⟨f0, f1, f2, f3, f4, f5, f6, _⟩ := HL.out.ownHas.seven; have ⟨v, hlook, hO⟩ := HK.out _ _ _ _ HG.out HM.out; have HO := Lib.hid hO; clear hO))))
    all_goals
      obtain ⟨va, vp, rfl⟩ := HO.out.form
      by_cases hR0 : R = []
      · have HB := Lib.hid HL.out.below
        have HR2 := Lib.hid (show RR = ⟨[], false⟩ by rw [HRR.out, if_pos hR0])
        have hl0 : (R.length : Int) = 0 := by rw [hR0]; rfl
        clear HL HO hlook HM HG hR0 f0 f1 f2 f3 f4 f5 f6
        go_wp2_with fail
        go_ret2
        rw [HR2.out]
        exact ⟨_, rfl, Own.nil _ _, HB.out⟩
      · have hlen : 0 < R.length := List.length_pos_iff.2 hR0
        have hne : ¬ (R.length : Int) = 0 := by omega
        have hp0 : (0 : Int) < R.length := by omega
        have HR2 := Lib.hid (show RR = ⟨R[0], true⟩ by rw [HRR.out, if_neg hR0]; simp [List.getD, hlen])
        obtain ⟨g, rfl, hc⟩ := HO.out.seven 0 hlen
        have hQl := HRE.out R[0] (List.getElem_mem hlen)
        clear hlook HM HG hR0 f0 f1 f2 f3 f4 f5 f6
        have c0 := hc 0 _ rfl
        have c1 := hc 1 _ rfl
        have c2 := hc 2 _ rfl
        have c3 := hc 3 _ rfl
        have c4 := hc 4 _ rfl
        have c5 := hc 5 _ rfl
        have c6 := hc 6 _ rfl
        simp only [Nat.zero_mul, Nat.zero_add] at c0 c1 c2 c3 c4 c5 c6
        generalize R[0] = Q at *
        have HQ := Lib.hid (fun W => HLI.out Q W hQl)
        clear hc hQl
        generalize fl Q = G at *
        go_wp2_with fail
        refine (HQ.out _).mono ?_
        rintro e w6 ⟨u, rfl, hO6, hb6⟩
        have HB := Lib.hid (HL.out.below.trans (hb6.mono HL.out.below.size))
        have HO6 := Lib.hid (hO6.lower HL.out.below.size)
        clear hO6 hb6 HL HO
        go_wp2_with fail
        go_ret2
        rw [HR2.out]
        exact ⟨_, rfl, HO6.out, HB.out⟩

end Go.Proofs.Ythkghbnmdebhpab
