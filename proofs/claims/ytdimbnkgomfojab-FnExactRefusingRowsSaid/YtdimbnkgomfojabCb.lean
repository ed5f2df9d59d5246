/- The lack, in the program. No condition but the sizes. -/
import Derived.Test.YtdimbnkgomfojabCa
import Derived.Test.YtdimbnkgomfojabQv
import Derived.Test.YtdimbnkgomfojabQy
namespace Go.Proofs.Ytdimbnkgomfojab
open Go.RowKit Go.WideShapes

theorem Has.one1 {w : World} {b : Nat} {v : Value} {t : TypeId} (h : Has w b [v] t) : w.cell? ⟨b, 0, none⟩ = some v ∧ w.frozen? ⟨b, 0, none⟩ = false := ⟨h.cell 0, h.free 0⟩

set_option maxRecDepth 100000 in
set_option maxHeartbeats 1600000 in
theorem lack1_any (n m : Int) (M : Nat → Int) (bg bl g cp : Nat) (lk : Int) (R : List Int) (w : World) (hx : R.length ≤ 1048576) (hr : Reads w (some ⟨g, 0, none⟩) R.length R) (hR : rowsIn R) (hM : ∀ k, k < 6 → 0 ≤ M k ∧ M k < 64)
    (HG : Has w bg (gl n m M) 68) (HL : Has w bl [.int .i64 lk] 3) :
    Calls Try.prog 115 (#[.slice (some ⟨g, 0, none⟩) R.length cp] ++ #[.pointer (some ⟨bg, 0, none⟩), .pointer (some ⟨bl, 0, none⟩)]) w fun e w' => e = .returned (.bool (decide (lk < (R.length : Int) - pop (orM M R : Nat)))) ∧ Below w.heap.size w w' := by
  have HE := Lib.hid (fun W (h : Reads W (some ⟨g, 0, none⟩) R.length R) => excess_any n m M (some ⟨g, 0, none⟩) cp R W hx h hR hM)
  obtain ⟨e0, e1, e2, e3, e4, e5, e6, e7, _⟩ := HG.drew.eight
  have z0 := HL.drew.one1.1
  have HRR := Lib.hid (show Reads w.drew (some ⟨g, 0, none⟩) R.length R from hr.kept (Below.refl _ _).drew)
  have HB := Lib.hid (show Below w.heap.size w w.drew from (Below.refl _ _).drew)
  obtain ⟨x, hx2⟩ : ∃ x, x = (R.length : Int) - pop (orM M R : Nat) := ⟨_, rfl⟩
  rw [← hx2] at HE ⊢
  clear hx2 hr HG HL hR hM
  go_enter Try.func115, Try.ntmps115
  go_upto_region 1 with fail
  go_region_held3 (fun w' => w'.cell? ⟨bg, 0, none⟩ = some (.int .i64 n) ∧ w'.cell? ⟨bg, 1, none⟩ = some (.int .i64 m) ∧ w'.cell? ⟨bg, 2, none⟩ = some (.int .i64 (M 0)) ∧ w'.cell? ⟨bg, 3, none⟩ = some (.int .i64 (M 1)) ∧ w'.cell? ⟨bg, 4, none⟩ = some (.int .i64 (M 2)) ∧ w'.cell? ⟨bg, 5, none⟩ = some (.int .i64 (M 3)) ∧ w'.cell? ⟨bg, 6, none⟩ = some (.int .i64 (M 4)) ∧ w'.cell? ⟨bg, 7, none⟩ = some (.int .i64 (M 5)) ∧ w'.cell? ⟨bl, 0, none⟩ = some (.int .i64 lk)) (first | (repeat' apply And.intro) <;> first | with_reducible assumption | assumption | exact cell_later (below_new _) (by assumption)) ((first
    | (go_at_call 82; ((with_reducible refine (HE.out _ HRR.out).mono ?_); rintro e wA ⟨rfl, hb⟩; replace HB := Lib.hid (below_on HB.out hb); replace z0 := cell_later hb z0; replace e0 := cell_later hb e0; replace e1 := cell_later hb e1; replace e2 := cell_later hb e2; replace e3 := cell_later hb e3; replace e4 := cell_later hb e4; replace e5 := cell_later hb e5; replace e6 := cell_later hb e6; replace e7 := cell_later hb e7; clear hb))
    | fail))
  all_goals
    clear z0 e0 e1 e2 e3 e4 e5 e6 e7
    go_wp2_with fail
    go_ret
    exact ⟨rfl, HB.out⟩

set_option maxRecDepth 100000 in
set_option maxHeartbeats 1600000 in
theorem lack2_any (n m : Int) (M : Nat → Int) (bg bl g cp : Nat) (lk : Int) (R : List Int) (w : World) (hx : R.length ≤ 1048576) (hr : Reads w (some ⟨g, 0, none⟩) R.length R) (hR : rowsIn R) (hM : ∀ k, k < 6 → 0 ≤ M k ∧ M k < 64) (hd : bg ≠ bl)
    (HG : Has w bg (gl n m M) 68) (HL : Has w bl [.int .i64 lk] 3) :
    Calls Try.prog 116 (#[.slice (some ⟨g, 0, none⟩) R.length cp] ++ #[.pointer (some ⟨bg, 0, none⟩), .pointer (some ⟨bl, 0, none⟩)]) w fun e w' => e = .returned (.bool true) ∧ Has w' bg (gl n m M) 68 ∧ Has w' bl [.int .i64 ((R.length : Int) - pop (orM M R : Nat))] 3 ∧ Chg (fun b => b = bl) w w' := by
  have HE := Lib.hid (excess_any n m M (some ⟨g, 0, none⟩) cp R w hx hr hR hM)
  obtain ⟨e0, e1, e2, e3, e4, e5, e6, e7, _⟩ := HG.eight
  have HHG := Lib.hid HG
  have HHL := Lib.hid HL
  obtain ⟨x, hx2⟩ : ∃ x, x = (R.length : Int) - pop (orM M R : Nat) := ⟨_, rfl⟩
  rw [← hx2] at HE ⊢
  clear hx2 hr HG HL hR hM
  go_enter Try.func116, Try.ntmps116
  go_wp2_with fail
  refine HE.out.mono ?_
  rintro e w2 ⟨rfl, hb⟩
  have hG2 := HHG.out.kept hb HHG.out.lt
  have hL2 := HHL.out.kept hb HHL.out.lt
  obtain ⟨z0, z1⟩ := hL2.one1
  have hS := hL2.set 0 (.int .i64 x)
  have HF := Lib.hid (show Has (w2.setCell ⟨bl, 0, none⟩ (.int .i64 x)) bg (gl n m M) 68 ∧ Has (w2.setCell ⟨bl, 0, none⟩ (.int .i64 x)) bl [.int .i64 x] 3 ∧ Chg (fun b => b = bl) w (w2.setCell ⟨bl, 0, none⟩ (.int .i64 x)) from
    ⟨hG2.other _ (fun e => hd e.symm) _, hS, (Chg.of_below hb).trans ⟨rfl, rfl, rfl, by simp [World.setCell], fun k _ hf => Below.heap_setCell w2 ⟨bl, 0, none⟩ _ k hf⟩⟩)
  clear hG2 hL2 hS hb HHG HHL e0 e1 e2 e3 e4 e5 e6 e7
  go_wp2_with fail
  go_ret
  exact ⟨rfl, HF.out⟩

set_option maxRecDepth 100000 in
set_option maxHeartbeats 3200000 in
theorem lackG_any (n m : Nat) (xs : List Int) (M : Nat → Int) (w : World) (hn : n ≤ 6) (hm : m ≤ 6) (hf : fitM xs n m) (hMx : ∀ k, k < n → M k = xs.getD k 0) (hM : ∀ k, k < 6 → 0 ≤ M k ∧ M k < 64) :
    Calls Try.prog 86 #[gv n m M] w fun e w' => e = .returned (.int .i64 (lackN xs n m)) ∧ Below w.heap.size w w' := by
  have hrd : ∀ {W : World} {lo g cp : Nat} {R : List Int}, Own W lo (.slice (some ⟨g, 0, none⟩) R.length cp) R → Reads W (some ⟨g, 0, none⟩) R.length R := fun h => own_readsQ h rfl
  have hsr : ∀ j R, (sets n)[j]? = some R → R.length ≤ 1048576 ∧ rowsIn R ∧ (R.length : Int) - pop (orM M R : Nat) = excS xs n m R := fun j R h => by
    have hmem := List.mem_of_getElem? h
    have := sets_short n hn R hmem
    have h2 := sets_rows n hn R hmem
    exact ⟨by omega, rowsIn_of hn h2, excS_pop xs M n m hm hf hMx R h2⟩
  have hsearch : ∀ (W : World) (bg bl : Nat), Has W bg (gl n m M) 68 → Has W bl [.int .i64 0] 3 → bg ≠ bl →
      Calls Try.prog 84 #[.agg #[.func (.func 115) #[] #[.pointer (some ⟨bg, 0, none⟩), .pointer (some ⟨bl, 0, none⟩)], .func (.func 116) #[] #[.pointer (some ⟨bg, 0, none⟩), .pointer (some ⟨bl, 0, none⟩)]], .int .i64 n] W fun e w' => e = .returned (.tuple #[]) ∧ Has w' bl [.int .i64 (lackN xs n m)] 3 ∧ Chg (fun b => b = bl) W w' := by
    intro W bg bl hG hL hd
    have h := among_any n 115 116 #[.pointer (some ⟨bg, 0, none⟩), .pointer (some ⟨bl, 0, none⟩)] #[.pointer (some ⟨bg, 0, none⟩), .pointer (some ⟨bl, 0, none⟩)] (fun b => b = bl)
      (fun j w' => Has w' bg (gl n m M) 68 ∧ Has w' bl [.int .i64 (lackU xs n m j)] 3) (wantL xs n m) (fun _ => true) W hn
      (fun b hb => by rw [hb]; exact hL.lt) (fun j w1 w2 hb hi => ⟨hi.1.kept hb hi.1.lt, hi.2.kept hb hi.2.lt⟩) (fun _ _ => by kernel_rfl) (fun _ _ => by kernel_rfl)
      (fun j w1 _ hj hi => by rw [wantL_no xs n m j hj]; exact hi)
      (fun j R hjR _ w1 g cp hi hO => by
        obtain ⟨h1, h2, h3⟩ := hsr j R hjR
        have := lack1_any n m M bg bl g cp (lackU xs n m j) R w1 h1 (hrd hO) h2 hM hi.1 hi.2
        rw [h3] at this
        rw [show wantL xs n m j = decide (lackU xs n m j < excS xs n m R) by unfold wantL; rw [setA_of hjR]]
        exact this)
      (fun j R hjR _ hj w1 g cp hi hO => by
        obtain ⟨h1, h2, h3⟩ := hsr j R hjR
        have := lack2_any n m M bg bl g cp (lackU xs n m j) R w1 h1 (hrd hO) h2 hM hd hi.1 hi.2
        rw [h3, ← wantL_yes xs n m j R hjR hj] at this
        exact this.mono (fun e w' h => ⟨h.1, ⟨h.2.1, h.2.2.1⟩, h.2.2.2⟩))
      ⟨hG, hL⟩
    rw [runW_all _ (fun j => by simp)] at h
    exact h.mono (fun e w' h => ⟨h.1, h.2.1.2, h.2.2⟩)
  have HS := Lib.hid hsearch
  have L0 := ((Law.start w).has (gl n m M) 68).has [.int .i64 0] 3
  simp only [World.size_alloc] at L0
  rw [show (gl n m M).toArray = #[.int .i64 n, .int .i64 m, .int .i64 (M 0), .int .i64 (M 1), .int .i64 (M 2), .int .i64 (M 3), .int .i64 (M 4), .int .i64 (M 5)] from rfl, show ([.int .i64 0] : List Value).toArray = #[.int .i64 0] from rfl] at L0
  have HL := Lib.hid L0
  clear L0 hsearch hsr hrd hf hMx hM
  generalize lackN xs n m = y at *
  go_enter Try.func86, Try.ntmps86
  go_upto_region 2 with fail
  generalize (w.alloc (.cells #[.int .i64 n, .int .i64 m, .int .i64 (M 0), .int .i64 (M 1), .int .i64 (M 2), .int .i64 (M 3), .int .i64 (M 4), .int .i64 (M 5)] 68)).alloc (.cells #[.int .i64 0] 3) = w5 at *
  have L1 := HL.out.has [.func (.func 115) #[] #[.pointer (some ⟨w.heap.size, 0, none⟩), .pointer (some ⟨w.heap.size + 1, 0, none⟩)], .func (.func 116) #[] #[.pointer (some ⟨w.heap.size, 0, none⟩), .pointer (some ⟨w.heap.size + 1, 0, none⟩)]] 87
  rw [show ([.func (.func 115) #[] #[.pointer (some ⟨w.heap.size, 0, none⟩), .pointer (some ⟨w.heap.size + 1, 0, none⟩)], .func (.func 116) #[] #[.pointer (some ⟨w.heap.size, 0, none⟩), .pointer (some ⟨w.heap.size + 1, 0, none⟩)]] : List Value).toArray = #[.func (.func 115) #[] #[.pointer (some ⟨w.heap.size, 0, none⟩), .pointer (some ⟨w.heap.size + 1, 0, none⟩)], .func (.func 116) #[] #[.pointer (some ⟨w.heap.size, 0, none⟩), .pointer (some ⟨w.heap.size + 1, 0, none⟩)]] from rfl] at L1
  have HL1 := Lib.hid L1
  clear L1 HL
  go_upto_region 3 with fail
  generalize w5.alloc (.cells #[.func (.func 115) #[] #[.pointer (some ⟨w.heap.size, 0, none⟩), .pointer (some ⟨w.heap.size + 1, 0, none⟩)], .func (.func 116) #[] #[.pointer (some ⟨w.heap.size, 0, none⟩), .pointer (some ⟨w.heap.size + 1, 0, none⟩)]] 87) = w6 at *
  have f0 := HL1.out.ownHas.cell 0
  have f1 := HL1.out.ownHas.cell 1
  simp only [List.getElem?_cons_zero, List.getElem?_cons_succ] at f0 f1
  have ⟨e0, _⟩ := HL1.out.tl.tl.ownHas.eight
  have hc := HS.out w6 w.heap.size (w.heap.size + 1) HL1.out.tl.tl.ownHas HL1.out.tl.ownHas (by omega)
  have HC := Lib.hid hc
  have HB := Lib.hid HL1.out.below
  clear hc HS HL1
  go_wp2_with fail
  refine HC.out.mono ?_
  rintro e w7 ⟨rfl, hl, hch⟩
  have hl0 := hl.one1.1
  have HF := Lib.hid (show Below w.heap.size w w7 from ⟨hch.os.trans HB.out.os, hch.tape.trans HB.out.tape, hch.output.trans HB.out.output, Nat.le_trans HB.out.size hch.size, fun b hb => (hch.block b (Nat.lt_of_lt_of_le hb HB.out.size) (by omega)).trans (HB.out.block b hb)⟩)
  clear hl hch HC HB e0 f0 f1
  go_wp2_with fail
  go_ret
  exact ⟨rfl, HF.out⟩

set_option maxRecDepth 100000 in
set_option maxHeartbeats 1600000 in
theorem implLack_any (r c : Int) (xs : List Int) (w : World) (hx : xs.length ≤ 1048576) (lo : Nat) (s : Value) (hO : Own w lo s xs) :
    Calls Try.prog 49 #[.agg #[.int .i64 r, .int .i64 c, s]] w fun e w' => AnsIO (lackR r c xs) w e w' := by
  have L0 := (Law.start w).box (.int .i64 r) (.int .i64 c) s 28
  obtain ⟨a, cap, rfl, hr⟩ := hO.reads
  have hr0 := L0.reads hr
  clear hO
  cases hg : goodB r c xs
  · rw [show lackR r c xs = ⟨0, false⟩ by simp [lackR, hg]]
    go_enter Try.func49, Try.ntmps49
    go_wp2_with fail
    refine (gridOf_no r c a cap xs _ hx hr0 hg).mono ?_
    rintro e w1 ⟨rfl, hb⟩
    have HB := Lib.hid (((L0.kept hb).kept (below_new (.cells #[.int .i64 0, .int .i64 0, .int .i64 0, .int .i64 0, .int .i64 0, .int .i64 0, .int .i64 0, .int .i64 0] 68))).below)
    clear L0 hb hg hr0
    go_wp2_with fail
    go_ret2
    exact ⟨rfl, HB.out⟩
  · obtain ⟨g1, g2, g3, _⟩ := good_facts hg
    obtain ⟨n, rfl⟩ := Int.eq_ofNat_of_zero_le (show 0 ≤ r by omega)
    obtain ⟨m, rfl⟩ := Int.eq_ofNat_of_zero_le (show 0 ≤ c by omega)
    obtain ⟨M, hM, hc⟩ := gridOf_good n m a cap xs _ hx hr0 hg
    have hgc := good_cell hg
    have hMb : ∀ k, k < 6 → 0 ≤ M k ∧ M k < 64 := fun k _ => by rw [hM]; exact hgc k
    rw [show lackR n m xs = ⟨lackN xs n m, true⟩ by simp [lackR, hg]]
    have HC := Lib.hid hc
    have HK := Lib.hid (fun W => lackG_any n m xs M W (by omega) (by omega) (fit_good hg) (fun k _ => hM k) hMb)
    clear hg hr0 hc hM hMb hgc
    generalize lackN xs n m = y at *
    go_enter Try.func49, Try.ntmps49
    go_wp2_with fail
    refine HC.out.mono ?_
    rintro e w1 ⟨rfl, hb⟩
    have HL := Lib.hid ((L0.kept hb).has (gl n m M) 68)
    clear L0 hb HC
    rw [show w1.alloc (.cells (gl n m M).toArray 68) = w1.alloc (.cells #[.int .i64 n, .int .i64 m, .int .i64 (M 0), .int .i64 (M 1), .int .i64 (M 2), .int .i64 (M 3), .int .i64 (M 4), .int .i64 (M 5)] 68) from rfl] at HL
    go_wp2_with fail
    refine (HK.out _).mono ?_
    rintro e w2 ⟨rfl, hb⟩
    have HB := Lib.hid (HL.out.kept hb).below
    clear HL hb HK
    go_wp2_with fail
    go_ret2
    exact ⟨rfl, HB.out⟩

end Go.Proofs.Ytdimbnkgomfojab
