/- Boards turned, in both texts. No condition but the sizes. -/
import Derived.Test.YtakdiiccdkjjcaaJ
import Derived.Test.YtakdiiccdkjjcaaMf
import Derived.IntWalk
namespace Go.Proofs.Ytakdiiccdkjjcaa
open Go.RowKit Go.WideShapes

/-- A row of two numbers, as a walk meets it. -/
theorem OwnM.pair {w : World} {lo : Nat} {v : Value} {vs : List Value} {rss : List (List Int)} (h : OwnM w lo v vs rss) (k : Nat) (hk : k < vs.length) (x y : Int) (he : rss[k]? = some [x, y]) :
    ∃ g cp, vs[k] = .slice (some ⟨g, 0, none⟩) 2 cp ∧ w.cell? ⟨g, 0, none⟩ = some (.int .i64 x) ∧ w.cell? ⟨g, 1, none⟩ = some (.int .i64 y) := by
  have hr := h.row k hk
  have hk2 : k < rss.length := by rw [h.len]; exact hk
  have e : rss[k] = [x, y] := by rw [List.getElem?_eq_getElem hk2] at he; injection he
  rw [e] at hr
  rcases hr.cases with ⟨_, h2⟩ | ⟨g, cp, hv, _⟩
  · cases h2
  · rw [hv] at hr
    exact ⟨g, cp, hv, hr.cell 0 (by simp), hr.cell 1 (by simp)⟩
theorem pow_facts (a : Nat) (ha : a < 6) : ∃ P : Int, P = 2 ^ a ∧ IntKind.i64.wrap (2 ^ a) = P ∧ wrap64 (2 ^ a) = P ∧ 0 ≤ P ∧ P ≤ 32 := by
  have key : ∀ a : Fin 6, IntKind.i64.wrap (2 ^ (a : Nat)) = 2 ^ (a : Nat) ∧ wrap64 (2 ^ (a : Nat)) = 2 ^ (a : Nat) ∧ (0 : Int) ≤ 2 ^ (a : Nat) ∧ (2 : Int) ^ (a : Nat) ≤ 32 := by decide +kernel
  obtain ⟨h1, h2, h3, h4⟩ := key ⟨a, ha⟩
  exact ⟨_, rfl, h1, h2, h3, h4⟩

theorem sum_in (x P : Int) (h : 0 ≤ x ∧ x ≤ 2000) (h3 : 0 ≤ P) (h4 : P ≤ 32) : IntKind.i64.wrap (x + P) = x + P := IntWalk.i64_in _ (by omega)

set_option maxRecDepth 100000 in
set_option maxHeartbeats 6400000 in
theorem boTurn_any (n m : Nat) (xs : List Int) (w : World) (hx : xs.length ≤ 1048576) (hg : goodB n m xs = true) (lo : Nat) (s : Value) (hO : Own w lo s xs) :
    Calls Try.prog 92 #[.agg #[.int .i64 n, .int .i64 m, s]] w fun e w' => ∃ v, e = .returned (.agg #[.int .i64 m, .int .i64 n, v]) ∧ Own w' w.heap.size v (turnL xs n m) ∧ Below w.heap.size w w' := by
  obtain ⟨⟨g1l, g1h⟩, ⟨g2l, g2h⟩, g3, _⟩ := good_facts hg
  have L0 := ((Law.start w).box (.int .i64 n) (.int .i64 m) s 28).box (.int .i64 0) (.int .i64 0) (.slice none 0 0) 28
  have hO0 := hO.kept L0.below
  simp only [World.size_alloc] at L0
  obtain ⟨a, cap, hs, _⟩ := hO.reads
  subst hs
  have ⟨_, k0, k1, k2, _⟩ := L0.tl.ownBox
  have HG := Lib.hid hg
  clear hO hg
  go_enter Try.func92, Try.ntmps92
  go_wp2_with fail
  refine (boEmpty_any m n _ (by omega)).mono ?_
  rintro e w1 ⟨s1, rfl, hE, hb⟩
  rcases hE.cases with ⟨_, h0⟩ | ⟨g, p1, hv, _⟩
  · have : m = 0 := by simpa using congrArg List.length h0
    omega
  · subst hv
    rw [List.length_replicate] at *
    have L1 := (L0.own hb hE).box (.int .i64 m) (.int .i64 n) (.slice (some ⟨g, 0, none⟩) m p1) 28
    have hO1 := (hO0.kept hb).kept (below_new (.cells #[.int .i64 m, .int .i64 n, .slice (some ⟨g, 0, none⟩) m p1] 28))
    have hz1 := hb.size
    simp only [World.size_alloc] at hz1
    have ⟨_, m0, m1, m2, _⟩ := L1.tl.tl.tl.ownBox
    have HL := Lib.hid L1
    clear L0 L1 hO0 hE hb k0 k1 k2
    go_upto_region 2 with fail
    generalize w1.alloc (.cells #[.int .i64 m, .int .i64 n, .slice (some ⟨g, 0, none⟩) m p1] 28) = w5 at *
    go_wp2_with fail
    refine (boCells_any n m xs _ hx HG.out lo _ hO1).mono ?_
    rintro e w2 ⟨v, vs, rfl, hM, hb⟩
    have L2 := HL.out.addM hb hM
    obtain ⟨aa, cp, rfl, _⟩ := hM.form
    have HVL := Lib.hid (show vs.length = (cellsP xs n m).length by rw [← hM.len, cellsL_eq, List.length_map])
    have hvl : vs.length ≤ 42 := by have := HVL.out; have := cellsP_len xs n m (by omega) (by omega); omega
    have HL2 := Lib.hid L2
    clear L2 HL hO1 hM hb m0 m1 m2
    go_wp2_with fail
    go_loopw [14] (fun i wr => ∃ k : Nat, k ≤ vs.length ∧ i = .int .i64 k ∧ Law w [tM (.slice aa vs.length cp) vs (cellsL xs n m), tBox w1.heap.size (.int .i64 m) (.int .i64 n) (.slice (some ⟨g, 0, none⟩) m p1), tOwn (.slice (some ⟨g, 0, none⟩) m p1) (tally (fun c => c.2) (fun c => 2 ^ c.1) (List.replicate m 0) ((cellsP xs n m).take k)), tBox (w.heap.size + 1) (.int .i64 0) (.int .i64 0) (.slice none 0 0), tBox w.heap.size (.int .i64 n) (.int .i64 m) (.slice a xs.length cap)] wr) (fun i _ => vs.length - (intOf i).toNat)
    case atStart => exact ⟨0, Nat.zero_le _, rfl, HL2.out⟩
    case round =>
      clear HL2
      obtain ⟨k, hk, rfl, L⟩ := hrel
      have ⟨_, m0, m1, m2, _⟩ := L.tl.ownBox
      by_cases hlt : k < vs.length
      · have hkc : k < (cellsP xs n m).length := by have := HVL.out; omega
        obtain ⟨hc1, hc2⟩ := cellsP_mem xs n m _ (List.getElem_mem hkc)
        have hnx := tally_next (fun c => c.2) (fun c => 2 ^ c.1) (cellsP xs n m) (List.replicate m 0) k hkc
        have hel : (cellsL xs n m)[k]? = some [((cellsP xs n m)[k].1 : Int), ((cellsP xs n m)[k].2 : Int)] := by rw [cellsL_eq, List.getElem?_map, List.getElem?_eq_getElem hkc]; rfl
        have hbd : 0 ≤ (tally (fun c => c.2) (fun c => 2 ^ c.1) (List.replicate m 0) ((cellsP xs n m).take k)).getD (cellsP xs n m)[k].2 0 ∧ (tally (fun c => c.2) (fun c => 2 ^ c.1) (List.replicate m 0) ((cellsP xs n m).take k)).getD (cellsP xs n m)[k].2 0 ≤ 2000 := by
          rw [tally_get _ _ _ _ _ (by simpa using hc2)]
          have e : (List.replicate m (0 : Int)).getD (cellsP xs n m)[k].2 0 = 0 := by simp [List.getD, hc2]
          have := contrib_bd (fun c : Nat × Nat => c.2) (fun c => (2 : Int) ^ c.1) (cellsP xs n m)[k].2 32 ((cellsP xs n m).take k) (fun c hc => by
            have hm := cellsP_mem xs n m c ((List.take_sublist _ _).subset hc)
            obtain ⟨P, hP, _, _, h3, h4⟩ := pow_facts c.1 (by omega)
            rw [← hP]; exact ⟨h3, h4⟩)
          have hl : ((cellsP xs n m).take k).length ≤ 42 := by simp; omega
          omega
        generalize (cellsP xs n m)[k].1 = ca at *
        generalize (cellsP xs n m)[k].2 = cb at *
        obtain ⟨aa', cp', hv', hcl⟩ := L.ownM.form
        obtain ⟨gv, hgv, hcv⟩ := hcl k hlt
        obtain ⟨gr, cr, hvr, hr0, hr1⟩ := L.ownM.pair k hlt _ _ hel
        rw [hvr] at hcv
        injection hv' with ha hb hc
        subst ha
        subst hgv
        have hol : (tally (fun c => c.2) (fun c => 2 ^ c.1) (List.replicate m 0) ((cellsP xs n m).take k)).length = m := by rw [tally_len]; simp
        have hOk := L.tl.tl.ownInts
        have hcz := Own.cell (by rw [hol]; exact hOk) cb (by omega)
        have hfz := Own.free (by rw [hol]; exact hOk) cb
        obtain ⟨P, hP, hp1, hp2, hp3, hp4⟩ := pow_facts ca (by omega)
        obtain ⟨x, hx'⟩ : ∃ x : Int, (tally (fun c => c.2) (fun c => 2 ^ c.1) (List.replicate m 0) ((cellsP xs n m).take k)).getD cb 0 = x := ⟨_, rfl⟩
        rw [hx'] at hcz hbd
        have hS := (Law.store (ts := [_, _]) L hol cb (x + P)).drew
        have hnx := hnx x hx'
        rw [← hP] at hnx
        rw [hnx] at hS
        have HS := Lib.hid hS
        have hs1 := sum_in x P hbd hp3 hp4
        have hbm : (cb : Int) < m := by omega
        have ham : (ca : Int) < 64 := by omega
        clear L hS hnx hOk hol hel hvr hcl hb hc hx' hP
        go_wp2_with fail
        go_region
        go_wp2_with fail
        go_roundw
        case rel => exact ⟨k + 1, by omega, by go_num, HS.out⟩
        case measure => simp [intOf]; omega
      · obtain rfl : k = vs.length := by omega
        have ⟨_, n0, n1, n2, nf⟩ := L.tl.tl.tl.ownBox
        have hfin := L.tl.tl.fin3 (n := w.heap.size + 1) (x := .int .i64 0) (y := .int .i64 0) (z := .slice none 0 0) (by simp) (.int .i64 m) (.int .i64 n) (.slice (some ⟨g, 0, none⟩) m p1)
        rw [HVL.out, List.take_length, turn_tally xs n m (by omega)] at hfin
        have HF := Lib.hid hfin
        clear L hfin
        go_wp2_with fail
        exact bodyPost_ret (v := .agg #[.int .i64 m, .int .i64 n, .slice (some ⟨g, 0, none⟩) m p1]) (by simp [results, Try.results92, go_sem, n0, n1, n2]) rfl ⟨_, rfl, HF.out.1, HF.out.2⟩

end Go.Proofs.Ytakdiiccdkjjcaa
