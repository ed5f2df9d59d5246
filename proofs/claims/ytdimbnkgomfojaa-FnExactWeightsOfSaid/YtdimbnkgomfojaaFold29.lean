import Derived.Test.YtdimbnkgomfojaaFold28
import Derived.Test.YtdimbnkgomfojaaFold23
import Derived.Test.YtdimbnkgomfojaaFold27

section
namespace Go.Proofs.Ytdimbnkgomfojaa
open Go.RowKit Go.WideShapes

theorem shK_at (xs : List Int) (L N : Nat) (hL : L ≤ N) (h0 : ∀ j, L ≤ j → j < N → xs.getD j 0 = 0) (h1 : 0 < L → xs.getD (L - 1) 0 ≠ 0) : shK xs N = L := by
  induction N with
  | zero => rw [shK]; omega
  | succ N ih =>
    rw [shK]
    by_cases e : L = N + 1
    · have := h1 (by omega)
      rw [show L - 1 = N by omega] at this
      rw [if_neg this]
      omega
    · rw [if_pos (h0 N (by omega) (by omega))]
      exact ih (by omega) (fun j a b => h0 j a (by omega))
theorem list_of_getD (xs ys : List Int) (h : xs.length = ys.length) (hg : ∀ k, k < ys.length → xs.getD k 0 = ys.getD k 0) : xs = ys := by
  refine List.ext_getElem h (fun k h1 h2 => ?_)
  have := hg k h2
  simpa [List.getD, h1, h2] using this
/-- The counts of all placements are the weights, and zeros behind them. -/
theorem cntW_all (xs : List Int) (hg : lenB xs = true) (k N : Nat) (hN : N = celN xs xs.length + 1) (LL : List (List Int)) (hLL : LL = pl xs.length (bLen xs) xs.length 0 0 k) :
    shK (lstI N (cntW xs LL LL.length)) N = (wts xs xs.length k).length ∧ lstI N (cntW xs LL LL.length) = wts xs xs.length k ++ (lstI N (cntW xs LL LL.length)).drop (wts xs xs.length k).length ∧ (wts xs xs.length k).length ≤ N := by
  obtain ⟨l1, l2, l3, l4, l5⟩ := len_facts hg
  have hlen := wts_len_le xs (fun k => (l3 k).1) xs.length k
  have hget : ∀ e, e < N → (lstI N (cntW xs LL LL.length)).getD e 0 = (wts xs xs.length k).getD e 0 := fun e he => by
    rw [lstI_get N _ e he, cntW, List.take_length, hLL]
    exact gW_wts xs hg k e
  have hcan := wts_can xs xs.length k
  refine ⟨shK_at _ _ _ (by omega) (fun j a b => by rw [hget j b, getD_far _ _ a]) (fun h => by rw [hget _ (by omega)]; have := hcan.last h; omega), ?_, by omega⟩
  have ht : (lstI N (cntW xs LL LL.length)).take (wts xs xs.length k).length = wts xs xs.length k := by
    refine list_of_getD _ _ (by rw [List.length_take, lstI_len]; omega) (fun e he => ?_)
    rw [← hget e (by omega), List.getD_eq_getElem?_getD, List.getD_eq_getElem?_getD, List.getElem?_take, if_pos he]
  conv => lhs; rw [← List.take_append_drop (wts xs xs.length k).length (lstI N (cntW xs LL LL.length)), ht]

theorem own_raise {w : World} {lo lo' : Nat} {n p : Nat} {xs : List Int} {v : Value} (h : Own w lo v xs) (g : Nat) (hv : v = .slice (some ⟨g, 0, none⟩) n p) (hl : lo' ≤ g) : Own w lo' v xs := by
  refine ⟨h.1, ?_⟩
  rcases h.2 with h1 | ⟨g2, cap, cur, e, hb, r⟩
  · exact .inl h1
  · rw [hv] at e
    injection e with e1 e2 e3
    injection e1 with e1
    injection e1 with e1
    subst e1
    exact .inr ⟨g, cap, cur, by rw [hv, e2, e3], hl, r⟩
set_option maxHeartbeats 800000 in
theorem clip_any (g n p : Nat) (w : World) (hp : n ≤ p) : Calls Try.prog 126 #[.slice (some ⟨g, 0, none⟩) n p] w fun e w' => e = .returned (.slice (some ⟨g, 0, none⟩) n n) ∧ w' = w := by
  have h0 : (0 : Int) ≤ n := by omega
  have h1 : (n : Int) ≤ p := by omega
  go_enter Try.func126, Try.ntmps126
  go_wp2_with fail
  go_ret
  exact ⟨rfl, rfl⟩
theorem cellsN (c N : Nat) (h : N = c + 1) (hc : c ≤ 6 * 6) : wrap64 ((c : Int) + 1) = (N : Int) ∧ IntKind.i64.wrap ((c : Int) + 1) = (N : Int) ∧ N ≤ 1000 := by
  subst h
  push_cast
  exact ⟨IntWalk.wrap64_in _ (by omega), IntWalk.i64_in _ (by omega), by omega⟩
set_option maxRecDepth 100000 in
set_option maxHeartbeats 6400000 in
theorem weightsOf_any (n k : Nat) (xs : List Int) (M : Nat → Int) (w : World) (hn : xs.length = n) (hM : ∀ k, M k = xs.getD k 0) (hg : lenB xs = true) (hk : k ≤ 6) :
    Calls Try.prog 96 #[sv n M, .int .i64 k] w fun e w' => ∃ g q zs, e = .returned (.slice (some ⟨g, 0, none⟩) (wts xs n k).length (wts xs n k).length) ∧ Own w' w.heap.size (.slice (some ⟨g, 0, none⟩) ((wts xs n k) ++ zs).length q) ((wts xs n k) ++ zs) ∧ Below w.heap.size w w' := by
  obtain ⟨l1, l2, l3, l4, l5⟩ := len_facts hg
  have hn6 : n ≤ 6 := by omega
  have hBM := bM_msk xs M n hn hM (fun k => (l3 k).1)
  have hplr := pl_rows n (bLen xs) n 0 0 k
  have hplv := pl_vals n (bLen xs) n 0 0 k
  have hpll := pl_len n (bLen xs) n 0 0 k
  have hplw := wR_le n hn6 (bLen xs) n 0 0 k
  have h7 := pow_le6 n hn6
  have hfl := freeW_le xs n n 0 0 k
  have hce := celN_le xs l3 n
  have hms : ∀ k, k < 6 → 0 ≤ mskG M n k ∧ mskG M n k < 64 := fun k _ => by
    unfold mskG
    split
    · have := pw_bd (by rw [hM]; exact l3 k : 0 ≤ M k ∧ M k ≤ 6)
      omega
    · omega
  obtain ⟨N, hN⟩ : ∃ N, N = celN xs n + 1 := ⟨_, rfl⟩
  obtain ⟨LL, hLL⟩ : ∃ LL, LL = pl n (bLen xs) n 0 0 k := ⟨_, rfl⟩
  have hlenLL : LL.length = wR n (bLen xs) n 0 0 k := by rw [hLL]; exact hpll
  have hall := cntW_all xs hg k N (by rw [hn]; exact hN) LL (by rw [hn]; exact hLL)
  rw [hn] at hall
  have HALL := Lib.hid hall
  have HCELL := Lib.hid (fun W => cells_any n xs M W hn hn6 hM l3)
  have HGR := Lib.hid (fun W => serGrid_any n M W hn6 (fun k => by rw [hM]; exact l3 k))
  have hmk : ∀ w, (Instr.makeSlice 22 (.int .i64 (N : Int)) (.int .i64 (N : Int))).run Try.prog w = .ok (.slice (some ⟨w.heap.size, 0, none⟩) N N) (w.alloc (.cells (madeCells #[.int .i64 0] N) 3)) := by
    intro w
    exact run_make_row' (P := Try.prog) 22 3 (.int .i64 0) 8 Try.underlying22 Try.infoI rfl .i64 .i64 N (by omega) (by omega) w
  have hvis : ∀ (bw bs g : Nat), bw ≠ g → bs ≠ g → ∀ j P, LL[j]? = some P → ∀ W, InvW bw bs g N n M xs LL j W → Calls Try.prog 124 (#[pv6 (plF P n)] ++ #[.pointer (some ⟨bw, 0, none⟩), .pointer (some ⟨bs, 0, none⟩)]) W fun e w' => e = .returned (.bool true) ∧ InvW bw bs g N n M xs LL (j + 1) w' ∧ Chg (fun b => b = g) W w' := fun bw bs g h1 h2 j P hP W hI => by
    have hPm : P ∈ pl n (bLen xs) n 0 0 k := by rw [← hLL]; exact List.mem_of_getElem? hP
    have hPl := hplr P hPm
    have hPv := hplv P hPm
    have hPf := hfl P hPm
    have hval : ∀ i, i < n → P.getD i 0 = -1 ∨ (0 ≤ P.getD i 0 ∧ P.getD i 0 < xs.getD i 0) := fun i hi => by
      rcases hPv i hi with h | ⟨c, h, hc, hB⟩
      · exact .inl h
      · unfold bLen lenN at hB
        rw [decide_eq_true_eq, Nat.zero_add] at hB
        exact .inr ⟨by omega, by omega⟩
    have hval6 : ∀ i, i < n → P.getD i 0 = -1 ∨ (0 ≤ P.getD i 0 ∧ P.getD i 0 < 6) := fun i hi => by
      have := (l3 i).2
      rcases hval i hi with h | h
      · exact .inl h
      · exact .inr ⟨h.1, by omega⟩
    refine visW_any bw bs g N n xs P M LL j W h1 h2 (by rw [hlenLL]; omega) (fun W' => ?_) ?_ hP hI
    · rw [freeW_all, hPl]
      exact freeCells_any n xs P M (plF P n) W' hn6 hM l3 (fun k hk => by unfold plF; rw [if_pos hk]) hval (fun i hi => tkn_small P n hval6 i hi)
    · rw [Nat.zero_add] at hPf
      omega
  have HVIS := Lib.hid hvis
  have HWALK := Lib.hid (fun (bw bs g : Nat) (W : World) (q1 : bw ≠ g) (q2 : bs ≠ g) (q3 : bw < W.heap.size) (q4 : bs < W.heap.size) (q5 : g < W.heap.size) (hI : InvW bw bs g N n M xs LL 0 W) => by
    have := walk_any2 n n k (mskG M n) 124 #[] #[.pointer (some ⟨bw, 0, none⟩), .pointer (some ⟨bs, 0, none⟩)] (fun b => b = g) (fun _ j w => InvW bw bs g N n M xs LL j w) (fun _ => true) W hn6 hn6 hk hms
      (fun b hb => by rw [hb]; exact q5) (fun bp j w1 w2 hz hc h => h.stay hc (by omega) (by omega) (by omega)) (fun _ _ => by kernel_rfl)
      (fun bp hbp j P hP w h => hvis bw bs g q1 q2 j P (by rw [hLL, ← hBM]; exact hP) w h) (fun bp w' _ _ hb => hI.below hb)
    rw [runV_all _ (fun _ => rfl), hBM, ← hlenLL] at this
    exact this)
  have L0 := (Law.start w).has (sl n M) 88
  rw [show w.alloc (.cells (sl n M).toArray 88) = w.alloc (.cells #[.int .i64 n, .int .i64 (M 0), .int .i64 (M 1), .int .i64 (M 2), .int .i64 (M 3), .int .i64 (M 4), .int .i64 (M 5)] 88) from rfl] at L0
  obtain ⟨hw1, hw2, hN1⟩ := cellsN (celN xs n) N hN (Nat.le_trans hce (Nat.mul_le_mul_left 6 hn6))
  have hz0 := cntW_zero xs LL N
  have HZ0 := Lib.hid hz0
  have HL := Lib.hid L0
  clear hall hvis hms hBM hplr hplv hpll hplw h7 hfl hce hlenLL hLL hN hM hg l1 l2 l3 l4 l5 hn hz0 L0
  generalize wts xs n k = ys at *
  go_enter Try.func96, Try.ntmps96
  go_upto_region 1 with fail
  generalize w.alloc _ = w5 at *
  obtain ⟨s0, s1, s2, s3, s4, s5, s6, _⟩ := HL.out.ownHas.seven
  go_wp2_with fail
  refine (HCELL.out _).mono ?_
  rintro e w6 ⟨rfl, hb⟩
  have L6 := HL.out.kept hb
  have L7 := (L6.own (below_new _) (own_made w6 N _ w6.heap.size rfl (Nat.le_refl _) (by omega))).has [.slice (some ⟨w6.heap.size, 0, none⟩) N N] 22
  simp only [World.size_alloc] at L7
  rw [HZ0.out, show ([.slice (some ⟨w6.heap.size, 0, none⟩) N N] : List Value).toArray = #[.slice (some ⟨w6.heap.size, 0, none⟩) N N] from rfl] at L7
  have hz : w.heap.size < w6.heap.size := L6.ownHas.lt
  have HL7 := Lib.hid L7
  have HZZ := Lib.hid hz
  clear hb L6 L7 HL s0 s1 s2 s3 s4 s5 s6 hz
  go_upto_region 2 with fail
  generalize (w6.alloc (.cells (madeCells #[.int .i64 0] N) 3)).alloc (.cells #[.slice (some ⟨w6.heap.size, 0, none⟩) N N] 22) = w7 at *
  obtain ⟨g, hgg⟩ : ∃ g, g = w6.heap.size := ⟨_, rfl⟩
  rw [← hgg] at HL7 HZZ ⊢
  clear hgg hmk hw1 hw2
  obtain ⟨s0, s1, s2, s3, s4, s5, s6, _⟩ := HL7.out.tl.tl.ownHas.seven
  go_wp2_with fail
  refine (HGR.out _).mono ?_
  rintro e w8 ⟨rfl, hb⟩
  have HL8 := Lib.hid (HL7.out.kept hb)
  clear hb HL7 s0 s1 s2 s3 s4 s5 s6
  have hI8 : InvW (g + 1) w.heap.size g N n M xs LL 0 w8 := ⟨HL8.out.ownHas, HL8.out.tl.tl.ownHas, HL8.out.tl.ownInts⟩
  have HWK := Lib.hid (HWALK.out (g + 1) w.heap.size g w8 (Nat.succ_ne_self g) (Nat.ne_of_lt HZZ.out) HL8.out.ownHas.lt HL8.out.tl.tl.ownHas.lt (Nat.lt_of_succ_lt HL8.out.ownHas.lt) hI8)
  clear hI8
  go_wp2_with fail
  refine HWK.out.mono ?_
  rintro e w9 ⟨rfl, bp, hbp, hI9, hC9⟩
  have hB9 : Below w.heap.size w w9 := HL8.out.below.trans ⟨hC9.os, hC9.tape, hC9.output, hC9.size, fun b hb => hC9.block b (Nat.lt_of_lt_of_le hb HL8.out.below.size) (fun e => by have := HZZ.out; omega)⟩
  have HO9 := Lib.hid (And.intro hI9.row hB9)
  have c9 := hI9.box.cell 0
  simp only [List.getElem?_cons_zero] at c9
  clear hI9 hC9 hB9 hbp HWK HL8
  have HWL := Lib.hid (withoutLast_any g N N (lstI N (cntW xs LL LL.length)) w9 (by omega) (Nat.le_refl _) (lstI_len _ _) 0 HO9.out.1)
  rw [HALL.out.1] at HWL
  have HCL := Lib.hid (clip_any g ys.length N w9 HALL.out.2.2)
  have HFIN := Lib.hid (show Own w9 w.heap.size (.slice (some ⟨g, 0, none⟩) (ys ++ (lstI N (cntW xs LL LL.length)).drop ys.length).length N) (ys ++ (lstI N (cntW xs LL LL.length)).drop ys.length) from by
    rw [← HALL.out.2.1, lstI_len]
    exact own_raise HO9.out.1 g rfl (Nat.le_of_lt HZZ.out))
  generalize (lstI N (cntW xs LL LL.length)).drop ys.length = zs at *
  clear HALL
  go_wp2_with fail
  refine HWL.out.mono ?_
  rintro e w10 ⟨rfl, rfl⟩
  go_wp2_with fail
  refine HCL.out.mono ?_
  rintro e w11 ⟨rfl, rfl⟩
  go_wp2_with fail
  go_ret
  exact ⟨g, N, zs, rfl, HFIN.out, HO9.out.2⟩
end Go.Proofs.Ytdimbnkgomfojaa
end

section
namespace Go.Proofs.Ytdimbnkgomfojaa
open Go.RowKit Go.WideShapes

/-- append of one number, where nothing is drawn. -/
theorem wp_appendI {w0 w : World} {ops : Array Oper} {rest : List Oper} {o : Oper} {a : Act} {Q : Exit → Act → World → Prop} (hgd : o.guard = none) (s x : Operand)
    (ho : o.op = .call { callee := .builtin .append, args := #[s, x], argTypes := #[22, 22] }) {ts : List Thing} {v : Value} {xs : List Int} (y : Int)
    (L : Law w0 (tOwn v xs :: ts) w) (g0 : Nat) (hs : a.eval s = v) (hx : a.eval x = .slice (some ⟨g0, 0, none⟩) 1 1) (hnew : w.cell? ⟨g0, 0, none⟩ = some (.int .i64 y)) (hl : xs.length + 1 ≤ 1048576) (xs' : List Int) (hxs : xs ++ [y] = xs')
    (h : ∀ g cap w', Law w0 (tOwn (.slice (some ⟨g, 0, none⟩) xs'.length cap) xs' :: ts) w' → wpList Try.prog ops Q rest (a.put o.dst (.slice (some ⟨g, 0, none⟩) xs'.length cap)) w') :
    wpList Try.prog ops Q (o :: rest) a w := by
  subst hxs
  obtain ⟨i0, hi, hz0, hz1, hz2⟩ := info_parts Try.infoI
  refine wpList_append_lies w hgd s x 22 ho 0 3 i0 (.int .i64 0) 1 8 Try.underlying22 hi hz0 hz1 hz2 rfl (by decide) v xs.length _ hs L.ownInts ⟨g0, 0, none⟩ 1 1 [.int .i64 y] hx rfl ?_ (by intro y hy; simp at hy; subst hy; rfl) (by decide) (by unfold maxLen; omega) (by omega) (Nat.zero_le _) _ rfl ?_
  · intro j y hy
    match j, hy with
    | 0, hy =>
      simp at hy
      subst hy
      rw [Addr.add_lit]
      exact hnew
  · intro g cap w' h1 h2 h3 h4
    have e : (xs ++ [y]).length = xs.length + 1 := by simp
    rw [← e] at h1
    have h5 := h g cap w'
    rw [e] at h5 h1
    refine h5 ?_
    have hO : Own w' 0 (.slice (some ⟨g, 0, none⟩) (xs.length + 1) cap) (xs ++ [y]) := by
      unfold Own
      rw [e, List.map_append]
      exact h1
    exact Law.write' (ts := []) L (Chg.of_grown h2 (fun _ e => e)) (tOwn _ (xs ++ [y])) (fun k hk => by
      have e : g = k := by simpa [tOwn, Value.ownBlock] using hk
      subst e
      rcases h3 with h3 | h3
      · exact .inl h3
      · exact .inr ⟨by omega, h4⟩) hO

end Go.Proofs.Ytdimbnkgomfojaa
end
