import Derived.Test.YtjmefcebldifaabFold5
import Derived.Test.YtjmefcebldifaabFold16
import Derived.ChangeKeysEq
import Derived.Test.YtjmefcebldifaabFold6

section
namespace Go.Proofs.Ytjmefcebldifaab
open Go.RowKit Go.WideShapes

/-- append of one number, where nothing is drawn. -/
theorem wp_appendI {w0 w : World} {ops : Array Oper} {rest : List Oper} {o : Oper} {a : Act} {Q : Exit → Act → World → Prop} (hgd : o.guard = none) (s x : Operand)
    (ho : o.op = .call { callee := .builtin .append, args := #[s, x], argTypes := #[22, 22] }) {ts : List Thing} {v : Value} {xs : List Int} (y : Int)
    (L : Law w0 (tOwn v xs :: ts) w) (g0 : Nat) (hs : a.eval s = v) (hx : a.eval x = .slice (some ⟨g0, 0, none⟩) 1 1) (hnew : w.cell? ⟨g0, 0, none⟩ = some (.int .i64 y)) (hl : xs.length + 1 ≤ 1048576) (xs' : List Int) (hxs : xs ++ [y] = xs')
    (h : ∀ g cap w', Law w0 (tOwn (.slice (some ⟨g, 0, none⟩) xs'.length cap) xs' :: ts) w' → wpList Try.prog ops Q rest (a.put o.dst (.slice (some ⟨g, 0, none⟩) xs'.length cap)) w') :
    wpList Try.prog ops Q (o :: rest) a w := by
  subst hxs
  obtain ⟨i0, hi, hz0, hz1, hz2⟩ := info_parts Try.infoI
  refine wpList_append_lies w hgd s x 22 ho 0 3 i0 (.int .i64 0) 1 8 Try.underlying22 hi hz0 hz1 hz2 rfl (by decide) v xs.length _ hs L.ownInts ⟨g0, 0, none⟩ 1 1 [.int .i64 y] hx rfl ?_ (by intro y hy; simp at hy; subst hy; rfl) (by decide) (by unfold maxLen; omega) (by omega) (Nat.zero_le _) _ rfl ?_
  · intro j y hy
    match j, hy with
    | 0, hy =>
      simp at hy
      subst hy
      rw [Addr.add_lit]
      exact hnew
  · intro g cap w' h1 h2 h3 h4
    have e : (xs ++ [y]).length = xs.length + 1 := by simp
    rw [← e] at h1
    have h5 := h g cap w'
    rw [e] at h5 h1
    refine h5 ?_
    have hO : Own w' 0 (.slice (some ⟨g, 0, none⟩) (xs.length + 1) cap) (xs ++ [y]) := by
      unfold Own
      rw [e, List.map_append]
      exact h1
    exact Law.write' (ts := []) L (Chg.of_grown h2 (fun _ e => e)) (tOwn _ (xs ++ [y])) (fun k hk => by
      have e : g = k := by simpa [tOwn, Value.ownBlock] using hk
      subst e
      rcases h3 with h3 | h3
      · exact .inl h3
      · exact .inr ⟨by omega, h4⟩) hO

end Go.Proofs.Ytjmefcebldifaab
end

section
namespace Go.Proofs.Ytjmefcebldifaab
open Go.RowKit Go.WideShapes

/-- A list told by a function, of integers. -/
def lstI (L : Nat) (g : Nat → Int) : List Int := (List.range L).map g
theorem lstI_len (L : Nat) (g : Nat → Int) : (lstI L g).length = L := by simp [lstI]
theorem lstI_get (L : Nat) (g : Nat → Int) (k : Nat) (h : k < L) : (lstI L g).getD k 0 = g k := by simp [lstI, List.getD, h]
theorem lstI_congr (L : Nat) (g g' : Nat → Int) (h : ∀ k, k < L → g k = g' k) : lstI L g = lstI L g' := by
  unfold lstI
  exact List.map_congr_left (fun k hk => h k (List.mem_range.1 hk))
theorem lstI_snoc (L : Nat) (g : Nat → Int) : lstI L g ++ [g L] = lstI (L + 1) g := by simp [lstI, List.range_succ]
theorem lstI_set (L : Nat) (g g' : Nat → Int) (i : Nat) (x : Int) (hx : g' i = x) (ho : ∀ k, k < L → k ≠ i → g' k = g k) : (lstI L g).set i x = lstI L g' := by
  apply List.ext_getElem
  · simp [lstI]
  · intro k h1 h2
    have hk : k < L := by simpa [lstI] using h2
    by_cases e : k = i
    · subst e
      rw [List.getElem_set_self]
      simp [lstI, hx]
    · rw [List.getElem_set_ne (fun h => e h.symm)]
      simp [lstI, ho k hk e]
theorem pl6_take (F : Nat → Int) (n : Nat) (hn : n ≤ 6) : [F 0, F 1, F 2, F 3, F 4, F 5].take n = lstI n F := by
  have : n = 0 ∨ n = 1 ∨ n = 2 ∨ n = 3 ∨ n = 4 ∨ n = 5 ∨ n = 6 := by omega
  rcases this with rfl | rfl | rfl | rfl | rfl | rfl | rfl <;> rfl

/-- The row of the last rook in the column c, of the first k. -/
def trF (p : Nat → Int) : Nat → Nat → Int
  | 0, _ => -1
  | k + 1, c => if p k = (c : Int) then (k : Int) else trF p k c
theorem trF_skip (p : Nat → Int) (k : Nat) (h : p k = -1) (c : Nat) : trF p (k + 1) c = trF p k c := by
  rw [trF, if_neg (by omega)]
theorem trF_set (p : Nat → Int) (k d : Nat) (h : p k = (d : Int)) : trF p (k + 1) d = k ∧ ∀ c, c ≠ d → trF p (k + 1) c = trF p k c := by
  refine ⟨by rw [trF, if_pos h], fun c hc => ?_⟩
  rw [trF, if_neg (by omega)]
theorem trF_more (P : List Int) (n k c : Nat) (h : n ≤ k) : trF (plF P n) k c = trF (fun j => P.getD j 0) n c := by
  induction k with
  | zero =>
    rw [show n = 0 by omega]
    rfl
  | succ k ih =>
    by_cases e : n = k + 1
    · subst e
      have : ∀ i, i ≤ k + 1 → trF (plF P (k + 1)) i c = trF (fun j => P.getD j 0) i c := by
        intro i
        induction i with
        | zero => intro _; rfl
        | succ i ih2 =>
          intro hi
          rw [trF, trF, ih2 (by omega)]
          have : plF P (k + 1) i = P.getD i 0 := by unfold plF; rw [if_pos (by omega)]
          rw [this]
      exact this _ (Nat.le_refl _)
    · rw [trF, if_neg, ih (by omega)]
      unfold plF
      rw [if_neg (by omega)]
      omega

set_option maxRecDepth 100000 in
set_option maxHeartbeats 1600000 in
theorem list_any (F : Nat → Int) (n : Nat) (w : World) (hn : n ≤ 6) :
    Calls Try.prog 57 #[pv6 F, .int .i64 n] w fun e w' => ∃ g, e = .returned (.slice (some ⟨g, 0, none⟩) n n) ∧ Own w' w.heap.size (.slice (some ⟨g, 0, none⟩) n n) (lstI n F) ∧ Below w.heap.size w w' := by
  have hmk := run_make_row' (P := Try.prog) 22 3 (.int .i64 0) 8 Try.underlying22 Try.infoI rfl .i64 .i64 n (by omega) (by omega)
  have L0 := ((Law.start w).has (pl6 F) 59).own (below_new (.cells (madeCells #[.int .i64 0] n) 3)) (own_made _ n _ _ rfl (Nat.le_refl _) (by omega))
  have H1 : Has ((w.alloc (.cells (pl6 F).toArray 59)).alloc (.cells (madeCells #[.int .i64 0] n) 3)) (w.heap.size + 1) (List.replicate n (.int .i64 0)) 3 := by
    have := Has.new (w.alloc (.cells (pl6 F).toArray 59)) (List.replicate n (.int .i64 0)) 3
    rw [← made_eq] at this
    simpa using this
  have H2 := L0.tl.ownHas
  have hB := L0.below
  have hp6 : (pl6 F).toArray = #[.int .i64 (F 0), .int .i64 (F 1), .int .i64 (F 2), .int .i64 (F 3), .int .i64 (F 4), .int .i64 (F 5)] := rfl
  have hsrc : ∀ j v, (([F 0, F 1, F 2, F 3, F 4, F 5].take n).map (Value.int .i64))[j]? = some v → ((w.alloc (.cells (pl6 F).toArray 59)).alloc (.cells (madeCells #[.int .i64 0] n) 3)).cell? ((⟨w.heap.size, 0, none⟩ : Addr).add j) = some v := by
    intro j v hj
    rw [add_plain, H2.cell]
    rw [List.map_take, List.getElem?_take] at hj
    split at hj
    · rw [show 0 + j = j by omega]; exact hj
    · cases hj
  have hlen : (([F 0, F 1, F 2, F 3, F 4, F 5].take n).map (Value.int .i64)).length = n := by simp; omega
  have HM := Lib.hid (show (([F 0, F 1, F 2, F 3, F 4, F 5].take n).map (Value.int .i64)).length = Nat.min 6 n by rw [hlen]; exact (Nat.min_eq_right hn).symm)
  have HF := Lib.hid (show 0 + (([F 0, F 1, F 2, F 3, F 4, F 5].take n).map (Value.int .i64)).length ≤ (List.replicate n (Value.int .i64 0)).length by rw [hlen, List.length_replicate]; omega)
  have H1' := H1.row
  rw [hp6] at hB hsrc H1'
  have HB := Lib.hid hB
  have G1 := Lib.hid H1'; have G5 := Lib.hid hsrc; have HL := Lib.hid hlen
  clear L0 H1 H2 hsrc hlen hB H1' hp6
  go_enter Try.func57, Try.ntmps57
  go_wp2_with (with_reducible refine wpList_copy_splice rfl (.tmp 8) (.tmp 9) 22 22 rfl 3 Try.underlying22 (by kernel_rfl) _ _ n n 6 6 rfl rfl (w.heap.size + 1) 0 _ 3 G1.out _ HM.out (fun _ => ⟨rfl, _, rfl, G5.out⟩) HF.out (ints_oneCell _ _) (w.heap.size + 1) _ (Below.refl _ _) (Nat.le_refl _) ?_)
  intro w4 hg4 hb4
  have H4 : Has w4 (w.heap.size + 1) (([F 0, F 1, F 2, F 3, F 4, F 5].take n).map (Value.int .i64)) 3 := by
    have h : Has w4 (w.heap.size + 1) _ 3 := hg4.out
    rw [splice_all n _ (by simp <;> omega)] at h
    simpa using h
  rw [pl6_take F n hn] at H4
  have HH := Lib.hid H4
  have HB4 := Lib.hid (HB.out.trans (hb4.mono (by omega)))
  clear hg4 hb4 H4 hmk
  go_wp2_with fail
  go_ret
  exact ⟨_, rfl, (own_of_has (lo := w.heap.size) HH.out (by omega) (lstI_len _ _) (by unfold maxLen; omega)), HB4.out⟩
end Go.Proofs.Ytjmefcebldifaab
end

section
namespace Go.Proofs.Ytjmefcebldifaab
open Go.RowKit Go.WideShapes

/-- The same six numbers. -/
def eq6 (F G : Nat → Int) : Bool := (List.range 6).all fun i => F i == G i
/-- Of the first j things so many are not it. -/
def visN (p : List Int → Bool) (L : List (List Int)) (j : Nat) : Nat := ((L.take j).filter (fun P => !p P)).length
theorem visN_succ (p : List Int → Bool) (L : List (List Int)) (j : Nat) (P : List Int) (h : L[j]? = some P) : visN p L (j + 1) = visN p L j + if p P then 0 else 1 := by
  obtain ⟨hl, he⟩ := List.getElem?_eq_some_iff.1 h
  unfold visN
  rw [List.take_succ_eq_append_getElem hl, List.filter_append, List.length_append, he, List.filter_cons]
  cases p P <;> rfl
theorem visN_le (p : List Int → Bool) (L : List (List Int)) (j : Nat) : visN p L j ≤ j := by
  unfold visN
  refine Nat.le_trans (List.length_filter_le _ _) ?_
  simp
  omega
/-- A walk that stops at it has counted what is before it. -/
theorem visN_stop (p : List Int → Bool) (cont : Nat → Bool) (L : List (List Int)) : ∀ j, (∀ i P, L[i]? = some P → cont (j + i) = !p P) → visN p L (runV cont j L.length).1 = L.findIdx p := by
  induction L with
  | nil => intro j _; simp [visN]
  | cons P L ih =>
    intro j h
    have h0 := h 0 P rfl
    rw [Nat.add_zero] at h0
    rw [List.length_cons, runV, h0]
    cases hp : p P
    · rw [if_pos (by rfl)]
      have := ih (j + 1) (fun i Q hi => by rw [show j + 1 + i = j + (i + 1) by omega]; exact h (i + 1) Q (by simpa using hi))
      show visN p (P :: L) ((runV cont (j + 1) L.length).1 + 1) = _
      unfold visN at this ⊢
      rw [List.take_succ_cons, List.filter_cons, hp, List.findIdx_cons, hp]
      simp only [Bool.not_false, if_true, List.length_cons, this, cond_false]
    · rw [if_neg (by simp)]
      unfold visN
      rw [List.findIdx_cons, hp]
      simp [hp]
theorem eqItems_ints (P : Program) (d : Nat) (e : TypeId) (he : P.plainKey e = true) (hu : P.underlying e = some (.int .i64)) (xs ys : Array Value) (F G : Nat → Int) (W : World) : ∀ is : List Nat, (∀ i ∈ is, xs[i]? = some (.int .i64 (F i)) ∧ ys[i]? = some (.int .i64 (G i))) →
    (Op.eqItems (d + 1) e 1 xs ys is).run P W = .ok (is.all fun i => F i == G i) W := by
  intro is
  induction is with
  | nil => intro _; simp [Op.eqItems]
  | cons i is ih =>
    intro h
    obtain ⟨h1, h2⟩ := h i (by simp)
    have ih := ih (fun k hk => h k (by simp [hk]))
    simp only [Op.eqItems, Sem.run_bind, Nat.mul_one, run_part_plain W he h1, run_part_plain W he h2, Result.andThen_ok, run_equalIn_int W d e .i64 .i64 (F i) (G i) hu, List.all_cons]
    cases hh : F i == G i
    · simp
    · simp only [Bool.not_true, Bool.false_eq_true, if_false, ih, Bool.true_and]

end Go.Proofs.Ytjmefcebldifaab
end

section
namespace Go.Proofs.Ytjmefcebldifaab
open Go.RowKit

theorem take_app {α : Type} (L A : List α) (n : Nat) (h : (L.take n).length < n) : L.take n ++ A.take (n - (L.take n).length) = (L ++ A).take n := by
  have hl : L.length < n := by rw [List.length_take] at h; omega
  have e : L.take n = L := List.take_of_length_le (by omega)
  rw [e, List.take_append, e]
theorem take_full {α : Type} (L A : List α) (n : Nat) (h : n ≤ (L.take n).length) : (L ++ A).take n = L.take n := by
  have hl : n ≤ L.length := by rw [List.length_take] at h; omega
  exact List.take_append_of_le_length hl

/-- What roAll answers: the placements that go on a list, cut at a number. -/
def allL (m : Nat) (B : Nat → Nat → Bool) (d f t k : Nat) (P : List Int) (most : Nat) : List (List Int) := ((pl m B d f t k).map (fun Q => P ++ Q)).take most
/-- .. before the c-th column. -/
def allC (m : Nat) (B : Nat → Nat → Bool) (d f t k : Nat) (P : List Int) (most c : Nat) : List (List Int) := ((plc m B d f t k c).map (fun Q => P ++ Q)).take most
theorem allL_none (m : Nat) (B : Nat → Nat → Bool) (d f t k : Nat) (P : List Int) (most : Nat) (h : d < k) : allL m B d f t k P most = [] := by
  unfold allL
  rw [pl_none m B d f t k h]
  simp
theorem allL_leaf (m : Nat) (B : Nat → Nat → Bool) (f t : Nat) (P : List Int) (most : Nat) (h : 0 < most) : allL m B 0 f t 0 P most = [P] := by
  unfold allL
  rw [pl, if_pos rfl]
  obtain ⟨n, rfl⟩ : ∃ n, most = n + 1 := ⟨most - 1, by omega⟩
  simp
theorem allC_first (m : Nat) (B : Nat → Nat → Bool) (d f t k : Nat) (P : List Int) (most : Nat) : allC m B d f t k P most 0 = allL m B d (f + 1) t k (P ++ [-1]) most := by
  unfold allC allL
  rw [plc_zero, map_snoc]
theorem allC_next (m : Nat) (B : Nat → Nat → Bool) (d f t k : Nat) (P : List Int) (most c : Nat) (hk : 0 < k) (hB : B f c = true) (ht : t.testBit c = false) (h : (allC m B d f t k P most c).length < most) :
    allC m B d f t k P most (c + 1) = allC m B d f t k P most c ++ allL m B d (f + 1) (t ||| 2 ^ c) (k - 1) (P ++ [(c : Int)]) (most - (allC m B d f t k P most c).length) := by
  unfold allC at h ⊢
  unfold allL
  rw [plc_succ, blk_yes m B d f t k c hk hB ht, List.map_append, map_snoc, take_app _ _ _ h]
theorem allC_skip (m : Nat) (B : Nat → Nat → Bool) (d f t k : Nat) (P : List Int) (most c : Nat) (h : k = 0 ∨ B f c = false ∨ t.testBit c = true) : allC m B d f t k P most (c + 1) = allC m B d f t k P most c := by
  unfold allC
  rw [plc_succ, blk_no m B d f t k c h, List.append_nil]
/-- Full before the last column: no more comes. -/
theorem allC_full (m : Nat) (B : Nat → Nat → Bool) (d f t k : Nat) (P : List Int) (most c e : Nat) (hc : c ≤ e) (h : most ≤ (allC m B d f t k P most c).length) : allC m B d f t k P most e = allC m B d f t k P most c := by
  obtain ⟨tl, ht⟩ := plc_split m B d f t k c e hc
  unfold allC at h ⊢
  rw [ht, List.map_append]
  exact take_full _ _ _ h
theorem allC_last (m : Nat) (B : Nat → Nat → Bool) (d f t k : Nat) (P : List Int) (most : Nat) : allC m B d f t k P most m = allL m B (d + 1) f t k P most := by
  unfold allC allL
  rw [plc_full]
theorem allL_all (m : Nat) (B : Nat → Nat → Bool) (d k most : Nat) (h : wR m B d 0 0 k ≤ most) : allL m B d 0 0 k [] most = pl m B d 0 0 k := by
  unfold allL
  simp only [List.nil_append, List.map_id']
  exact List.take_of_length_le (by rw [pl_len]; exact h)

/-- Six numbers tell a list of so many rows. -/
theorem eq6_same (P Q : List Int) (n : Nat) (hn : n ≤ 6) (hp : P.length = n) (hq : Q.length = n) : eq6 (plF Q n) (plF P n) = (Q == P) := by
  rw [Bool.eq_iff_iff, beq_iff_eq]
  constructor
  · intro h
    refine List.ext_getElem (by omega) (fun i h1 h2 => ?_)
    have := List.all_eq_true.1 h i (List.mem_range.2 (by omega))
    rw [beq_iff_eq] at this
    unfold plF at this
    rw [if_pos (by omega), if_pos (by omega)] at this
    simpa [List.getD_eq_getElem?_getD, h1, h2] using this
  · rintro rfl
    exact List.all_eq_true.2 (fun i _ => by rw [beq_iff_eq])
theorem findIdx_same (L : List (List Int)) (P : List Int) (n : Nat) (hn : n ≤ 6) (hp : P.length = n) (hL : ∀ Q ∈ L, Q.length = n) : L.findIdx (fun Q => eq6 (plF Q n) (plF P n)) = L.findIdx (fun Q => Q == P) := by
  induction L with
  | nil => rfl
  | cons Q L ih =>
    rw [List.findIdx_cons, List.findIdx_cons, eq6_same P Q n hn hp (hL Q (by simp)), ih (fun R hR => hL R (by simp [hR]))]

end Go.Proofs.Ytjmefcebldifaab
end

section
namespace Go.Proofs.Ytjmefcebldifaab
open Go.RowKit

theorem Law.joinM {w0 w w' : World} {ts : List Thing} {v2 v v' : Value} {vs2 vs : List Value} {rss2 rss : List (List Int)} (h : Law w0 (tM v2 vs2 rss2 :: tM v vs rss :: ts) w)
    (hg : w.grownBy w' v.ownBlock) (ho : w'.ownsRow 0 22 1 v' (vs ++ vs2).length (vs ++ vs2)) (hv : ∀ k, v'.ownBlock = some k → (v.ownBlock = some k ∨ k = w.heap.size) ∧ k < w'.heap.size) :
    Law w0 (tM v' (vs ++ vs2) (rss ++ rss2) :: ts) w' := by
  have hu := h.ownM
  have hM := h.tl.ownM
  have d1 := (List.pairwise_cons.1 h.dis).1
  have d2 := (List.pairwise_cons.1 (List.pairwise_cons.1 h.dis).2).1
  have rM := h.range (tM v vs rss) (by simp)
  have rU := h.range (tM v2 vs2 rss2) (by simp)
  have rT : ∀ t ∈ ts, ∀ k, t.foot k → w0.heap.size ≤ k ∧ k < w.heap.size := fun t ht k hk => h.range t (by simp [ht]) k hk
  have huM : ∀ x ∈ vs2, ∀ k, x.ownBlock = some k → ¬ (tM v vs rss).foot k := fun x hx k hk => d1 (tM v vs rss) (by simp) k (.inr ⟨x, hx, hk⟩)
  have hc : Chg (tM v vs rss).foot w w' := Chg.of_grown hg (fun k e => .inl e)
  have hne : ∀ x : Value, (∀ k, x.ownBlock = some k → v.ownBlock ≠ some k) → x.ownBlock = none ∨ x.ownBlock ≠ v.ownBlock := fun x hx => by
    cases e : x.ownBlock with
    | none => exact .inl rfl
    | some k => exact .inr (fun e2 => hx k e e2.symm)
  have hnew : OwnM w' 0 v' (vs ++ vs2) (rss ++ rss2) := by
    refine ⟨ho, by simp [hM.len, hu.len], ?_, ?_, ?_⟩
    · intro p hp
      rw [List.zip_append hM.len.symm] at hp
      rcases List.mem_append.1 hp with hp | hp
      · exact World.ownsRow.kept (hM.rows p hp) hg (hne p.1 (fun k hk => hM.apart p.1 (List.of_mem_zip hp).1 k hk))
      · exact World.ownsRow.kept (hu.rows p hp) hg (hne p.1 (fun k hk e => huM p.1 (List.of_mem_zip hp).1 k hk (.inl e)))
    · rw [List.pairwise_append]
      refine ⟨hM.dis, hu.dis, fun a ha b hb k hk e => ?_⟩
      exact huM b hb k e (.inr ⟨a, ha, hk⟩)
    · intro x hx k hk e
      have hlt : k < w.heap.size ∧ v.ownBlock ≠ some k := by
        rcases List.mem_append.1 hx with hx | hx
        · exact ⟨(rM k (.inr ⟨x, hx, hk⟩)).2, hM.apart x hx k hk⟩
        · exact ⟨(rU k (.inr ⟨x, hx, hk⟩)).2, fun e => huM x hx k hk (.inl e)⟩
      rcases (hv k e).1 with e | e
      · exact hlt.2 e
      · omega
  have hfoot : ∀ k, (tM v' (vs ++ vs2) (rss ++ rss2)).foot k → (tM v vs rss).foot k ∨ (tM v2 vs2 rss2).foot k ∨ (k = w.heap.size ∧ k < w'.heap.size) := by
    intro k hk
    rcases hk with hk | ⟨x, hx, hk⟩
    · rcases (hv k hk).1 with e | e
      · exact .inl (.inl e)
      · exact .inr (.inr ⟨e, (hv k hk).2⟩)
    · rcases List.mem_append.1 hx with hx | hx
      · exact .inl (.inr ⟨x, hx, hk⟩)
      · exact .inr (.inl (.inr ⟨x, hx, hk⟩))
  refine ⟨?_, ?_, ?_, ?_⟩
  · exact h.below.trans ⟨hc.os, hc.tape, hc.output, hc.size, fun k hk => hc.block k (by have := h.below.size; omega) (fun e => by have := (rM k e).1; omega)⟩
  · intro x hm
    rcases List.mem_cons.1 hm with rfl | hm
    · exact hnew
    · exact x.stable w w' hc.size (fun k hk => hc.block k (rT x hm k hk).2 (fun e => d2 x hm k e hk)) (h.holds x (by simp [hm]))
  · intro x hm k hk
    rcases List.mem_cons.1 hm with rfl | hm
    · rcases hfoot k hk with e | e | e
      · exact ⟨(rM k e).1, Nat.lt_of_lt_of_le (rM k e).2 hc.size⟩
      · exact ⟨(rU k e).1, Nat.lt_of_lt_of_le (rU k e).2 hc.size⟩
      · have := h.below.size
        omega
    · exact ⟨(rT x hm k hk).1, Nat.lt_of_lt_of_le (rT x hm k hk).2 hc.size⟩
  · refine List.pairwise_cons.2 ⟨fun x hm k e1 e2 => ?_, (List.pairwise_cons.1 (List.pairwise_cons.1 h.dis).2).2⟩
    rcases hfoot k e1 with e | e | e
    · exact d2 x hm k e e2
    · exact d1 x (by simp [hm]) k e e2
    · have := (rT x hm k e2).2
      omega

/-- append of all rows of another one, that has some, at a step of a region that draws its order. -/
theorem step_joinM {w0 w : World} {ops : Array Oper} {o : Oper} {a : Act} {K : Act → World → Prop} {Q : Exit → Act → World → Prop} {E : Prop} (hgd : o.guard = none) (s x : Operand)
    (ho : o.op = .call { callee := .builtin .append, args := #[s, x], argTypes := #[34, 34] }) {ts : List Thing} {v : Value} {vs vs2 : List Value} {rss rss2 : List (List Int)} (g0 n0 c0 : Nat)
    (L : Law w0 (tM (.slice (some ⟨g0, 0, none⟩) n0 c0) vs2 rss2 :: tM v vs rss :: ts) w) (hn0 : n0 = vs2.length) (h0 : 0 < n0) (hs : a.eval s = v) (hx : a.eval x = .slice (some ⟨g0, 0, none⟩) n0 c0) (hu1 : ∀ u ∈ vs2, u.oneCell' = true) (hl : vs.length + n0 ≤ 1048576)
    (h : ∀ g cap w', Law w0 (tM (.slice (some ⟨g, 0, none⟩) (vs.length + n0) cap) (vs ++ vs2) (rss ++ rss2) :: ts) w' → K (a.put o.dst (.slice (some ⟨g, 0, none⟩) (vs.length + n0) cap)) w') :
    if Region.wanted o (yielded ops a.tmps) = true then Oper.wp Try.prog o a w K Q else E := by
  subst hn0
  obtain ⟨i0, hi, hz0, hz1, hz2⟩ := info_parts Try.infoL
  refine step_append_lies w hgd s x 34 ho 0 22 i0 (.slice none 0 0) 1 24 Try.underlying34 hi hz0 hz1 hz2 rfl (by decide) v vs.length vs hs L.tl.ownM.outer ⟨g0, 0, none⟩ vs2.length c0 vs2 hx (by omega) ?_ hu1 h0 (by unfold maxLen; omega) (by omega) (Nat.zero_le _) _ rfl ?_
  · intro j y hy
    obtain ⟨hj, rfl⟩ := List.getElem?_eq_some_iff.1 hy
    rw [Addr.add_lit]
    have := L.ownM.cell j hj
    simpa using this
  · intro g cap w' h1 h2 h3 h4
    refine h g cap w' (L.joinM h2 (by simpa using h1) (fun k hk => ?_))
    have e : g = k := by simpa [Value.ownBlock] using hk
    subst e
    exact ⟨h3, h4⟩

end Go.Proofs.Ytjmefcebldifaab
end
