import Derived.Test.YtakdiiccdkjjcacFold12
import Derived.Test.YtakdiiccdkjjcacFold10
import Derived.IntWalk

section
namespace Go.Proofs.Ytakdiiccdkjjcac
open Go.RowKit Go.WideShapes

def bit (xs : List Int) (a b : Nat) : Bool := (xs.getD a 0).toNat.testBit b
def cellsP (xs : List Int) (n m : Nat) : List (Nat × Nat) := (List.range n).flatMap (fun a => ((List.range m).filter (fun b => bit xs a b)).map (fun b => (a, b)))
theorem cellsL_eq (xs : List Int) (n m : Nat) : cellsL xs n m = (cellsP xs n m).map (fun c => [(c.1 : Int), (c.2 : Int)]) := by
  unfold cellsL cellsU cellsP rowC bit
  rw [List.map_flatMap]
  simp [Function.comp_def]
theorem cellsP_mem (xs : List Int) (n m : Nat) (c : Nat × Nat) (h : c ∈ cellsP xs n m) : c.1 < n ∧ c.2 < m := by
  unfold cellsP at h
  simp only [List.mem_flatMap, List.mem_range, List.mem_map, List.mem_filter] at h
  obtain ⟨a, ha, b, ⟨hb, _⟩, rfl⟩ := h
  exact ⟨ha, hb⟩

def addAt (l : List Int) (p : Nat) (v : Int) : List Int := l.set p (l.getD p 0 + v)
def tally (pos : Nat × Nat → Nat) (val : Nat × Nat → Int) (z : List Int) (cs : List (Nat × Nat)) : List Int := cs.foldl (fun l c => addAt l (pos c) (val c)) z
def contrib (pos : Nat × Nat → Nat) (val : Nat × Nat → Int) (p : Nat) : List (Nat × Nat) → Int
  | [] => 0
  | c :: cs => (if pos c = p then val c else 0) + contrib pos val p cs
theorem addAt_get (l : List Int) (p q : Nat) (v : Int) (hq : q < l.length) : (addAt l p v).getD q 0 = l.getD q 0 + if p = q then v else 0 := by
  unfold addAt
  by_cases h : p = q
  · subst h
    rw [if_pos rfl]
    simp [List.getD, hq]
  · rw [if_neg h, Int.add_zero]
    simp [List.getD, h]
theorem tally_len (pos : Nat × Nat → Nat) (val : Nat × Nat → Int) (cs : List (Nat × Nat)) (z : List Int) : (tally pos val z cs).length = z.length := by
  induction cs generalizing z with
  | nil => rfl
  | cons c cs ih =>
    show (tally pos val (addAt z (pos c) (val c)) cs).length = z.length
    rw [ih]
    simp [addAt]
theorem tally_get (pos : Nat × Nat → Nat) (val : Nat × Nat → Int) (cs : List (Nat × Nat)) (z : List Int) (q : Nat) (hq : q < z.length) : (tally pos val z cs).getD q 0 = z.getD q 0 + contrib pos val q cs := by
  induction cs generalizing z with
  | nil => simp [tally, contrib]
  | cons c cs ih =>
    show (tally pos val (addAt z (pos c) (val c)) cs).getD q 0 = _
    rw [ih _ (by simpa [addAt] using hq), addAt_get _ _ _ _ hq, contrib]
    omega
theorem tally_next (pos : Nat × Nat → Nat) (val : Nat × Nat → Int) (cs : List (Nat × Nat)) (z : List Int) (k : Nat) (hk : k < cs.length) (x : Int) (hx : (tally pos val z (cs.take k)).getD (pos cs[k]) 0 = x) :
    (tally pos val z (cs.take k)).set (pos cs[k]) (x + val cs[k]) = tally pos val z (cs.take (k + 1)) := by
  subst hx
  rw [List.take_succ_eq_append_getElem hk]
  unfold tally
  rw [List.foldl_append]
  rfl
theorem contrib_append (pos : Nat × Nat → Nat) (val : Nat × Nat → Int) (p : Nat) (l r : List (Nat × Nat)) : contrib pos val p (l ++ r) = contrib pos val p l + contrib pos val p r := by
  induction l with
  | nil => simp [contrib]
  | cons c l ih => rw [List.cons_append, contrib, contrib, ih]; omega
theorem contrib_bd (pos : Nat × Nat → Nat) (val : Nat × Nat → Int) (p : Nat) (B : Int) (l : List (Nat × Nat)) (h : ∀ c ∈ l, 0 ≤ val c ∧ val c ≤ B) : 0 ≤ contrib pos val p l ∧ contrib pos val p l ≤ B * l.length := by
  induction l with
  | nil => simp [contrib]
  | cons c l ih =>
    have h1 := h c (by simp)
    have h2 := ih (fun c hc => h c (by simp [hc]))
    rw [contrib, List.length_cons, Int.natCast_add, Int.mul_add]
    split <;> omega
/-- A sum over the first n numbers. -/
def sumR (f : Nat → Int) : Nat → Int
  | 0 => 0
  | n + 1 => sumR f n + f n
theorem sumR_congr (f g : Nat → Int) (n : Nat) (h : ∀ k, k < n → f k = g k) : sumR f n = sumR g n := by
  induction n with
  | zero => rfl
  | succ n ih => rw [sumR, sumR, ih (fun k hk => h k (by omega)), h n (by omega)]
theorem sumR_one (v : Nat → Int) (p n : Nat) : sumR (fun b => if b = p then v b else 0) n = if p < n then v p else 0 := by
  induction n with
  | zero => simp [sumR]
  | succ n ih =>
    rw [sumR, ih]
    by_cases h : n = p
    · subst h
      rw [if_neg (by omega), if_pos rfl, if_pos (by omega)]
      omega
    · rw [if_neg h]
      by_cases h2 : p < n
      · rw [if_pos h2, if_pos (by omega)]; omega
      · rw [if_neg h2, if_neg (by omega)]; rfl
theorem contrib_row (pos : Nat × Nat → Nat) (val : Nat × Nat → Int) (p a m : Nat) (t : Nat → Bool) :
    contrib pos val p (((List.range m).filter t).map (fun b => (a, b))) = sumR (fun b => if t b = true then (if pos (a, b) = p then val (a, b) else 0) else 0) m := by
  induction m with
  | zero => simp [contrib, sumR]
  | succ m ih =>
    rw [List.range_succ, List.filter_append, List.map_append, contrib_append, ih, sumR]
    cases h : t m <;> simp [h, contrib]
theorem contrib_flat (pos : Nat × Nat → Nat) (val : Nat × Nat → Int) (p : Nat) (f : Nat → List (Nat × Nat)) (n : Nat) : contrib pos val p ((List.range n).flatMap f) = sumR (fun a => contrib pos val p (f a)) n := by
  induction n with
  | zero => simp [contrib, sumR]
  | succ n ih =>
    have e : [n].flatMap f = f n := by simp
    rw [List.range_succ, List.flatMap_append, contrib_append, e, ih, sumR]
theorem rowM_sum (t : Nat → Bool) (n : Nat) : (rowM t n : Int) = sumR (fun a => if t a = true then 2 ^ a else 0) n := by
  induction n with
  | zero => rfl
  | succ n ih =>
    rw [rowM, sumR, ← ih]
    cases t n <;> simp

/-- Turned. -/
def turnL (xs : List Int) (n m : Nat) : List Int := ([0, 1, 2, 3, 4, 5].take m).map fun k => (rowM (fun a => bit xs a k) n : Int)
theorem turn_tally (xs : List Int) (n m : Nat) (hm : m ≤ 6) : tally (fun c => c.2) (fun c => 2 ^ c.1) (List.replicate m 0) (cellsP xs n m) = turnL xs n m := by
  refine (cells_n m _ _ (by rw [tally_len]; simp) hm (fun k hk => ?_)).symm
  rw [tally_get _ _ _ _ _ (by simpa using hk), cellsP, contrib_flat, rowM_sum]
  have e : (List.replicate m (0 : Int)).getD k 0 = 0 := by simp [List.getD, hk]
  rw [e, Int.zero_add]
  refine sumR_congr _ _ _ (fun a _ => ?_)
  rw [contrib_row]
  have e2 : sumR (fun b => if bit xs a b = true then (if b = k then (2 : Int) ^ a else 0) else 0) m = sumR (fun b => if b = k then (if bit xs a b = true then (2 : Int) ^ a else 0) else 0) m :=
    sumR_congr _ _ _ (fun b _ => by by_cases h1 : b = k <;> cases bit xs a b <;> simp [h1])
  rw [e2, sumR_one, if_pos hk]

/-- Mirrored. -/
def mirL (xs : List Int) (n m : Nat) : List Int := ([0, 1, 2, 3, 4, 5].take n).map fun k => (rowM (fun c => bit xs k (m - 1 - c)) m : Int)
theorem mir_row (x : Int) (m : Nat) (hm : m ≤ 6) (h : 0 ≤ x ∧ x < 64) : (rowM (fun c => x.toNat.testBit (m - 1 - c)) m : Int) = sumR (fun b => if x.toNat.testBit b = true then 2 ^ (m - 1 - b) else 0) m := by
  obtain ⟨n, rfl⟩ := Int.eq_ofNat_of_zero_le h.1
  have key : ∀ m : Fin 7, ∀ n : Fin 64, (rowM (fun c => ((n : Nat) : Int).toNat.testBit ((m : Nat) - 1 - c)) m : Int) = sumR (fun b => if ((n : Nat) : Int).toNat.testBit b = true then 2 ^ ((m : Nat) - 1 - b) else 0) m := by decide +kernel
  exact key ⟨m, by omega⟩ ⟨n, by omega⟩
theorem mir_tally (xs : List Int) (n m : Nat) (hn : n ≤ 6) (hm : m ≤ 6) (hx : ∀ k, 0 ≤ xs.getD k 0 ∧ xs.getD k 0 < 64) : tally (fun c => c.1) (fun c => 2 ^ (m - 1 - c.2)) (List.replicate n 0) (cellsP xs n m) = mirL xs n m := by
  refine (cells_n n _ _ (by rw [tally_len]; simp) hn (fun k hk => ?_)).symm
  rw [tally_get _ _ _ _ _ (by simpa using hk), cellsP, contrib_flat]
  have e : (List.replicate n (0 : Int)).getD k 0 = 0 := by simp [List.getD, hk]
  rw [e, Int.zero_add]
  have e2 : sumR (fun a => contrib (fun c => c.1) (fun c => (2 : Int) ^ (m - 1 - c.2)) k (((List.range m).filter (fun b => bit xs a b)).map (fun b => (a, b)))) n = sumR (fun a => if a = k then sumR (fun b => if bit xs a b = true then (2 : Int) ^ (m - 1 - b) else 0) m else 0) n :=
    sumR_congr _ _ _ (fun a _ => by
      rw [contrib_row]
      by_cases h1 : a = k
      · rw [if_pos h1]
        exact sumR_congr _ _ _ (fun b _ => by simp [h1])
      · rw [if_neg h1]
        have : sumR (fun b => if bit xs a b = true then (if a = k then (2 : Int) ^ (m - 1 - b) else 0) else 0) m = sumR (fun b => if b = m then (0 : Int) else 0) m := sumR_congr _ _ _ (fun b _ => by simp [h1])
        rw [this, sumR_one]
        simp)
  rw [e2, sumR_one, if_pos hk]
  exact mir_row _ _ hm (hx k)

/-- Counted by rows. -/
def cntL (xs : List Int) (n : Nat) : List Int := ([0, 1, 2, 3, 4, 5].take n).map fun k => pop (xs.getD k 0)
theorem cnt_row (x : Int) (m : Nat) (hm : m ≤ 6) (h : 0 ≤ x ∧ x < pw m) : pop x = sumR (fun b => if x.toNat.testBit b = true then 1 else 0) m := by
  obtain ⟨n, rfl⟩ := Int.eq_ofNat_of_zero_le h.1
  have key : ∀ m : Fin 7, ∀ n : Fin 64, ((n : Nat) : Int) < pw (m : Nat) → pop ((n : Nat) : Int) = sumR (fun b => if ((n : Nat) : Int).toNat.testBit b = true then 1 else 0) m := by decide +kernel
  have h6 := (pw_bd (c := (m : Int)) (by omega)).2.1
  exact key ⟨m, by omega⟩ ⟨n, by omega⟩ h.2
theorem cnt_tally (xs : List Int) (n m : Nat) (hn : n ≤ 6) (hm : m ≤ 6) (hx : ∀ k, k < n → 0 ≤ xs.getD k 0 ∧ xs.getD k 0 < pw m) : tally (fun c => c.1) (fun _ => 1) (List.replicate n 0) (cellsP xs n m) = cntL xs n := by
  refine (cells_n n _ _ (by rw [tally_len]; simp) hn (fun k hk => ?_)).symm
  rw [tally_get _ _ _ _ _ (by simpa using hk), cellsP, contrib_flat]
  have e : (List.replicate n (0 : Int)).getD k 0 = 0 := by simp [List.getD, hk]
  rw [e, Int.zero_add]
  have e2 : sumR (fun a => contrib (fun c => c.1) (fun _ => (1 : Int)) k (((List.range m).filter (fun b => bit xs a b)).map (fun b => (a, b)))) n = sumR (fun a => if a = k then sumR (fun b => if bit xs a b = true then (1 : Int) else 0) m else 0) n :=
    sumR_congr _ _ _ (fun a _ => by
      rw [contrib_row]
      by_cases h1 : a = k
      · rw [if_pos h1]
        exact sumR_congr _ _ _ (fun b _ => by simp [h1])
      · rw [if_neg h1]
        have : sumR (fun b => if bit xs a b = true then (if a = k then (1 : Int) else 0) else 0) m = sumR (fun b => if b = m then (0 : Int) else 0) m := sumR_congr _ _ _ (fun b _ => by simp [h1])
        rw [this, sumR_one]
        simp)
  rw [e2, sumR_one, if_pos hk]
  exact cnt_row _ _ hm (hx k hk)
theorem cellsP_len (xs : List Int) (n m : Nat) (hn : n ≤ 6) (hm : m ≤ 6) : (cellsP xs n m).length ≤ 42 := by
  have h := cellsU_len xs m n 0 hn hm (by omega)
  have e : (cellsL xs n m).length = (cellsP xs n m).length := by rw [cellsL_eq, List.length_map]
  rw [← e]
  exact h

end Go.Proofs.Ytakdiiccdkjjcac
end

section
namespace Go.Proofs.Ytakdiiccdkjjcac
open Go.RowKit Go.WideShapes

theorem OwnM.form {w : World} {lo : Nat} {v : Value} {vs : List Value} {rss : List (List Int)} (h : OwnM w lo v vs rss) : ∃ a cap, v = .slice a vs.length cap ∧ ∀ k (hk : k < vs.length), ∃ g, a = some ⟨g, 0, none⟩ ∧ w.cell? ⟨g, k, none⟩ = some vs[k] := by
  rcases h.cases with ⟨rfl, rfl⟩ | ⟨g, cp, rfl, _⟩
  · exact ⟨none, 0, rfl, fun k hk => absurd hk (by simp)⟩
  · exact ⟨_, cp, rfl, fun k hk => ⟨g, rfl, h.cell k hk⟩⟩

/-- What a call answers that tells a list of lists. -/
structure MR where
  zz : List (List Int)
  ok : Bool
def AnsM (R : MR) (w : World) (e : Ending) (w' : World) : Prop := ∃ s v, e = .returned (.tuple #[s, .bool R.ok]) ∧ OwnM w' w.heap.size s v R.zz ∧ Below w.heap.size w w'
theorem own_freshM {w : World} {lo n : Nat} (h : w.ownsRow lo 22 1 (.slice (some ⟨lo, 0, none⟩) 0 n) 0 []) : OwnM w lo (.slice (some ⟨lo, 0, none⟩) 0 n) [] [] :=
  ⟨h, rfl, by simp, by simp, by simp⟩

end Go.Proofs.Ytakdiiccdkjjcac
end

section
namespace Go.Proofs.Ytakdiiccdkjjcac
open Go.RowKit Go.WideShapes

/-- A row of two numbers, as a walk meets it. -/
theorem OwnM.pair {w : World} {lo : Nat} {v : Value} {vs : List Value} {rss : List (List Int)} (h : OwnM w lo v vs rss) (k : Nat) (hk : k < vs.length) (x y : Int) (he : rss[k]? = some [x, y]) :
    ∃ g cp, vs[k] = .slice (some ⟨g, 0, none⟩) 2 cp ∧ w.cell? ⟨g, 0, none⟩ = some (.int .i64 x) ∧ w.cell? ⟨g, 1, none⟩ = some (.int .i64 y) := by
  have hr := h.row k hk
  have hk2 : k < rss.length := by rw [h.len]; exact hk
  have e : rss[k] = [x, y] := by rw [List.getElem?_eq_getElem hk2] at he; injection he
  rw [e] at hr
  rcases hr.cases with ⟨_, h2⟩ | ⟨g, cp, hv, _⟩
  · cases h2
  · rw [hv] at hr
    exact ⟨g, cp, hv, hr.cell 0 (by simp), hr.cell 1 (by simp)⟩
theorem pow_facts (a : Nat) (ha : a < 6) : ∃ P : Int, P = 2 ^ a ∧ IntKind.i64.wrap (2 ^ a) = P ∧ wrap64 (2 ^ a) = P ∧ 0 ≤ P ∧ P ≤ 32 := by
  have key : ∀ a : Fin 6, IntKind.i64.wrap (2 ^ (a : Nat)) = 2 ^ (a : Nat) ∧ wrap64 (2 ^ (a : Nat)) = 2 ^ (a : Nat) ∧ (0 : Int) ≤ 2 ^ (a : Nat) ∧ (2 : Int) ^ (a : Nat) ≤ 32 := by decide +kernel
  obtain ⟨h1, h2, h3, h4⟩ := key ⟨a, ha⟩
  exact ⟨_, rfl, h1, h2, h3, h4⟩

theorem sum_in (x P : Int) (h : 0 ≤ x ∧ x ≤ 2000) (h3 : 0 ≤ P) (h4 : P ≤ 32) : IntKind.i64.wrap (x + P) = x + P := IntWalk.i64_in _ (by omega)


end Go.Proofs.Ytakdiiccdkjjcac
end

section
namespace Go.Proofs.Ytakdiiccdkjjcac
open Go.RowKit Go.WideShapes

def turnB (r c : Int) (xs : List Int) : BR := if goodB r c xs then ⟨c, r, turnL xs r.toNat c.toNat, true⟩ else BR.zero
theorem turnL_len (xs : List Int) (n m : Nat) (h : m ≤ 6) : (turnL xs n m).length = m := by simp [turnL]; omega
theorem turnB_len (r c : Int) (xs : List Int) : (turnB r c xs).xs.length ≤ 1048576 := by
  unfold turnB
  split
  · rename_i h
    have := good_facts h
    show (turnL xs r.toNat c.toNat).length ≤ _
    rw [turnL_len _ _ _ (by omega)]
    omega
  · simp [BR.zero]


set_option maxHeartbeats 1600000 in
theorem turned_any (r c : Int) (m : Nat → Int) (k j : Nat) (w : World) (hk : k < 6) (hj : j < 6) (hm : 0 ≤ m j ∧ m j < 64) :
    Calls Try.prog 161 #[gv r c m, .int .i64 k, .int .i64 j] w fun e w' => e = .returned (.bool ((m j).toNat.testBit k)) ∧ Below w.heap.size w w' := by
  have HB := Lib.hid (below_new (w := w) (.cells (gl r c m).toArray 83))
  go_enter Try.func161, Try.ntmps161
  go_wp2_with fail
  refine (at_any r c m j k _ hj hk hm).mono ?_
  rintro e w1 ⟨rfl, hb⟩
  have HB2 := Lib.hid (below_on HB.out hb)
  clear hb
  go_wp2_with fail
  go_ret
  exact ⟨rfl, HB2.out⟩

set_option maxRecDepth 100000 in
set_option maxHeartbeats 3200000 in
theorem implTurn_any (r c : Int) (xs : List Int) (w : World) (hx : xs.length ≤ 1048576) (lo : Nat) (s : Value) (hO : Own w lo s xs) :
    Calls Try.prog 127 #[.agg #[.int .i64 r, .int .i64 c, s]] w fun e w' => AnsB (turnB r c xs) w e w' := by
  have L0 := ((Law.start w).box (.int .i64 r) (.int .i64 c) s 28).box (.int .i64 0) (.int .i64 0) (.slice none 0 0) 28
  simp only [World.size_alloc] at L0
  obtain ⟨a, cap, rfl, hr⟩ := hO.reads
  have hr0 := L0.reads hr
  clear hO
  cases hg : goodB r c xs
  · rw [show turnB r c xs = BR.zero by simp [turnB, hg]]
    go_enter Try.func127, Try.ntmps127
    go_wp2_with fail
    refine (gridOf_no r c a cap xs _ hx hr0 hg).mono ?_
    rintro e w1 ⟨rfl, hb⟩
    have L1 := (L0.kept hb).kept (below_new (.cells #[.int .i64 0, .int .i64 0, .int .i64 0, .int .i64 0, .int .i64 0, .int .i64 0, .int .i64 0, .int .i64 0] 83))
    have ⟨_, n0, n1, n2, nf⟩ := L1.ownBox
    have HB := Lib.hid L1.below
    clear L0 L1 hb hg hr0
    go_wp2_with fail
    refine bodyPost_ret (v := .tuple #[.agg #[.int .i64 0, .int .i64 0, .slice none 0 0], .bool false]) (by simp [results, Try.results127, go_sem, n0, n1, n2]) rfl (ansB_zero _ _ ?_)
    exact ((HB.out.setCell (by simp <;> omega) _).setCell (by simp <;> omega) _).setCell (by simp <;> omega) _
  · have hgc := good_cell hg
    obtain ⟨g1, g2, g3, g4⟩ := good_facts hg
    obtain ⟨n, rfl⟩ := Int.eq_ofNat_of_zero_le (show 0 ≤ r by omega)
    obtain ⟨m, rfl⟩ := Int.eq_ofNat_of_zero_le (show 0 ≤ c by omega)
    rw [show turnB n m xs = ⟨m, n, turnL xs n m, true⟩ by simp [turnB, hg]]
    obtain ⟨M, hM, hc⟩ := gridOf_good n m a cap xs _ hx hr0 hg
    have HC := Lib.hid hc; clear hc
    simp only [← hM] at hgc
    have hj : (([0, 1, 2, 3, 4, 5].take m).map fun k => (rowM ((fun i j => (M j).toNat.testBit i : Nat → Nat → Bool) k) n : Int)) = turnL xs n m := by simp only [turnL, bit, hM]
    have HJ := Lib.hid hj
    have HZ := Lib.hid (turnL_len xs n m (by omega))
    clear hj g4 hM hg hr0 g3
    go_enter Try.func127, Try.ntmps127
    go_wp2_with fail
    refine HC.out.mono ?_
    rintro e w1 ⟨rfl, hb⟩
    have L1 := (L0.kept hb).kept (below_new (.cells #[.int .i64 n, .int .i64 m, .int .i64 (M 0), .int .i64 (M 1), .int .i64 (M 2), .int .i64 (M 3), .int .i64 (M 4), .int .i64 (M 5)] 83))
    clear L0 hb HC
    go_wp2_with fail
    refine (drawBoard_any m n 161 #[gv n m M] #[] (fun i j => (M j).toNat.testBit i) _ (by omega) (by omega) (fun _ _ => by kernel_rfl) (fun i j w' hi hj _ => turned_any n m M i j w' (by omega) (by omega) (hgc j))).mono ?_
    rintro e w2 ⟨v, rfl, hO, hb⟩
    rw [HJ.out] at hO
    have L2 := L1.own hb hO
    obtain ⟨a1, p1, hv, _⟩ := hO.reads
    subst hv
    have ⟨_, n0, n1, n2, nf⟩ := L2.tl.ownBox
    have hfin := L2.fin3 (n := w.heap.size + 1) (x := .int .i64 0) (y := .int .i64 0) (z := .slice none 0 0) (by simp) (.int .i64 m) (.int .i64 n) (.slice a1 (turnL xs n m).length p1)
    have HF := Lib.hid hfin
    rw [HZ.out] at HF ⊢
    clear L1 L2 hO hb hfin
    go_wp2_with fail
    exact bodyPost_ret (v := .tuple #[.agg #[.int .i64 m, .int .i64 n, .slice a1 m p1], .bool true]) (by simp [results, Try.results127, go_sem, n0, n1, n2]) rfl ⟨_, rfl, HF.out.1, HF.out.2⟩

end Go.Proofs.Ytakdiiccdkjjcac
end
