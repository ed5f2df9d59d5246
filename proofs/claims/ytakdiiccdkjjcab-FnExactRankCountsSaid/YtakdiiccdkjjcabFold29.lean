import Derived.Test.YtakdiiccdkjjcabFold28
import Derived.Test.YtakdiiccdkjjcabFold10
import Derived.Test.YtakdiiccdkjjcabFold27
import Derived.Deep.RegionHeld3
import Derived.Deep.RegionWith
import Derived.Test.YtakdiiccdkjjcabFold21
import Derived.Test.YtakdiiccdkjjcabFold26

section
namespace Go.Proofs.Ytakdiiccdkjjcab
open Go.RowKit Go.WideShapes

theorem bit_off (s c : Nat) (hs : s < 64) (hc : c < 6) : (bits .and .i64 ((s : Int) / 2 ^ c) 1 == 0) = !s.testBit c := by
  have key : ∀ t : Fin 64, ∀ c : Fin 6, (bits .and .i64 (((t : Nat) : Int) / 2 ^ (c : Nat)) 1 == 0) = !(t : Nat).testBit c := by decide +kernel
  exact key ⟨s, hs⟩ ⟨c, hc⟩
/-- A grid's cells, as a test. -/
abbrev bM (M : Nat → Int) (a b : Nat) : Bool := (M a).toNat.testBit b
/-- The rows of a grid. -/
def rowL (n : Nat) (M : Nat → Int) : List Int := (List.range n).map M
theorem rowL_len (n : Nat) (M : Nat → Int) : (rowL n M).length = n := by simp [rowL]
theorem rowL_get (n : Nat) (M : Nat → Int) (k : Nat) (h : k < n) : (rowL n M).getD k 0 = M k := by simp [rowL, List.getD, h]
theorem wR_rows (m : Nat) (B B' : Nat → Nat → Bool) (d : Nat) : ∀ f t k, (∀ r c, f ≤ r → r < f + d → B r c = B' r c) → wR m B d f t k = wR m B' d f t k := by
  induction d with
  | zero => intro f t k _; rfl
  | succ d ih =>
    intro f t k h
    have ih' := fun t k => ih (f + 1) t k (fun r c h1 h2 => h r c (by omega) (by omega))
    rw [wR, wR, ih' t k]
    congr 2
    refine List.map_congr_left (fun c _ => ?_)
    unfold term
    rw [h f c (Nat.le_refl _) (by omega), ih']
theorem wR_rowL (m n : Nat) (M : Nat → Int) (k : Nat) : wR m (bt (rowL n M)) n 0 0 k = wR m (bM M) n 0 0 k :=
  wR_rows m _ _ n 0 0 k (fun r c _ h => by
    show ((rowL n M).getD r 0).toNat.testBit c = _
    rw [rowL_get n M r (by omega)])

set_option maxRecDepth 100000 in
set_option maxHeartbeats 3200000 in
theorem rookNumbers_any (n m : Nat) (M : Nat → Int) (w : World) (hn : n ≤ 6) (hm : m ≤ 6) (hgc : ∀ k, k < 6 → 0 ≤ M k ∧ M k < 64) :
    Calls Try.prog 85 #[gv n m M] w fun e w' => ∃ g p, e = .returned (.slice (some ⟨g, 0, none⟩) (min n m + 1) p) ∧ Own w' w.heap.size (.slice (some ⟨g, 0, none⟩) (min n m + 1) p) (lstL (min n m + 1) (wR m (bM M) n 0 0)) ∧ Below w.heap.size w w' := by
  have L0 := ((Law.start w).has (gl n m M) 64).drew
  have ⟨e0, e1, e2, e3, e4, e5, e6, e7, ef⟩ := L0.ownHas.eight
  have hn0 : (0 : Int) ≤ n := by omega
  have hn6 : (n : Int) ≤ 6 := by omega
  have hrd : Reads (w.alloc (.cells (gl n m M).toArray 64)).drew (some ⟨w.heap.size, 2, none⟩) n (rowL n M) := by
    refine ⟨(rowL_len n M).symm, .inr ⟨_, 2, rfl, L0.ownHas.lt, fun j hj => ?_⟩⟩
    rw [rowL_get n M j hj]
    have := L0.ownHas.cell (2 + j)
    rw [gl_get n m M j (by omega)] at this
    exact this
  have HC := Lib.hid (fun p W (h : Reads W (some ⟨w.heap.size, 2, none⟩) n (rowL n M)) => numbersOfRows_any n m (rowL n M) (some ⟨w.heap.size, 2, none⟩) p W (rowL_len n M) (by omega) (by omega) (fun k hk => by rw [rowL_get n M k hk]; have := hgc k (by omega); omega) h)
  have HW := Lib.hid (wR_rowL m n M)
  have HRD := Lib.hid hrd
  have HL := Lib.hid L0
  clear L0 hrd hgc
  rw [show w.alloc (.cells (gl n m M).toArray 64) = w.alloc (.cells #[.int .i64 n, .int .i64 m, .int .i64 (M 0), .int .i64 (M 1), .int .i64 (M 2), .int .i64 (M 3), .int .i64 (M 4), .int .i64 (M 5)] 64) from rfl] at HL HRD e0 e1 ef
  go_enter Try.func85, Try.ntmps85
  go_upto_region 1 with fail
  generalize w.alloc (.cells #[.int .i64 n, .int .i64 m, .int .i64 (M 0), .int .i64 (M 1), .int .i64 (M 2), .int .i64 (M 3), .int .i64 (M 4), .int .i64 (M 5)] 64) = w5 at *
  clear e2 e3 e4 e5 e6 e7
  go_region_with ((go_at_call 129; ((with_reducible refine (HC.out _ _ HRD.out).mono ?_); rintro e wA ⟨gA, pA, rfl, OA, hbA⟩; have HLA := Lib.hid (HL.out.own hbA OA); clear OA hbA)))
  all_goals
    go_wp2_with fail
    go_ret
    have hO := HLA.out.ownLo
    rw [lstL_congr (min n m + 1) _ _ (fun k _ => HW.out k)] at hO
    exact ⟨_, _, rfl, hO, HLA.out.below⟩
end Go.Proofs.Ytakdiiccdkjjcab
end

section
namespace Go.Proofs.Ytakdiiccdkjjcab
open Go.RowKit Go.WideShapes

/-- Is a number in a list? -/
def hasI (xs : List Int) (c : Int) : Bool := xs.contains c
theorem hasI_iff {xs : List Int} {c : Int} : hasI xs c = true ↔ c ∈ xs := by unfold hasI; simp
theorem hasI_no {xs : List Int} {c : Int} : hasI xs c = false ↔ c ∉ xs := by rw [← Bool.not_eq_true, hasI_iff]
theorem hasI_nil (c : Int) : hasI [] c = false := rfl
theorem hasI_snoc (l : List Int) (y c : Int) : hasI (l ++ [y]) c = (hasI l c || y == c) := by
  rw [Bool.eq_iff_iff, Bool.or_eq_true, hasI_iff, hasI_iff, beq_iff_eq, List.mem_append, List.mem_singleton]
  exact ⟨fun h => h.imp id Eq.symm, fun h => h.imp id Eq.symm⟩
theorem take_snoc (xs : List Int) (k : Nat) (hk : k < xs.length) : xs.take (k + 1) = xs.take k ++ [xs.getD k 0] := by
  rw [List.take_succ_eq_append_getElem hk]
  simp [List.getD, hk]

/-- Is the number at j one for the row j, the ones before it being there? -/
def goodAt (xs : List Int) (m : Nat) (P : List Int) (j : Nat) : Bool :=
  (P.getD j 0 == -1) || (inB 0 (P.getD j 0) ((m : Int) - 1) && ((xs.getD j 0).toNat.testBit (P.getD j 0).toNat && !hasI (P.take j) (P.getD j 0)))
def goodUp (xs : List Int) (m : Nat) (P : List Int) : Nat → Bool
  | 0 => true
  | k + 1 => goodUp xs m P k && goodAt xs m P k
theorem goodUp_no (xs : List Int) (m : Nat) (P : List Int) (k n : Nat) (h : goodAt xs m P k = false) (hk : k < n) : goodUp xs m P n = false := by
  induction n with
  | zero => omega
  | succ n ih =>
    rw [goodUp]
    by_cases e : k = n
    · subst e; rw [h, Bool.and_false]
    · rw [ih (by omega), Bool.false_and]
theorem goodUp_at (xs : List Int) (m : Nat) (P : List Int) (n k : Nat) (h : goodUp xs m P n = true) (hk : k < n) : goodAt xs m P k = true := by
  induction n with
  | zero => omega
  | succ n ih =>
    rw [goodUp, Bool.and_eq_true] at h
    by_cases e : k = n
    · subst e; exact h.2
    · exact ih h.1 (by omega)
/-- A placement? -/
def placeP (n m : Nat) (xs P : List Int) : Bool := decide (P.length = n) && goodUp xs m P n

/-- The columns of the first rooks, as a set. -/
def tkn (P : List Int) : Nat → Nat
  | 0 => 0
  | k + 1 => if P.getD k 0 = -1 then tkn P k else tkn P k ||| 2 ^ (P.getD k 0).toNat
theorem or_put (t c d : Nat) (ht : t < 64) (hc : c < 6) (hd : d < 6) : (t ||| 2 ^ c).testBit d = (t.testBit d || decide (c = d)) := by
  have key : ∀ t : Fin 64, ∀ c : Fin 6, ∀ d : Fin 6, ((t : Nat) ||| 2 ^ (c : Nat)).testBit d = ((t : Nat).testBit d || decide ((c : Nat) = d)) := by decide +kernel
  exact key ⟨t, ht⟩ ⟨c, hc⟩ ⟨d, hd⟩
theorem good_col {xs : List Int} {m : Nat} {P : List Int} {j : Nat} (h : goodAt xs m P j = true) (he : P.getD j 0 ≠ -1) : 0 ≤ P.getD j 0 ∧ P.getD j 0 < m ∧ (xs.getD j 0).toNat.testBit (P.getD j 0).toNat = true ∧ P.getD j 0 ∉ P.take j := by
  unfold goodAt at h
  rw [Bool.or_eq_true, beq_iff_eq] at h
  rcases h with h | h
  · exact absurd h he
  · rw [Bool.and_eq_true, inB_iff, Bool.and_eq_true, Bool.not_eq_true'] at h
    refine ⟨h.1.1, by omega, h.2.1, ?_⟩
    exact hasI_no.1 h.2.2
theorem tkn_lt (xs : List Int) (m : Nat) (hm : m ≤ 6) (P : List Int) (k : Nat) (h : goodUp xs m P k = true) : tkn P k < 64 := by
  induction k with
  | zero => simp [tkn]
  | succ k ih =>
    rw [goodUp, Bool.and_eq_true] at h
    have := ih h.1
    rw [tkn]
    split
    · exact this
    · rename_i he
      obtain ⟨h1, h2, _⟩ := good_col h.2 he
      exact Nat.or_lt_two_pow (n := 6) this (Nat.pow_lt_pow_right (by omega) (by omega))
theorem tkn_mem (xs : List Int) (m : Nat) (hm : m ≤ 6) (P : List Int) (k : Nat) (hk : k ≤ P.length) (h : goodUp xs m P k = true) (c : Nat) (hc : c < 6) : (tkn P k).testBit c = hasI (P.take k) (c : Int) := by
  induction k with
  | zero => simp [tkn, hasI]
  | succ k ih =>
    have h' := h
    rw [goodUp, Bool.and_eq_true] at h
    have hlt := tkn_lt xs m hm P k h.1
    rw [tkn, take_snoc P k (by omega), hasI_snoc]
    split
    · rename_i he
      have h3 : ((-1 : Int) == (c : Int)) = false := by rw [beq_eq_false_iff_ne]; omega
      rw [ih (by omega) h.1, he, h3, Bool.or_false]
    · rename_i he
      obtain ⟨h1, h2, _⟩ := good_col h.2 he
      obtain ⟨d, hd⟩ := Int.eq_ofNat_of_zero_le h1
      rw [hd] at h2 ⊢
      rw [show ((d : Int)).toNat = d by simp, or_put _ _ _ hlt (by omega) hc, ih (by omega) h.1]
      by_cases e : d = c
      · subst e; simp
      · have h3 : (c : Int) ≠ d := by omega
        have h4 : ((d : Int) == (c : Int)) = false := by rw [beq_eq_false_iff_ne]; omega
        rw [h4]
        simp [e]
/-- The places of a list: what is laid for each of the six rows. -/
def plF (P : List Int) (k : Nat) (j : Nat) : Int := if j < k then P.getD j 0 else -1
/-- The cells of an array of six. -/
def pl6 (f : Nat → Int) : List Value := [.int .i64 (f 0), .int .i64 (f 1), .int .i64 (f 2), .int .i64 (f 3), .int .i64 (f 4), .int .i64 (f 5)]
abbrev pv6 (f : Nat → Int) : Value := .agg #[.int .i64 (f 0), .int .i64 (f 1), .int .i64 (f 2), .int .i64 (f 3), .int .i64 (f 4), .int .i64 (f 5)]
theorem pl6_get (f : Nat → Int) (i : Nat) (h : i < 6) : (pl6 f)[i]? = some (.int .i64 (f i)) := by
  have : i = 0 ∨ i = 1 ∨ i = 2 ∨ i = 3 ∨ i = 4 ∨ i = 5 := by omega
  rcases this with rfl | rfl | rfl | rfl | rfl | rfl <;> rfl
theorem pl6_set (f g : Nat → Int) (i : Nat) (h : i < 6) (x : Int) (hx : g i = x) (hg : ∀ k, k < 6 → k ≠ i → g k = f k) : (pl6 f).set i (.int .i64 x) = pl6 g := by
  have : i = 0 ∨ i = 1 ∨ i = 2 ∨ i = 3 ∨ i = 4 ∨ i = 5 := by omega
  subst hx
  rcases this with rfl | rfl | rfl | rfl | rfl | rfl <;> simp [pl6, hg]
theorem pl6_congr (f g : Nat → Int) (h : ∀ k, k < 6 → f k = g k) : pl6 f = pl6 g := by simp [pl6, h]
theorem Has.six {w : World} {b : Nat} {v0 v1 v2 v3 v4 v5 : Value} {t : TypeId} (h : Has w b [v0, v1, v2, v3, v4, v5] t) :
    w.cell? ⟨b, 0, none⟩ = some v0 ∧ w.cell? ⟨b, 1, none⟩ = some v1 ∧ w.cell? ⟨b, 2, none⟩ = some v2 ∧ w.cell? ⟨b, 3, none⟩ = some v3 ∧ w.cell? ⟨b, 4, none⟩ = some v4 ∧ w.cell? ⟨b, 5, none⟩ = some v5 ∧ ∀ o, w.frozen? ⟨b, o, none⟩ = false :=
  ⟨h.cell 0, h.cell 1, h.cell 2, h.cell 3, h.cell 4, h.cell 5, h.free⟩
theorem Reads.take {w : World} {a : Option Addr} {zs : List Int} (h : Reads w a zs.length zs) (k : Nat) (hk : k ≤ zs.length) : Reads w a k (zs.take k) := by
  refine ⟨by simp [hk], ?_⟩
  by_cases h0 : k = 0
  · exact .inl h0
  · obtain ⟨b, off, e, hb, hc⟩ := reads_row h (by omega)
    refine .inr ⟨b, off, e, hb, fun j hj => ?_⟩
    rw [hc j (by omega)]
    simp [List.getD, hj]

end Go.Proofs.Ytakdiiccdkjjcab
end

section
namespace Go.Proofs.Ytakdiiccdkjjcab
open Go.RowKit

/-- How far a walk over s things comes from the j-th one on, and whether it goes on behind them. -/
def runV (cont : Nat → Bool) : Nat → Nat → Nat × Bool
  | _, 0 => (0, true)
  | j, s + 1 => if cont j then ((runV cont (j + 1) s).1 + 1, (runV cont (j + 1) s).2) else (1, false)
theorem runV_full (cont : Nat → Bool) (s : Nat) : ∀ j, (runV cont j s).2 = true → (runV cont j s).1 = s := by
  induction s with
  | zero => intro j _; rfl
  | succ s ih =>
    intro j h
    rw [runV] at h ⊢
    by_cases hc : cont j = true
    · rw [if_pos hc] at h ⊢
      simp only at h ⊢
      rw [ih (j + 1) h]
    · rw [if_neg hc] at h
      cases h
theorem runV_add (cont : Nat → Bool) (a b : Nat) : ∀ j, runV cont j (a + b) = if (runV cont j a).2 then (a + (runV cont (j + a) b).1, (runV cont (j + a) b).2) else runV cont j a := by
  induction a with
  | zero => intro j; simp [runV]
  | succ a ih =>
    intro j
    rw [show a + 1 + b = (a + b) + 1 by omega, runV, runV]
    by_cases hc : cont j = true
    · rw [if_pos hc, if_pos hc, ih (j + 1)]
      simp only
      by_cases h2 : (runV cont (j + 1) a).2 = true
      · rw [if_pos h2, if_pos h2, show j + 1 + a = j + (a + 1) by omega]
        simp only
        rw [show a + (runV cont (j + (a + 1)) b).1 + 1 = a + 1 + (runV cont (j + (a + 1)) b).1 by omega]
      · rw [if_neg h2, if_neg h2]
    · rw [if_neg hc, if_neg hc]
      simp
theorem runV_all (cont : Nat → Bool) (h : ∀ j, cont j = true) (s : Nat) : ∀ j, runV cont j s = (s, true) := by
  induction s with
  | zero => intro j; rfl
  | succ s ih => intro j; rw [runV, if_pos (h j), ih]

/-- The placements of d rows from f on, with k rooks in columns that are not in t, in order. -/
def pl (m : Nat) (B : Nat → Nat → Bool) : Nat → Nat → Nat → Nat → List (List Int)
  | 0, _, _, k => if k = 0 then [[]] else []
  | d + 1, f, t, k => (pl m B d (f + 1) t k).map (fun Q => -1 :: Q) ++ (List.range m).flatMap (fun c => if decide (0 < k) && (B f c && !t.testBit c) then (pl m B d (f + 1) (t ||| 2 ^ c) (k - 1)).map (fun Q => (c : Int) :: Q) else [])
/-- What one column brings. -/
def blk (m : Nat) (B : Nat → Nat → Bool) (d f t k c : Nat) : List (List Int) := if decide (0 < k) && (B f c && !t.testBit c) then (pl m B d (f + 1) (t ||| 2 ^ c) (k - 1)).map (fun Q => (c : Int) :: Q) else []
/-- .. and all before it. -/
def plc (m : Nat) (B : Nat → Nat → Bool) (d f t k c : Nat) : List (List Int) := (pl m B d (f + 1) t k).map (fun Q => -1 :: Q) ++ (List.range c).flatMap (blk m B d f t k)
theorem plc_zero (m : Nat) (B : Nat → Nat → Bool) (d f t k : Nat) : plc m B d f t k 0 = (pl m B d (f + 1) t k).map (fun Q => -1 :: Q) := by simp [plc]
theorem plc_full (m : Nat) (B : Nat → Nat → Bool) (d f t k : Nat) : plc m B d f t k m = pl m B (d + 1) f t k := rfl
theorem plc_succ (m : Nat) (B : Nat → Nat → Bool) (d f t k c : Nat) : plc m B d f t k (c + 1) = plc m B d f t k c ++ blk m B d f t k c := by
  unfold plc
  rw [List.range_succ, List.flatMap_append, List.append_assoc]
  simp
theorem plc_split (m : Nat) (B : Nat → Nat → Bool) (d f t k c e : Nat) (h : c ≤ e) : ∃ tl, plc m B d f t k e = plc m B d f t k c ++ tl := by
  induction e with
  | zero => exact ⟨[], by rw [show c = 0 by omega]; simp⟩
  | succ e ih =>
    by_cases h2 : c = e + 1
    · subst h2; exact ⟨[], by simp⟩
    · obtain ⟨tl, ht⟩ := ih (by omega)
      exact ⟨tl ++ blk m B d f t k e, by rw [plc_succ, ht, List.append_assoc]⟩
theorem blk_no (m : Nat) (B : Nat → Nat → Bool) (d f t k c : Nat) (h : k = 0 ∨ B f c = false ∨ t.testBit c = true) : blk m B d f t k c = [] := by
  unfold blk
  rcases h with rfl | h | h
  · simp
  · simp [h]
  · simp [h]
theorem blk_yes (m : Nat) (B : Nat → Nat → Bool) (d f t k c : Nat) (hk : 0 < k) (h : B f c = true) (ht : t.testBit c = false) : blk m B d f t k c = (pl m B d (f + 1) (t ||| 2 ^ c) (k - 1)).map (fun Q => (c : Int) :: Q) := by
  unfold blk
  simp [hk, h, ht]
theorem plc_none (m : Nat) (B : Nat → Nat → Bool) (d f t c e : Nat) (h : c ≤ e) : plc m B d f t 0 e = plc m B d f t 0 c := by
  induction e with
  | zero => rw [show c = 0 by omega]
  | succ e ih =>
    by_cases h2 : c = e + 1
    · subst h2; rfl
    · rw [plc_succ, blk_no _ _ _ _ _ _ _ (.inl rfl), List.append_nil, ih (by omega)]
theorem pl_none (m : Nat) (B : Nat → Nat → Bool) (d : Nat) : ∀ f t k, d < k → pl m B d f t k = [] := by
  induction d with
  | zero => intro f t k h; rw [pl, if_neg (by omega)]
  | succ d ih =>
    intro f t k h
    rw [pl, ih _ _ _ (by omega)]
    simp only [List.map_nil, List.nil_append]
    rw [List.flatMap_eq_nil_iff]
    intro c _
    split
    · rw [ih _ _ _ (by omega)]; rfl
    · rfl
theorem pl_len (m : Nat) (B : Nat → Nat → Bool) (d : Nat) : ∀ f t k, (pl m B d f t k).length = wR m B d f t k := by
  induction d with
  | zero => intro f t k; rw [pl, wR]; split <;> simp
  | succ d ih =>
    intro f t k
    rw [pl, wR, List.length_append, List.length_map, ih, List.length_flatMap]
    congr 2
    refine List.map_congr_left (fun c _ => ?_)
    unfold term
    by_cases h : (B f c && !t.testBit c) = true
    · rw [if_pos h]
      by_cases hk : k = 0
      · subst hk; simp
      · rw [if_pos (by simp [h]; omega), if_neg hk, List.length_map, ih]
    · rw [if_neg h, if_neg (by rw [Bool.and_eq_true]; exact fun e => h e.2)]
      rfl
theorem pl_rows (m : Nat) (B : Nat → Nat → Bool) (d : Nat) : ∀ f t k, ∀ P ∈ pl m B d f t k, P.length = d := by
  induction d with
  | zero =>
    intro f t k P h
    rw [pl] at h
    split at h
    · rw [List.mem_singleton.1 h]; rfl
    · simp at h
  | succ d ih =>
    intro f t k P h
    rw [pl, List.mem_append, List.mem_map, List.mem_flatMap] at h
    rcases h with ⟨Q, hQ, rfl⟩ | ⟨c, _, h⟩
    · rw [List.length_cons, ih _ _ _ Q hQ]
    · split at h
      · obtain ⟨Q, hQ, rfl⟩ := List.mem_map.1 h
        rw [List.length_cons, ih _ _ _ Q hQ]
      · simp at h

theorem drop_at (L : List (List Int)) (j : Nat) (A T : List (List Int)) (f : List Int → List Int) (rest : List (List Int)) (h : L.drop j = (A ++ T).map f ++ rest) : L.drop (j + A.length) = T.map f ++ rest := by
  rw [← List.drop_drop, h, List.map_append, List.append_assoc, List.drop_left' (by simp)]
theorem map_snoc (X : List (List Int)) (P : List Int) (c : Int) : (X.map (fun Q => c :: Q)).map (fun Q => P ++ Q) = X.map (fun Q => (P ++ [c]) ++ Q) := by
  rw [List.map_map]
  refine List.map_congr_left (fun Q _ => ?_)
  simp

end Go.Proofs.Ytakdiiccdkjjcab
end
