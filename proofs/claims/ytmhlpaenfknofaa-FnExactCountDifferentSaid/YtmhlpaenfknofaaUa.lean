/- Queens: lists, attacks and how lists go on, plain. No condition. -/
import Derived.Test.YtmhlpaenfknofaaC
namespace Go.Proofs.Ytmhlpaenfknofaa
open Go.RowKit

/-- Different numbers below n. -/
def inN (n : Int) (xs : List Int) : Bool := within 0 (n - 1) xs && decide xs.Nodup
def gdB (xs : List Int) : Bool := decide (1 ≤ (xs.length : Int) ∧ (xs.length : Int) ≤ 8) && inN xs.length xs
def linB (n : Int) (xs : List Int) : Bool := decide (1 ≤ n ∧ n ≤ 8) && (decide ((xs.length : Int) ≤ n) && inN n xs)
theorem lin_full (xs : List Int) : linB xs.length xs = gdB xs := by simp [linB, gdB]
theorem inN_facts {n : Int} {xs : List Int} (h : inN n xs = true) : (∀ x ∈ xs, 0 ≤ x ∧ x < n) ∧ xs.Nodup := by
  unfold inN within at h
  rw [Bool.and_eq_true, List.all_eq_true, decide_eq_true_eq] at h
  refine ⟨fun x hx => ?_, h.2⟩
  have := h.1 x hx
  rw [decide_eq_true_eq] at this
  omega
theorem inN_of {n : Int} {xs : List Int} (h1 : ∀ x ∈ xs, 0 ≤ x ∧ x < n) (h2 : xs.Nodup) : inN n xs = true := by
  unfold inN within
  rw [Bool.and_eq_true, List.all_eq_true, decide_eq_true_eq]
  refine ⟨fun x hx => ?_, h2⟩
  have := h1 x hx
  rw [decide_eq_true_eq]
  omega
theorem lin_facts {n : Int} {xs : List Int} (h : linB n xs = true) : 1 ≤ n ∧ n ≤ 8 ∧ (xs.length : Int) ≤ n ∧ (∀ x ∈ xs, 0 ≤ x ∧ x < n) ∧ xs.Nodup := by
  unfold linB at h
  simp only [Bool.and_eq_true, decide_eq_true_eq] at h
  obtain ⟨h1, h2, h3⟩ := h
  exact ⟨h1.1, h1.2, h2, (inN_facts h3).1, (inN_facts h3).2⟩
theorem gd_facts {xs : List Int} (h : gdB xs = true) : 1 ≤ xs.length ∧ xs.length ≤ 8 ∧ (∀ x ∈ xs, 0 ≤ x ∧ x < (xs.length : Int)) ∧ xs.Nodup := by
  rw [← lin_full] at h
  obtain ⟨h1, h2, _, h3, h4⟩ := lin_facts h
  exact ⟨by omega, by omega, h3, h4⟩
theorem getD_mem' {xs : List Int} {k : Nat} (hk : k < xs.length) : xs.getD k 0 ∈ xs := by
  simp [List.getD, hk]
theorem gd_at {xs : List Int} (h : gdB xs = true) (k : Nat) (hk : k < xs.length) : 0 ≤ xs.getD k 0 ∧ xs.getD k 0 < (xs.length : Int) := (gd_facts h).2.2.1 _ (getD_mem' hk)
theorem lin_at {n : Int} {xs : List Int} (h : linB n xs = true) (k : Nat) (hk : k < xs.length) : 0 ≤ xs.getD k 0 ∧ xs.getD k 0 < n := (lin_facts h).2.2.2.1 _ (getD_mem' hk)
theorem inN_no (n : Int) (xs : List Int) (k : Nat) (hk : k < xs.length) (h : ¬ (0 ≤ xs.getD k 0 ∧ xs.getD k 0 < n)) : inN n xs = false := by
  cases e : inN n xs
  · rfl
  · exact absurd ((inN_facts e).1 _ (getD_mem' hk)) h
theorem inN_twice (n : Int) (xs : List Int) (k : Nat) (hk : k < xs.length) (h : xs.getD k 0 ∈ xs.take k) : inN n xs = false := by
  cases e : inN n xs
  · rfl
  · have h2 : (xs.take (k + 1)).Nodup := (inN_facts e).2.sublist (List.take_sublist _ _)
    rw [List.take_succ_eq_append_getElem hk, List.nodup_append] at h2
    have e : xs.getD k 0 = xs[k] := by simp [List.getD, hk]
    rw [e] at h
    exact absurd rfl (h2.2.2 _ h _ (by simp))
theorem inN_step (n : Int) (xs : List Int) (k : Nat) (hk : k < xs.length) (h0 : inN n (xs.take k) = true) (h1 : 0 ≤ xs.getD k 0) (h2 : xs.getD k 0 < n) (h3 : ¬ xs.getD k 0 ∈ xs.take k) : inN n (xs.take (k + 1)) = true := by
  have e : xs.getD k 0 = xs[k] := by simp [List.getD, hk]
  rw [e] at h1 h2 h3
  obtain ⟨a, b⟩ := inN_facts h0
  rw [List.take_succ_eq_append_getElem hk]
  refine inN_of (fun x hx => ?_) ?_
  · rcases List.mem_append.1 hx with hx | hx
    · exact a x hx
    · rw [List.mem_singleton] at hx
      subst hx
      exact ⟨h1, h2⟩
  · rw [List.nodup_append]
    refine ⟨b, by simp, fun x hx y hy => ?_⟩
    rw [List.mem_singleton] at hy
    subst hy
    intro e
    subst e
    exact h3 hx

/-- A list of numbers, 0 behind its end. -/
def cF (xs : List Int) : Nat → Int := fun i => xs.getD i 0
/-- The cells of a list of columns, and as a value. -/
def ql (c : Int) (F : Nat → Int) : List Value := [.int .i64 c, .int .i64 (F 0), .int .i64 (F 1), .int .i64 (F 2), .int .i64 (F 3), .int .i64 (F 4), .int .i64 (F 5), .int .i64 (F 6), .int .i64 (F 7)]
abbrev qv (c : Int) (F : Nat → Int) : Value := .agg #[.int .i64 c, .int .i64 (F 0), .int .i64 (F 1), .int .i64 (F 2), .int .i64 (F 3), .int .i64 (F 4), .int .i64 (F 5), .int .i64 (F 6), .int .i64 (F 7)]
theorem eight_cases {i : Nat} (h : i < 8) : i = 0 ∨ i = 1 ∨ i = 2 ∨ i = 3 ∨ i = 4 ∨ i = 5 ∨ i = 6 ∨ i = 7 := by omega
theorem ql_get (c : Int) (F : Nat → Int) (i : Nat) (h : i < 8) : (ql c F)[1 + i]? = some (.int .i64 (F i)) := by
  rcases eight_cases h with rfl | rfl | rfl | rfl | rfl | rfl | rfl | rfl <;> rfl
theorem ql_set (c : Int) (F G : Nat → Int) (i : Nat) (h : i < 8) (x : Int) (hx : G i = x) (ho : ∀ k, k ≠ i → G k = F k) : (ql c F).set (1 + i) (.int .i64 x) = ql c G := by
  rcases eight_cases h with rfl | rfl | rfl | rfl | rfl | rfl | rfl | rfl <;> simp [ql, hx, ho]
theorem ql_put (c d : Int) (F : Nat → Int) : (ql c F).set 0 (.int .i64 d) = ql d F := rfl
theorem cF_set (xs : List Int) (i : Nat) (x : Int) (hi : i < xs.length) : cF (xs.set i x) i = x ∧ ∀ k, k ≠ i → cF (xs.set i x) k = cF xs k := by
  unfold cF
  refine ⟨by simp [List.getD, hi], fun k hk => ?_⟩
  simp only [List.getD, List.getElem?_set]
  rw [if_neg (fun e => hk e.symm)]
theorem cF_snoc (xs : List Int) (x : Int) : cF (xs ++ [x]) xs.length = x ∧ ∀ k, k ≠ xs.length → cF (xs ++ [x]) k = cF xs k := by
  unfold cF
  refine ⟨by simp [List.getD], fun k hk => ?_⟩
  simp only [List.getD]
  by_cases h : k < xs.length
  · rw [List.getElem?_append_left h]
  · rw [List.getElem?_append_right (by omega), List.getElem?_eq_none (by simp; omega), List.getElem?_eq_none (by omega)]
theorem cF_take (xs : List Int) (k : Nat) (hk : k < xs.length) : cF (xs.take (k + 1)) k = xs.getD k 0 ∧ ∀ j, j ≠ k → cF (xs.take (k + 1)) j = cF (xs.take k) j := by
  have hl : (xs.take k).length = k := by simp; omega
  have h := cF_snoc (xs.take k) xs[k]
  rw [hl] at h
  rw [List.take_succ_eq_append_getElem hk]
  exact ⟨by rw [h.1]; simp [List.getD, hk], h.2⟩
theorem cF_ext {n : Nat} {xs ys : List Int} (hx : xs.length = n) (hy : ys.length = n) (h : ∀ i, i < n → cF xs i = cF ys i) : xs = ys := by
  refine List.ext_getElem (by omega) (fun i h1 h2 => ?_)
  have := h i (by omega)
  simpa [cF, List.getD, h1, h2] using this

/-- The pairs of rows with a property, in order. -/
def rowP (P : Nat → Nat → Bool) (r m : Nat) : List (List Int) := ((List.range m).filter (fun s => decide (r < s) && P r s)).map (fun (s : Nat) => [(r : Int), (s : Int)])
def meets (P : Nat → Nat → Bool) (c k : Nat) : List (List Int) := (List.range k).flatMap (fun r => rowP P r c)
theorem rowP_first (P : Nat → Nat → Bool) (r m : Nat) (h : m ≤ r + 1) : rowP P r m = [] := by
  unfold rowP
  rw [List.map_eq_nil_iff, List.filter_eq_nil_iff]
  intro s hs
  rw [List.mem_range] at hs
  simp; omega
theorem rowP_succ (P : Nat → Nat → Bool) (r m : Nat) (h : r < m) : rowP P r (m + 1) = rowP P r m ++ (if P r m then [[(r : Int), (m : Int)]] else []) := by
  unfold rowP
  rw [List.range_succ, List.filter_append, List.map_append]
  congr 1
  by_cases hp : P r m = true
  · simp [hp, h]
  · simp [hp]
theorem meets_succ (P : Nat → Nat → Bool) (c k : Nat) : meets P c (k + 1) = meets P c k ++ rowP P k c := by
  unfold meets
  rw [List.range_succ, List.flatMap_append]
  simp
theorem rowP_len (P : Nat → Nat → Bool) (r m : Nat) : (rowP P r m).length ≤ m := by
  unfold rowP
  rw [List.length_map]
  exact Nat.le_trans (List.length_filter_le _ _) (by simp)
theorem meets_len (P : Nat → Nat → Bool) (c k : Nat) : (meets P c k).length ≤ k * c := by
  induction k with
  | zero => simp [meets]
  | succ k ih =>
    rw [meets_succ, List.length_append, Nat.succ_mul]
    have := rowP_len P k c
    omega
theorem fmap_congr {α β : Type} (l : List α) (f g : α → List β) (h : ∀ x ∈ l, f x = g x) : l.flatMap f = l.flatMap g := by
  induction l with
  | nil => rfl
  | cons x t ih => rw [List.flatMap_cons, List.flatMap_cons, h x (by simp), ih (fun y hy => h y (by simp [hy]))]
theorem meets_congr (P P' : Nat → Nat → Bool) (c k : Nat) (h : ∀ r s, r < s → s < c → P r s = P' r s) : meets P c k = meets P' c k := by
  unfold meets
  have : ∀ r ∈ List.range k, rowP P r c = rowP P' r c := by
    intro r hr
    unfold rowP
    congr 1
    refine List.filter_congr (fun s hs => ?_)
    rw [List.mem_range] at hs hr
    by_cases hrs : r < s
    · rw [h r s hrs hs]
    · simp [hrs]
  exact fmap_congr _ _ _ this
theorem meets_nil (P : Nat → Nat → Bool) (c : Nat) : meets P c c = [] ↔ ∀ r s, r < s → s < c → P r s = false := by
  unfold meets
  rw [List.flatMap_eq_nil_iff]
  constructor
  · intro h r s hrs hs
    have := h r (List.mem_range.2 (by omega))
    unfold rowP at this
    rw [List.map_eq_nil_iff, List.filter_eq_nil_iff] at this
    have := this s (List.mem_range.2 hs)
    simpa [hrs] using this
  · intro h r hr
    unfold rowP
    rw [List.map_eq_nil_iff, List.filter_eq_nil_iff]
    intro s hs
    rw [List.mem_range] at hs hr
    by_cases hrs : r < s
    · simp [hrs, h r s hrs hs]
    · simp [hrs]

/-- Moves of bishops, on a board and on a torus. -/
def bQ (d r : Int) : Bool := d == r || d == -r
def tQ (n : Int) (d r : Int) : Bool := (d + r).tmod n == 0 || (d - r).tmod n == 0
/-- Rows attack each other. -/
def attP (D : Int → Int → Bool) (xs : List Int) : Nat → Nat → Bool := fun r s => D ((s : Int) - r) (xs.getD s 0 - xs.getD r 0)
def absQ (x : Int) : Int := if x > -x then x else -x
/-- .. in the specification's words. -/
def absP (xs : List Int) : Nat → Nat → Bool := fun r s => absQ (xs.getD r 0 - xs.getD s 0) == (s : Int) - r
theorem absP_att (xs : List Int) (r s : Nat) (h : r < s) : absP xs r s = attP bQ xs r s := by
  unfold absP attP bQ absQ
  rw [Bool.eq_iff_iff]
  simp only [beq_iff_eq, Bool.or_eq_true]
  split <;> omega

/-- Can the column c stand behind the list? -/
def okW (D : Int → Int → Bool) (q : List Int) (c : Int) : Bool := (List.range q.length).all (fun r => !(q.getD r 0 == c || D ((q.length : Int) - r) (c - q.getD r 0)))
def nxt (D : Int → Int → Bool) (n : Nat) (q : List Int) : List (List Int) := ((List.range n).filter (fun c : Nat => okW D q c)).map (fun (c : Nat) => q ++ [(c : Int)])
def nxtU (D : Int → Int → Bool) (m : Nat) (q : List Int) : List (List Int) := nxt D m q
theorem nxt_succ (D : Int → Int → Bool) (m : Nat) (q : List Int) : nxt D (m + 1) q = nxt D m q ++ (if okW D q m then [q ++ [(m : Int)]] else []) := by
  unfold nxt
  rw [List.range_succ, List.filter_append, List.map_append]
  congr 1
  by_cases h : okW D q m = true <;> simp [h]
def extQ (D : Int → Int → Bool) (n : Nat) (L : List (List Int)) : List (List Int) := L.flatMap (nxt D n)
theorem extQ_take (D : Int → Int → Bool) (n : Nat) (L : List (List Int)) (k : Nat) (hk : k < L.length) : extQ D n (L.take (k + 1)) = extQ D n (L.take k) ++ nxt D n L[k] := by
  unfold extQ
  rw [List.take_succ_eq_append_getElem hk, List.flatMap_append]
  simp
def itrQ (D : Int → Int → Bool) (n : Nat) : Nat → List (List Int) → List (List Int)
  | 0, L => L
  | k + 1, L => extQ D n (itrQ D n k L)
theorem itr_left (D : Int → Int → Bool) (n k : Nat) (L : List (List Int)) : itrQ D n (k + 1) L = itrQ D n k (extQ D n L) := by
  induction k with
  | zero => rfl
  | succ k ih => rw [itrQ, ih, itrQ]
/-- The specification's way. -/
def quA (D : Int → Int → Bool) (n : Nat) : Nat → List Int → List (List Int)
  | 0, q => [q]
  | k + 1, q => ((List.range n).filter (fun c : Nat => okW D q c)).flatMap (fun (c : Nat) => quA D n k (q ++ [(c : Int)]))
theorem itr_quA (D : Int → Int → Bool) (n k : Nat) : ∀ L, itrQ D n k L = L.flatMap (quA D n k) := by
  induction k with
  | zero => intro L; simp [itrQ, quA]
  | succ k ih =>
    intro L
    rw [itr_left, ih, extQ, List.flatMap_assoc]
    congr 1
    funext q
    rw [nxt, List.flatMap_map, quA]
theorem itr_one (D : Int → Int → Bool) (n k : Nat) (q : List Int) : itrQ D n k [q] = quA D n k q := by
  rw [itr_quA]; simp
def qnU (D : Int → Int → Bool) (n k m : Nat) (q : List Int) : List (List Int) := ((List.range m).filter (fun c : Nat => okW D q c)).flatMap (fun (c : Nat) => quA D n k (q ++ [(c : Int)]))
theorem qnU_succ (D : Int → Int → Bool) (n k m : Nat) (q : List Int) : qnU D n k (m + 1) q = qnU D n k m q ++ (if okW D q m then quA D n k (q ++ [(m : Int)]) else []) := by
  unfold qnU
  rw [List.range_succ, List.filter_append, List.flatMap_append]
  congr 1
  by_cases h : okW D q m = true <;> simp [h]

/-- Lists that go on are good, and there are not many. -/
theorem okW_new {D : Int → Int → Bool} {q : List Int} {c : Int} (h : okW D q c = true) : ¬ c ∈ q := by
  intro hm
  obtain ⟨i, hi, rfl⟩ := List.mem_iff_getElem.1 hm
  unfold okW at h
  rw [List.all_eq_true] at h
  have := h i (List.mem_range.2 hi)
  simp [List.getD, hi] at this
theorem snoc_good {n : Nat} {q : List Int} {c : Nat} (h1 : ∀ x ∈ q, 0 ≤ x ∧ x < (n : Int)) (h2 : q.Nodup) (hc : c < n) (hn : ¬ (c : Int) ∈ q) : (∀ x ∈ q ++ [(c : Int)], 0 ≤ x ∧ x < (n : Int)) ∧ (q ++ [(c : Int)]).Nodup := by
  constructor
  · intro x hx
    rcases List.mem_append.1 hx with hx | hx
    · exact h1 x hx
    · rw [List.mem_singleton] at hx
      subst hx
      omega
  · rw [List.nodup_append]
    refine ⟨h2, by simp, fun x hx y hy => ?_⟩
    rw [List.mem_singleton] at hy
    subst hy
    intro e
    subst e
    exact hn hx
theorem nodup_shortQ (n : Nat) : ∀ l : List Int, l.Nodup → (∀ x ∈ l, 0 ≤ x ∧ x < (n : Int)) → l.length ≤ n := by
  induction n with
  | zero =>
    intro l _ h
    cases l with
    | nil => simp
    | cons x t => have := h x (by simp); omega
  | succ n ih =>
    intro l hn h
    have h1 := ih (l.filter (fun x => decide (x < (n : Int)))) (hn.filter _) (fun x hx => by
      rw [List.mem_filter, decide_eq_true_eq] at hx
      exact ⟨(h x hx.1).1, hx.2⟩)
    have h2 : l.length ≤ (l.filter (fun x => decide (x < (n : Int)))).length + 1 := by
      clear h1 ih
      induction l with
      | nil => simp
      | cons x t ih =>
        rw [List.nodup_cons] at hn
        by_cases hx : x < (n : Int)
        · have := ih hn.2 (fun y hy => h y (by simp [hy]))
          simp [hx]
          omega
        · have e : x = n := by have := h x (by simp); omega
          have : t.filter (fun x => decide (x < (n : Int))) = t := List.filter_eq_self.2 (fun y hy => by
            have h3 := h y (by simp [hy])
            have : y ≠ x := fun e => hn.1 (e ▸ hy)
            rw [decide_eq_true_eq]
            omega)
          simp [hx, this]
    omega
theorem choices_len (D : Int → Int → Bool) (n : Nat) (q : List Int) (h1 : ∀ x ∈ q, 0 ≤ x ∧ x < (n : Int)) (h2 : q.Nodup) : ((List.range n).filter (fun c : Nat => okW D q c)).length + q.length ≤ n := by
  have h := nodup_shortQ n (q ++ ((List.range n).filter (fun c : Nat => okW D q c)).map (fun (c : Nat) => (c : Int))) ?_ ?_
  · rw [List.length_append, List.length_map] at h
    omega
  · rw [List.nodup_append]
    refine ⟨h2, ?_, ?_⟩
    · rw [List.Nodup, List.pairwise_map]
      exact List.Pairwise.imp (fun hab e => hab (by omega)) (List.Pairwise.filter _ List.nodup_range)
    · intro x hx y hy e
      subst e
      obtain ⟨c, hc, rfl⟩ := List.mem_map.1 hy
      exact okW_new (List.mem_filter.1 hc).2 hx
  · intro x hx
    rcases List.mem_append.1 hx with hx | hx
    · exact h1 x hx
    · obtain ⟨c, hc, rfl⟩ := List.mem_map.1 hx
      have := List.mem_range.1 (List.mem_filter.1 hc).1
      omega
/-- Falling products. -/
def fal : Nat → Nat → Nat
  | _, 0 => 1
  | a, k + 1 => a * fal (a - 1) k
theorem fal_le (a k : Nat) (ha : a ≤ 8) (hk : k ≤ 8) : fal a k ≤ 40320 := by
  have key : ∀ a k : Fin 9, fal a k ≤ 40320 := by decide +kernel
  exact key ⟨a, by omega⟩ ⟨k, by omega⟩
theorem quA_len (D : Int → Int → Bool) (n k : Nat) : ∀ q : List Int, (∀ x ∈ q, 0 ≤ x ∧ x < (n : Int)) → q.Nodup → (quA D n k q).length ≤ fal (n - q.length) k := by
  induction k with
  | zero => intro q _ _; simp [quA, fal]
  | succ k ih =>
    intro q h1 h2
    rw [quA, fal]
    have hc := choices_len D n q h1 h2
    have hm : ∀ c ∈ (List.range n).filter (fun c : Nat => okW D q c), (quA D n k (q ++ [(c : Int)])).length ≤ fal (n - q.length - 1) k := by
      intro c hc
      rw [List.mem_filter, List.mem_range] at hc
      obtain ⟨g1, g2⟩ := snoc_good h1 h2 hc.1 (okW_new hc.2)
      have := ih (q ++ [(c : Int)]) g1 g2
      rw [List.length_append, List.length_singleton, ← Nat.sub_sub] at this
      exact this
    generalize (List.range n).filter (fun c : Nat => okW D q c) = C at *
    have h3 : (C.flatMap (fun (c : Nat) => quA D n k (q ++ [(c : Int)]))).length ≤ C.length * fal (n - q.length - 1) k := by
      clear hc
      induction C with
      | nil => simp
      | cons c t iht =>
        rw [List.flatMap_cons, List.length_append, List.length_cons, Nat.succ_mul]
        have a := hm c (by simp)
        have b := iht (fun x hx => hm x (by simp [hx]))
        omega
    exact Nat.le_trans h3 (Nat.mul_le_mul (by omega) (Nat.le_refl _))
theorem quA_big (D : Int → Int → Bool) (n k : Nat) (q : List Int) (hn : n ≤ 8) (hk : k ≤ 8) (h1 : ∀ x ∈ q, 0 ≤ x ∧ x < (n : Int)) (h2 : q.Nodup) : (quA D n k q).length ≤ 40320 :=
  Nat.le_trans (quA_len D n k q h1 h2) (fal_le _ _ (by omega) hk)
/-- Lists of one length, good and below n. -/
def AllG (n c : Nat) (L : List (List Int)) : Prop := ∀ q ∈ L, q.length = c ∧ (∀ x ∈ q, 0 ≤ x ∧ x < (n : Int)) ∧ q.Nodup
theorem nxt_good {D : Int → Int → Bool} {n c : Nat} {q : List Int} (h : q.length = c ∧ (∀ x ∈ q, 0 ≤ x ∧ x < (n : Int)) ∧ q.Nodup) : AllG n (c + 1) (nxt D n q) := by
  intro p hp
  unfold nxt at hp
  obtain ⟨x, hx, rfl⟩ := List.mem_map.1 hp
  rw [List.mem_filter, List.mem_range] at hx
  obtain ⟨g1, g2⟩ := snoc_good h.2.1 h.2.2 hx.1 (okW_new hx.2)
  exact ⟨by simp [h.1], g1, g2⟩
theorem ext_good {D : Int → Int → Bool} {n c : Nat} {L : List (List Int)} (h : AllG n c L) : AllG n (c + 1) (extQ D n L) := by
  intro p hp
  obtain ⟨q, hq, hp⟩ := List.mem_flatMap.1 hp
  exact nxt_good (h q hq) p hp
theorem itr_good {D : Int → Int → Bool} {n c : Nat} {L : List (List Int)} (h : AllG n c L) (k : Nat) : AllG n (c + k) (itrQ D n k L) := by
  induction k with
  | zero => exact h
  | succ k ih => exact ext_good ih
theorem one_good {n : Nat} {q : List Int} (h1 : ∀ x ∈ q, 0 ≤ x ∧ x < (n : Int)) (h2 : q.Nodup) : AllG n q.length [q] := by
  intro p hp
  rw [List.mem_singleton] at hp
  subst hp
  exact ⟨rfl, h1, h2⟩
theorem nxt_len (D : Int → Int → Bool) (n : Nat) (q : List Int) : (nxt D n q).length ≤ n := by
  unfold nxt
  rw [List.length_map]
  exact Nat.le_trans (List.length_filter_le _ _) (by simp)
theorem ext_len (D : Int → Int → Bool) (n : Nat) (L : List (List Int)) : (extQ D n L).length ≤ L.length * n := by
  induction L with
  | nil => simp [extQ]
  | cons q t ih =>
    have e : extQ D n (q :: t) = nxt D n q ++ extQ D n t := by simp [extQ]
    rw [e, List.length_append, List.length_cons, Nat.succ_mul]
    have := nxt_len D n q
    omega
end Go.Proofs.Ytmhlpaenfknofaa
