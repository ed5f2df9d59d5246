/- Indices brought to order by a key, as the program sorts them, and as they are told one length after the other: the plain part. No condition. -/
import Derived.Test.YtdimbnkgomfojaaFj
namespace Go.Proofs.Ytdimbnkgomfojaa
open Go.RowKit

/-- One index brought into an ordered list, behind those whose key is as great. -/
def insK (f : Int → Int) (x : Int) (p : List Int) : List Int := p.takeWhile (fun y => decide (f y ≤ f x)) ++ x :: p.dropWhile (fun y => decide (f y ≤ f x))
theorem insK_at (f : Int → Int) (x : Int) (p : List Int) (k : Nat) (hk : k ≤ p.length) (h1 : ∀ i, i < k → f (p.getD i 0) ≤ f x) (h2 : k < p.length → f x < f (p.getD k 0)) : insK f x p = p.take k ++ x :: p.drop k := by
  induction p generalizing k with
  | nil => simp [insK]
  | cons y t ih =>
    cases k with
    | zero =>
      have := h2 (by simp)
      simp only [List.getD_cons_zero] at this
      simp [insK, show ¬ f y ≤ f x by omega]
    | succ k =>
      have a := h1 0 (by omega)
      simp only [List.getD_cons_zero] at a
      have := ih k (by simpa using hk) (fun i hi => by have := h1 (i + 1) (by omega); simpa using this) (fun hk => by have := h2 (by simp; omega); simpa using this)
      simp only [insK] at this ⊢
      simp [a, this]
theorem insK_len (f : Int → Int) (x : Int) (p : List Int) : (insK f x p).length = p.length + 1 := by
  have := congrArg List.length (List.takeWhile_append_dropWhile (p := fun y => decide (f y ≤ f x)) (l := p))
  simp only [List.length_append] at this
  simp only [insK, List.length_append, List.length_cons]
  omega
theorem insK_mem (f : Int → Int) (x y : Int) (p : List Int) : y ∈ insK f x p ↔ y = x ∨ y ∈ p := by
  have : y ∈ p ↔ y ∈ p.takeWhile (fun z => decide (f z ≤ f x)) ∨ y ∈ p.dropWhile (fun z => decide (f z ≤ f x)) := by
    rw [← List.mem_append, List.takeWhile_append_dropWhile]
  rw [this]
  simp only [insK, List.mem_append, List.mem_cons]
  constructor <;> rintro (h | h | h) <;> simp [h]
theorem insK_sorted (f : Int → Int) (x : Int) (p : List Int) (h : p.Pairwise (fun a b => f a ≤ f b)) : (insK f x p).Pairwise (fun a b => f a ≤ f b) := by
  induction p with
  | nil => simp [insK]
  | cons y t ih =>
    obtain ⟨h1, h2⟩ := List.pairwise_cons.1 h
    by_cases hy : f y ≤ f x
    · have e : insK f x (y :: t) = y :: insK f x t := by simp [insK, hy]
      rw [e, List.pairwise_cons]
      refine ⟨fun z hz => ?_, ih h2⟩
      rw [insK_mem] at hz
      rcases hz with rfl | hz
      · exact hy
      · exact h1 z hz
    · have e : insK f x (y :: t) = x :: y :: t := by simp [insK, hy]
      rw [e, List.pairwise_cons]
      refine ⟨fun z hz => ?_, h⟩
      rcases List.mem_cons.1 hz with rfl | hz
      · omega
      · have := h1 z hz
        omega
def sortK (f : Int → Int) (xs : List Int) : List Int := xs.foldl (fun p x => insK f x p) []
theorem sortK_snoc (f : Int → Int) (xs : List Int) (x : Int) : sortK f (xs ++ [x]) = insK f x (sortK f xs) := by simp [sortK]
theorem sortK_succ (f : Int → Int) (xs : List Int) (k : Nat) (hk : k < xs.length) : sortK f (xs.take (k + 1)) = insK f (xs.getD k 0) (sortK f (xs.take k)) := by
  rw [List.take_succ_eq_append_getElem hk, sortK_snoc]
  simp [List.getD, hk]
theorem foldlK_len (f : Int → Int) (xs p : List Int) : (xs.foldl (fun p x => insK f x p) p).length = p.length + xs.length := by
  induction xs generalizing p with
  | nil => simp
  | cons x t ih => rw [List.foldl_cons, ih, insK_len, List.length_cons]; omega
theorem sortK_len (f : Int → Int) (xs : List Int) : (sortK f xs).length = xs.length := by rw [sortK, foldlK_len]; simp
theorem foldlK_mem (f : Int → Int) (xs p : List Int) (y : Int) : y ∈ xs.foldl (fun p x => insK f x p) p ↔ y ∈ xs ∨ y ∈ p := by
  induction xs generalizing p with
  | nil => simp
  | cons x t ih =>
    rw [List.foldl_cons, ih, insK_mem, List.mem_cons]
    constructor
    · rintro (h | h | h) <;> simp [h]
    · rintro ((h | h) | h) <;> simp [h]
theorem sortK_mem (f : Int → Int) (xs : List Int) (y : Int) : y ∈ sortK f xs ↔ y ∈ xs := by rw [sortK, foldlK_mem]; simp
theorem foldlK_sorted (f : Int → Int) (xs p : List Int) (h : p.Pairwise (fun a b => f a ≤ f b)) : (xs.foldl (fun p x => insK f x p) p).Pairwise (fun a b => f a ≤ f b) := by
  induction xs generalizing p with
  | nil => exact h
  | cons x t ih => exact ih _ (insK_sorted f x p h)
theorem sortK_sorted (f : Int → Int) (xs : List Int) : (sortK f xs).Pairwise (fun a b => f a ≤ f b) := foldlK_sorted f xs [] List.Pairwise.nil
theorem sortK_get (f : Int → Int) (xs : List Int) (i j : Nat) (hij : i < j) (hj : j < xs.length) : f ((sortK f xs).getD i 0) ≤ f ((sortK f xs).getD j 0) := by
  have h := List.pairwise_iff_getElem.1 (sortK_sorted f xs) i j (by rw [sortK_len]; omega) (by rw [sortK_len]; omega) hij
  simpa [List.getD, sortK_len, show i < xs.length by omega, hj] using h
theorem curK_start (f : Int → Int) (xs : List Int) (i : Nat) (hi : i < xs.length) : sortK f (xs.take i) ++ xs.drop i = cur (sortK f (xs.take i)) (xs.getD i 0) (xs.drop (i + 1)) i := by
  have l : (sortK f (xs.take i)).length = i := by rw [sortK_len, List.length_take]; omega
  unfold cur
  have e1 : (sortK f (xs.take i)).take i = sortK f (xs.take i) := List.take_of_length_le (by omega)
  have e2 : (sortK f (xs.take i)).drop i = [] := List.drop_eq_nil_of_le (by omega)
  have e3 : xs.drop i = xs.getD i 0 :: xs.drop (i + 1) := by
    rw [List.drop_eq_getElem_cons hi]
    simp [List.getD, hi]
  rw [e1, e2, e3, List.nil_append]
theorem curK_done (f : Int → Int) (xs : List Int) (i j : Nat) (hi : i < xs.length) (hj : j ≤ i) (h1 : ∀ q, j ≤ q → q < i → f (xs.getD i 0) < f ((sortK f (xs.take i)).getD q 0)) (h2 : 0 < j → f ((sortK f (xs.take i)).getD (j - 1) 0) ≤ f (xs.getD i 0)) :
    cur (sortK f (xs.take i)) (xs.getD i 0) (xs.drop (i + 1)) j = sortK f (xs.take (i + 1)) ++ xs.drop (i + 1) := by
  have l : (sortK f (xs.take i)).length = i := by rw [sortK_len, List.length_take]; omega
  rw [sortK_succ f xs i hi, insK_at _ _ _ j (by omega)]
  · simp [cur]
  · intro q hq
    have := h2 (by omega)
    by_cases e : q = j - 1
    · subst e; exact this
    · have := sortK_get f (xs.take i) q (j - 1) (by omega) (by rw [List.length_take]; omega)
      omega
  · intro hq
    exact h1 j (Nat.le_refl _) (by omega)
theorem sortK_one (f : Int → Int) (xs : List Int) : sortK f (xs.take 1) = xs.take 1 := by
  match xs with
  | [] => rfl
  | x :: t => simp [sortK, insK]
/-- Keys that tell the same order tell the same list. -/
theorem insK_congr (f g : Int → Int) (x : Int) (p : List Int) (h : ∀ y ∈ p, (f y ≤ f x ↔ g y ≤ g x)) : insK f x p = insK g x p := by
  induction p with
  | nil => rfl
  | cons y t ih =>
    have h0 := h y (by simp)
    have ih := ih (fun z hz => h z (by simp [hz]))
    by_cases hy : f y ≤ f x
    · have hg := h0.1 hy
      simp only [insK, List.takeWhile_cons, List.dropWhile_cons, decide_eq_true hy, decide_eq_true hg, if_true, List.cons_append] at ih ⊢
      rw [ih]
    · have hg : ¬ g y ≤ g x := fun e => hy (h0.2 e)
      simp only [insK, List.takeWhile_cons, List.dropWhile_cons, decide_eq_false hy, decide_eq_false hg, Bool.false_eq_true, if_false]
theorem sortK_congr (f g : Int → Int) (xs : List Int) (h : ∀ x ∈ xs, ∀ y ∈ xs, (f y ≤ f x ↔ g y ≤ g x)) : sortK f xs = sortK g xs := by
  have key : ∀ k, k ≤ xs.length → sortK f (xs.take k) = sortK g (xs.take k) := by
    intro k
    induction k with
    | zero => intro _; simp [sortK]
    | succ k ih =>
      intro hk
      rw [sortK_succ f xs k hk, sortK_succ g xs k hk, ih (by omega)]
      have hx : xs.getD k 0 ∈ xs := by simp [List.getD, show k < xs.length by omega]
      refine insK_congr f g _ _ (fun y hy => ?_)
      rw [sortK_mem] at hy
      exact h _ hx y (List.mem_of_mem_take hy)
  have := key xs.length (Nat.le_refl _)
  rwa [List.take_length] at this

/-- The indices below k whose number is m. -/
def bkt (F : Int → Int) (m : Nat) (k : Nat) : List Int := ((List.range k).map (fun (i : Nat) => (i : Int))).filter (fun i => F i == (m : Int))
theorem bkt_yes (F : Int → Int) (m k : Nat) (h : F k = m) : bkt F m (k + 1) = bkt F m k ++ [(k : Int)] := by simp [bkt, List.range_succ, h]
theorem bkt_no (F : Int → Int) (m k : Nat) (h : F k ≠ m) : bkt F m (k + 1) = bkt F m k := by simp [bkt, List.range_succ, h]
theorem bkt_zero (F : Int → Int) (m : Nat) : bkt F m 0 = [] := rfl
theorem bkt_mem (F : Int → Int) (m k : Nat) (x : Int) (h : x ∈ bkt F m k) : F x = m := by
  unfold bkt at h
  have := (List.mem_filter.1 h).2
  simpa using this
/-- All indices below k, one number after the other. -/
def ordU (F : Int → Int) (c : Nat) (k : Nat) : List Int := (List.range c).flatMap (fun m => bkt F m k)
theorem ordU_succ (F : Int → Int) (c k : Nat) : ordU F (c + 1) k = ordU F c k ++ bkt F c k := by simp [ordU, List.range_succ, List.flatMap_append]
theorem ordU_lt (F : Int → Int) (c k : Nat) : ∀ x ∈ ordU F c k, F x < c := by
  induction c with
  | zero => intro x hx; simp [ordU] at hx
  | succ c ih =>
    intro x hx
    rw [ordU_succ, List.mem_append] at hx
    rcases hx with hx | hx
    · have := ih x hx
      push_cast
      omega
    · have := bkt_mem F c k x hx
      push_cast
      omega
theorem ordU_none (F : Int → Int) (c k : Nat) (h : (c : Int) ≤ F k) : ordU F c (k + 1) = ordU F c k := by
  induction c with
  | zero => rfl
  | succ c ih =>
    rw [ordU_succ, ordU_succ, ih (by push_cast at h; omega), bkt_no F c k (by push_cast at h; omega)]
/-- One index more is brought in. -/
theorem ordU_ins (F : Int → Int) (c k : Nat) (h0 : 0 ≤ F k) (h1 : F k < c) : ordU F c (k + 1) = insK F k (ordU F c k) := by
  have main : ∀ d : Nat, (F k).toNat + 1 ≤ d → ∃ A C, ordU F d k = A ++ C ∧ ordU F d (k + 1) = A ++ (k : Int) :: C ∧ (∀ x ∈ A, F x ≤ F k) ∧ (∀ x ∈ C, F k < F x) := by
    intro d
    induction d with
    | zero => intro h; omega
    | succ d ih =>
      intro h
      by_cases e : d = (F k).toNat
      · have hF : F k = d := by omega
        refine ⟨ordU F (d + 1) k, [], by simp, ?_, fun x hx => ?_, by simp⟩
        · rw [ordU_succ, ordU_succ, bkt_yes F d k hF, ordU_none F d k (by omega)]
          simp
        · have := ordU_lt F (d + 1) k x hx
          push_cast at this
          omega
      · obtain ⟨A, C, e1, e2, a1, a2⟩ := ih (by omega)
        refine ⟨A, C ++ bkt F d k, by rw [ordU_succ, e1, List.append_assoc], ?_, a1, fun x hx => ?_⟩
        · rw [ordU_succ, e2, bkt_no F d k (by omega)]
          simp
        · rcases List.mem_append.1 hx with hx | hx
          · exact a2 x hx
          · have := bkt_mem F d k x hx
            omega
  obtain ⟨A, C, e1, e2, a1, a2⟩ := main c (by omega)
  rw [e2, e1]
  have t1 : ∀ (A C : List Int), (∀ x ∈ A, F x ≤ F k) → (∀ x ∈ C, F k < F x) → insK F k (A ++ C) = A ++ (k : Int) :: C := by
    intro A C
    induction A with
    | nil =>
      intro _ hC
      cases C with
      | nil => rfl
      | cons y t =>
        have := hC y (by simp)
        simp [insK, show ¬ F y ≤ F k by omega]
    | cons y t ih =>
      intro hA hC
      have hy := hA y (by simp)
      have := ih (fun x hx => hA x (by simp [hx])) hC
      simp only [insK] at this ⊢
      simp [hy, this]
  exact (t1 A C a1 a2).symm
/-- Both ways tell the same order. -/
theorem ordU_sort (F : Int → Int) (c n : Nat) (h : ∀ k : Nat, k < n → 0 ≤ F k ∧ F k < c) : ordU F c n = sortK F ((List.range n).map (fun (i : Nat) => (i : Int))) := by
  induction n with
  | zero => 
    have : ∀ c, ordU F c 0 = [] := by
      intro c
      induction c with
      | zero => rfl
      | succ c ih => rw [ordU_succ, ih]; rfl
    rw [this]; rfl
  | succ n ih =>
    rw [ordU_ins F c n (h n (by omega)).1 (h n (by omega)).2, ih (fun k hk => h k (by omega)), List.range_succ, List.map_append, ← sortK_snoc]
    rfl

end Go.Proofs.Ytdimbnkgomfojaa
