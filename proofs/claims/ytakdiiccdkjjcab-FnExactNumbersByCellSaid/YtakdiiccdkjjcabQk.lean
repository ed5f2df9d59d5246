/- Largest placements are as many as least covers: the plain part. No condition but the sizes. -/
import Derived.Test.YtakdiiccdkjjcabRc
namespace Go.Proofs.Ytakdiiccdkjjcab
open Go.RowKit

/-- The size of a largest placement of d rows from f on in columns that are not in t. -/
def mR (m : Nat) (B : Nat → Nat → Bool) : Nat → Nat → Nat → Nat
  | 0, _, _ => 0
  | d + 1, f, t => (List.range m).foldl (fun a c => if B f c && !t.testBit c then max a (1 + mR m B d (f + 1) (t ||| 2 ^ c)) else a) (mR m B d (f + 1) t)

theorem fold_max (p : Nat → Bool) (v : Nat → Nat) (l : List Nat) : ∀ (a K : Nat), K ≤ l.foldl (fun a c => if p c then max a (v c) else a) a ↔ K ≤ a ∨ ∃ c ∈ l, p c = true ∧ K ≤ v c := by
  induction l with
  | nil => intro a K; simp
  | cons x l ih =>
    intro a K
    rw [List.foldl_cons, ih]
    by_cases hx : p x = true
    · rw [if_pos hx]
      constructor
      · rintro (h | ⟨c, hc, h⟩)
        · by_cases ha : K ≤ a
          · exact .inl ha
          · exact .inr ⟨x, by simp, hx, by omega⟩
        · exact .inr ⟨c, by simp [hc], h⟩
      · rintro (h | ⟨c, hc, h1, h2⟩)
        · exact .inl (by omega)
        · rcases List.mem_cons.1 hc with rfl | hc
          · exact .inl (by omega)
          · exact .inr ⟨c, hc, h1, h2⟩
    · rw [if_neg hx]
      constructor
      · rintro (h | ⟨c, hc, h⟩)
        · exact .inl h
        · exact .inr ⟨c, by simp [hc], h⟩
      · rintro (h | ⟨c, hc, h1, h2⟩)
        · exact .inl h
        · rcases List.mem_cons.1 hc with rfl | hc
          · exact absurd h1 hx
          · exact .inr ⟨c, hc, h1, h2⟩
theorem mR_iff (m : Nat) (B : Nat → Nat → Bool) (d f t K : Nat) : K ≤ mR m B (d + 1) f t ↔ K ≤ mR m B d (f + 1) t ∨ ∃ c, c < m ∧ B f c = true ∧ t.testBit c = false ∧ K ≤ 1 + mR m B d (f + 1) (t ||| 2 ^ c) := by
  rw [mR, fold_max (fun c => B f c && !t.testBit c) (fun c => 1 + mR m B d (f + 1) (t ||| 2 ^ c))]
  constructor
  · rintro (h | ⟨c, hc, h1, h2⟩)
    · exact .inl h
    · rw [Bool.and_eq_true, Bool.not_eq_true'] at h1
      exact .inr ⟨c, List.mem_range.1 hc, h1.1, h1.2, h2⟩
  · rintro (h | ⟨c, hc, h1, h2, h3⟩)
    · exact .inl h
    · exact .inr ⟨c, List.mem_range.2 hc, by simp [h1, h2], h3⟩
theorem sumPos (l : List Nat) : 0 < l.sum ↔ ∃ x ∈ l, 0 < x := by
  induction l with
  | nil => simp
  | cons a l ih =>
    rw [List.sum_cons]
    constructor
    · intro h
      by_cases ha : 0 < a
      · exact ⟨a, by simp, ha⟩
      · obtain ⟨x, hx, hp⟩ := ih.1 (by omega)
        exact ⟨x, by simp [hx], hp⟩
    · rintro ⟨x, hx, hp⟩
      rcases List.mem_cons.1 hx with rfl | hx
      · omega
      · have := ih.2 ⟨x, hx, hp⟩
        omega
/-- There are placements with k rooks exactly if k is no more than that. -/
theorem wR_pos (m : Nat) (B : Nat → Nat → Bool) (d : Nat) : ∀ f t k, 0 < wR m B d f t k ↔ k ≤ mR m B d f t := by
  induction d with
  | zero =>
    intro f t k
    rw [wR, mR]
    split <;> omega
  | succ d ih =>
    intro f t k
    rw [mR_iff, ← ih, wR]
    constructor
    · intro h
      by_cases h1 : 0 < wR m B d (f + 1) t k
      · exact .inl h1
      · right
        have h2 : 0 < ((List.range m).map (term B (wR m B d (f + 1)) f t k)).sum := by omega
        have h3 : ∃ c ∈ List.range m, 0 < term B (wR m B d (f + 1)) f t k c := by
          obtain ⟨x, hx, hp⟩ := (sumPos _).1 h2
          obtain ⟨c, hc, rfl⟩ := List.mem_map.1 hx
          exact ⟨c, hc, hp⟩
        obtain ⟨c, hc, h4⟩ := h3
        unfold term at h4
        split at h4
        · rename_i hb
          rw [Bool.and_eq_true, Bool.not_eq_true'] at hb
          split at h4
          · omega
          · rw [ih] at h4
            exact ⟨c, List.mem_range.1 hc, hb.1, hb.2, by omega⟩
        · omega
    · rintro (h | ⟨c, hc, h1, h2, h3⟩)
      · omega
      · by_cases hk : k = 0
        · subst hk
          have : 0 < wR m B d (f + 1) t 0 := (ih _ _ _).2 (Nat.zero_le _)
          omega
        · have h4 : 0 < wR m B d (f + 1) (t ||| 2 ^ c) (k - 1) := (ih _ _ _).2 (by omega)
          have h5 : term B (wR m B d (f + 1)) f t k c = wR m B d (f + 1) (t ||| 2 ^ c) (k - 1) := by
            unfold term
            rw [if_pos (by simp [h1, h2]), if_neg hk]
          have h6 : 0 < ((List.range m).map (term B (wR m B d (f + 1)) f t k)).sum := (sumPos _).2 ⟨_, List.mem_map.2 ⟨c, List.mem_range.2 hc, rfl⟩, by omega⟩
          omega

/-- How many of the six. -/
def cn (p : Nat → Bool) : Nat := (List.range 6).countP p
theorem cn_or (p q : Nat → Bool) : cn (fun c => p c || q c) + cn (fun c => p c && q c) = cn p + cn q := by
  unfold cn
  generalize List.range 6 = l
  induction l with
  | nil => rfl
  | cons x l ih =>
    simp only [List.countP_cons]
    cases p x <;> cases q x <;> simp <;> omega
theorem cn_mono {p q : Nat → Bool} (h : ∀ c, c < 6 → p c = true → q c = true) : cn p ≤ cn q := List.countP_mono_left (fun c hc => h c (List.mem_range.1 hc))
theorem cn_le (p : Nat → Bool) : cn p ≤ 6 := by
  have := List.countP_le_length (p := p) (l := List.range 6)
  simpa [cn] using this
theorem cn_congr {p q : Nat → Bool} (h : ∀ c, c < 6 → p c = q c) : cn p = cn q := by
  have h1 := cn_mono (p := p) (q := q) (fun c hc e => by rw [← h c hc]; exact e)
  have h2 := cn_mono (p := q) (q := p) (fun c hc e => by rw [h c hc]; exact e)
  omega
theorem cn_nil {p : Nat → Bool} (h : ∀ c, c < 6 → p c = false) : cn p = 0 := by
  unfold cn
  rw [List.countP_eq_zero]
  intro c hc
  rw [h c (List.mem_range.1 hc)]
  simp
theorem cn_one (x : Nat) (hx : x < 6) : cn (fun c => c == x) = 1 := by
  have key : ∀ x : Fin 6, cn (fun c => c == (x : Nat)) = 1 := by decide +kernel
  exact key ⟨x, hx⟩
/-- One more. -/
theorem cn_put (p : Nat → Bool) (x : Nat) (hx : x < 6) (h : p x = false) : cn (fun c => p c || c == x) = cn p + 1 := by
  have h1 := cn_or p (fun c => c == x)
  rw [cn_one x hx, cn_nil (p := fun c => p c && c == x) (fun c _ => by
    by_cases e : c = x
    · subst e; simp [h]
    · simp [e])] at h1
  omega
/-- If one set is in another one and not smaller, they are one. -/
theorem cn_same {p q : Nat → Bool} (h : ∀ c, c < 6 → p c = true → q c = true) (hc : cn q ≤ cn p) (c : Nat) (hc6 : c < 6) (hq : q c = true) : p c = true := by
  cases hp : p c
  · have h1 := cn_put p c hc6 hp
    have h2 := cn_mono (p := fun x => p x || x == c) (q := q) (fun x hx e => by
      rw [Bool.or_eq_true] at e
      rcases e with e | e
      · exact h x hx e
      · rw [beq_iff_eq] at e; subst e; exact hq)
    omega
  · rfl

/-- The columns, not in t, of the cells of some rows. -/
def nbS (B : Nat → Nat → Bool) (S : Nat → Bool) (t : Nat) (c : Nat) : Bool := !t.testBit c && (List.range 6).any fun r => S r && B r c
theorem nbS_iff {B : Nat → Nat → Bool} {S : Nat → Bool} {t c : Nat} : nbS B S t c = true ↔ t.testBit c = false ∧ ∃ r, r < 6 ∧ S r = true ∧ B r c = true := by
  unfold nbS
  rw [Bool.and_eq_true, Bool.not_eq_true', List.any_eq_true]
  constructor
  · rintro ⟨h1, r, hr, h2⟩
    rw [Bool.and_eq_true] at h2
    exact ⟨h1, r, List.mem_range.1 hr, h2.1, h2.2⟩
  · rintro ⟨h1, r, hr, h2, h3⟩
    exact ⟨h1, r, List.mem_range.2 hr, by rw [h2, h3]; rfl⟩
theorem nbS_or (B : Nat → Nat → Bool) (S T : Nat → Bool) (t c : Nat) : nbS B (fun r => S r || T r) t c = (nbS B S t c || nbS B T t c) := by
  rw [Bool.eq_iff_iff, Bool.or_eq_true, nbS_iff, nbS_iff, nbS_iff]
  constructor
  · rintro ⟨h1, r, hr, h2, h3⟩
    rw [Bool.or_eq_true] at h2
    rcases h2 with h2 | h2
    · exact .inl ⟨h1, r, hr, h2, h3⟩
    · exact .inr ⟨h1, r, hr, h2, h3⟩
  · rintro (⟨h1, r, hr, h2, h3⟩ | ⟨h1, r, hr, h2, h3⟩)
    · exact ⟨h1, r, hr, by rw [h2]; rfl, h3⟩
    · exact ⟨h1, r, hr, by rw [h2, Bool.or_true], h3⟩
theorem nbS_mono {B : Nat → Nat → Bool} {S T : Nat → Bool} {t c : Nat} (h : ∀ r, r < 6 → S r = true → T r = true) (hc : nbS B S t c = true) : nbS B T t c = true := by
  obtain ⟨h1, r, hr, h2, h3⟩ := nbS_iff.1 hc
  exact nbS_iff.2 ⟨h1, r, hr, h r hr h2, h3⟩
theorem bit_put (t c d : Nat) : (t ||| 2 ^ c).testBit d = (t.testBit d || d == c) := by
  rw [Nat.testBit_or, Nat.testBit_two_pow]
  congr 1
  rw [Bool.eq_iff_iff, decide_eq_true_iff, beq_iff_eq]
  exact eq_comm
theorem nbS_put {B : Nat → Nat → Bool} {S : Nat → Bool} {t c d : Nat} : nbS B S (t ||| 2 ^ c) d = true ↔ d ≠ c ∧ nbS B S t d = true := by
  rw [nbS_iff, nbS_iff, bit_put, Bool.or_eq_false_iff, beq_eq_false_iff_ne]
  exact ⟨fun h => ⟨h.1.2, h.1.1, h.2⟩, fun h => ⟨⟨h.2.1, h.1⟩, h.2.2⟩⟩
theorem nbS_lose (B : Nat → Nat → Bool) (S : Nat → Bool) (t c : Nat) (hc : c < 6) : cn (nbS B S t) ≤ cn (nbS B S (t ||| 2 ^ c)) + 1 := by
  have h1 := cn_mono (p := nbS B S t) (q := fun d => nbS B S (t ||| 2 ^ c) d || d == c) (fun d _ e => by
    by_cases hd : d = c
    · subst hd; simp
    · rw [nbS_put.2 ⟨hd, e⟩]; rfl)
  have h2 := cn_put (nbS B S (t ||| 2 ^ c)) c hc (by
    cases h : nbS B S (t ||| 2 ^ c) c
    · rfl
    · exact absurd rfl (nbS_put.1 h).1)
  omega

/-- No largest placement has more rooks than rows and columns cover. -/
theorem konig_le (m : Nat) (hm : m ≤ 6) (B : Nat → Nat → Bool) (S : Nat → Bool) (d : Nat) : ∀ f t, f + d ≤ 6 → mR m B d f t + cn (fun r => S r && decide (f ≤ r ∧ r < f + d)) ≤ d + cn (nbS B (fun r => S r && decide (f ≤ r ∧ r < f + d)) t) := by
  induction d with
  | zero =>
    intro f t _
    rw [mR, cn_nil (fun c _ => by simp)]
    omega
  | succ d ih =>
    intro f t hf
    have hsub : ∀ r, r < 6 → (S r && decide (f + 1 ≤ r ∧ r < f + 1 + d)) = true → (S r && decide (f ≤ r ∧ r < f + (d + 1))) = true := fun r _ h => by
      simp only [Bool.and_eq_true, decide_eq_true_iff] at h ⊢
      exact ⟨h.1, by omega, by omega⟩
    have hput : cn (fun r => S r && decide (f ≤ r ∧ r < f + (d + 1))) ≤ cn (fun r => S r && decide (f + 1 ≤ r ∧ r < f + 1 + d)) + 1 := by
      rw [← cn_put (fun r => S r && decide (f + 1 ≤ r ∧ r < f + 1 + d)) f (by omega) (by simp; intro _ h; omega)]
      refine cn_mono (fun r _ h => ?_)
      simp only [Bool.and_eq_true, Bool.or_eq_true, decide_eq_true_iff, beq_iff_eq] at h ⊢
      by_cases e : r = f
      · exact .inr e
      · exact .inl ⟨h.1, by omega, by omega⟩
    rcases (mR_iff m B d f t (mR m B (d + 1) f t)).1 (Nat.le_refl _) with h | ⟨c, hc, h1, h2, h3⟩
    · have h4 := ih (f + 1) t (by omega)
      have h5 := cn_mono (p := nbS B (fun r => S r && decide (f + 1 ≤ r ∧ r < f + 1 + d)) t) (q := nbS B (fun r => S r && decide (f ≤ r ∧ r < f + (d + 1))) t) (fun c _ e => nbS_mono hsub e)
      omega
    · have h4 := ih (f + 1) (t ||| 2 ^ c) (by omega)
      cases hS : S f
      · have h6 : cn (fun r => S r && decide (f ≤ r ∧ r < f + (d + 1))) ≤ cn (fun r => S r && decide (f + 1 ≤ r ∧ r < f + 1 + d)) := cn_mono (fun r _ h => by
          simp only [Bool.and_eq_true, decide_eq_true_iff] at h ⊢
          refine ⟨h.1, ?_⟩
          have : r ≠ f := fun e => by rw [e, hS] at h; cases h.1
          omega)
        have h5 := cn_mono (p := nbS B (fun r => S r && decide (f + 1 ≤ r ∧ r < f + 1 + d)) (t ||| 2 ^ c)) (q := nbS B (fun r => S r && decide (f ≤ r ∧ r < f + (d + 1))) t) (fun c _ e => nbS_mono hsub (nbS_put.1 e).2)
        omega
      · have h5 : cn (nbS B (fun r => S r && decide (f + 1 ≤ r ∧ r < f + 1 + d)) (t ||| 2 ^ c)) + 1 ≤ cn (nbS B (fun r => S r && decide (f ≤ r ∧ r < f + (d + 1))) t) := by
          rw [← cn_put _ c (by omega) (by
            cases h : nbS B (fun r => S r && decide (f + 1 ≤ r ∧ r < f + 1 + d)) (t ||| 2 ^ c) c
            · rfl
            · exact absurd rfl (nbS_put.1 h).1)]
          refine cn_mono (fun x _ e => ?_)
          rw [Bool.or_eq_true] at e
          rcases e with e | e
          · exact nbS_mono hsub (nbS_put.1 e).2
          · rw [beq_iff_eq] at e
            subst e
            exact nbS_iff.2 ⟨h2, f, by omega, by simp [hS], h1⟩
        omega
/-- .. and some largest placement has as many. -/
theorem konig_ge (m : Nat) (B : Nat → Nat → Bool) (hB : ∀ r c, B r c = true → c < m) (d : Nat) : ∀ f t K, f + d ≤ 6 →
    (∀ S : Nat → Bool, (∀ r, S r = true → f ≤ r ∧ r < f + d) → K + cn S ≤ d + cn (nbS B S t)) → K ≤ mR m B d f t := by
  induction d with
  | zero =>
    intro f t K _ h
    have := h (fun _ => false) (by simp)
    rw [cn_nil (fun _ _ => rfl), cn_nil (p := nbS B (fun _ => false) t) (fun c _ => by
      cases h : nbS B (fun _ => false) t c
      · rfl
      · obtain ⟨_, r, _, h2, _⟩ := nbS_iff.1 h
        cases h2)] at this
    omega
  | succ d ih =>
    intro f t K hf h
    by_cases hK : K = 0
    · rw [hK]; exact Nat.zero_le _
    rw [mR_iff]
    by_cases hall : ∀ S : Nat → Bool, (∀ r, S r = true → f + 1 ≤ r ∧ r < f + 1 + d) → K + cn S ≤ d + cn (nbS B S t)
    · exact .inl (ih (f + 1) t K (by omega) hall)
    · right
      -- sets that leave nothing over
      have hlift : ∀ S : Nat → Bool, (∀ r, S r = true → f + 1 ≤ r ∧ r < f + 1 + d) → K + cn S ≤ d + 1 + cn (nbS B S t) := fun S hS => h S (fun r hr => by have := hS r hr; omega)
      have hex : ∃ S : Nat → Bool, (∀ r, S r = true → f + 1 ≤ r ∧ r < f + 1 + d) ∧ K + cn S = d + 1 + cn (nbS B S t) := by
        apply Classical.byContradiction
        intro hn
        refine hall (fun S hS => ?_)
        have := hlift S hS
        have h2 : K + cn S ≠ d + 1 + cn (nbS B S t) := fun e => hn ⟨S, hS, e⟩
        omega
      -- a greatest of them
      have hmax : ∃ S : Nat → Bool, ((∀ r, S r = true → f + 1 ≤ r ∧ r < f + 1 + d) ∧ K + cn S = d + 1 + cn (nbS B S t)) ∧ ∀ T : Nat → Bool, (∀ r, T r = true → f + 1 ≤ r ∧ r < f + 1 + d) → K + cn T = d + 1 + cn (nbS B T t) → cn T ≤ cn S := by
        have key : ∀ g : Nat, ∀ S : Nat → Bool, ((∀ r, S r = true → f + 1 ≤ r ∧ r < f + 1 + d) ∧ K + cn S = d + 1 + cn (nbS B S t)) → 6 ≤ cn S + g → ∃ S : Nat → Bool, ((∀ r, S r = true → f + 1 ≤ r ∧ r < f + 1 + d) ∧ K + cn S = d + 1 + cn (nbS B S t)) ∧ ∀ T : Nat → Bool, (∀ r, T r = true → f + 1 ≤ r ∧ r < f + 1 + d) → K + cn T = d + 1 + cn (nbS B T t) → cn T ≤ cn S := by
          intro g
          induction g with
          | zero =>
            intro S hS hg
            exact ⟨S, hS, fun T _ _ => by have := cn_le T; omega⟩
          | succ g ihg =>
            intro S hS hg
            by_cases hb : ∃ T : Nat → Bool, ((∀ r, T r = true → f + 1 ≤ r ∧ r < f + 1 + d) ∧ K + cn T = d + 1 + cn (nbS B T t)) ∧ cn S < cn T
            · obtain ⟨T, hT, hlt⟩ := hb
              exact ihg T hT (by omega)
            · exact ⟨S, hS, fun T h1 h2 => Nat.le_of_not_lt fun hlt => hb ⟨T, ⟨h1, h2⟩, hlt⟩⟩
        obtain ⟨S, hS⟩ := hex
        exact key 6 S hS (by omega)
      obtain ⟨S, ⟨hSr, hSt⟩, hSm⟩ := hmax
      have hSf : S f = false := by
        cases e : S f
        · rfl
        · have := hSr f e; omega
      -- the row f has a column that they have not
      have hc : ∃ c, c < 6 ∧ nbS B (fun r => S r || r == f) t c = true ∧ nbS B S t c = false := by
        apply Classical.byContradiction
        intro hn
        have h1 := h (fun r => S r || r == f) (fun r hr => by
          rw [Bool.or_eq_true, beq_iff_eq] at hr
          rcases hr with hr | rfl
          · have := hSr r hr; omega
          · omega)
        rw [cn_put S f (by omega) hSf] at h1
        have h2 := cn_mono (p := nbS B (fun r => S r || r == f) t) (q := nbS B S t) (fun c hc e => by
          cases e2 : nbS B S t c
          · exact absurd ⟨c, hc, e, e2⟩ hn
          · rfl)
        omega
      obtain ⟨c, hc6, h1, h2⟩ := hc
      obtain ⟨h3, r, hr, h4, h5⟩ := nbS_iff.1 h1
      rw [Bool.or_eq_true, beq_iff_eq] at h4
      have hrf : r = f := by
        rcases h4 with h4 | h4
        · rw [nbS_iff.2 ⟨h3, r, hr, h4, h5⟩] at h2; cases h2
        · exact h4
      subst hrf
      refine ⟨c, hB _ _ h5, h5, h3, ?_⟩
      have hih := ih (r + 1) (t ||| 2 ^ c) (K - 1) (by omega) (fun T hT => by
        have hT1 := hlift T hT
        by_cases htight : K + cn T = d + 1 + cn (nbS B T t)
        · -- T is one of them, so in S
          have hor : K + cn (fun r => S r || T r) = d + 1 + cn (nbS B (fun r => S r || T r) t) := by
            have e1 := hlift (fun r => S r || T r) (fun x hx => by
              rw [Bool.or_eq_true] at hx
              exact hx.elim (hSr x) (hT x))
            have e2 := hlift (fun r => S r && T r) (fun x hx => by
              rw [Bool.and_eq_true] at hx
              exact hSr x hx.1)
            have e3 := cn_or S T
            have e4 := cn_or (nbS B S t) (nbS B T t)
            have e5 := cn_congr (p := nbS B (fun r => S r || T r) t) (q := fun c => nbS B S t c || nbS B T t c) (fun c _ => nbS_or B S T t c)
            have e6 := cn_mono (p := nbS B (fun r => S r && T r) t) (q := fun c => nbS B S t c && nbS B T t c) (fun c _ e => by
              rw [Bool.and_eq_true]
              exact ⟨nbS_mono (fun r _ h => by have h2 : (S r && T r) = true := h; rw [Bool.and_eq_true] at h2; exact h2.1) e, nbS_mono (fun r _ h => by have h2 : (S r && T r) = true := h; rw [Bool.and_eq_true] at h2; exact h2.2) e⟩)
            omega
          have hle := hSm (fun r => S r || T r) (fun x hx => by
            rw [Bool.or_eq_true] at hx
            exact hx.elim (hSr x) (hT x)) hor
          have hin : ∀ x, x < 6 → T x = true → S x = true := fun x hx e => cn_same (p := S) (q := fun r => S r || T r) (fun y _ hy => by rw [hy]; rfl) hle x hx (by rw [e, Bool.or_true])
          have hNc : nbS B T t c = false := by
            cases e : nbS B T t c
            · rfl
            · rw [nbS_mono hin e] at h2; cases h2
          have := cn_mono (p := nbS B T t) (q := nbS B T (t ||| 2 ^ c)) (fun x _ e => nbS_put.2 ⟨(fun hx => by rw [hx, hNc] at e; cases e), e⟩)
          omega
        · have := nbS_lose B T t c hc6
          omega)
      omega

theorem mR_le (m : Nat) (B : Nat → Nat → Bool) (d : Nat) : ∀ f t, mR m B d f t ≤ d := by
  induction d with
  | zero => intro f t; rw [mR]; omega
  | succ d ih =>
    intro f t
    rcases (mR_iff m B d f t (mR m B (d + 1) f t)).1 (Nat.le_refl _) with h | ⟨c, _, _, _, h⟩
    · have := ih (f + 1) t; omega
    · have := ih (f + 1) (t ||| 2 ^ c); omega

end Go.Proofs.Ytakdiiccdkjjcab
