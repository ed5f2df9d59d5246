import Derived.Test.YtaipcmplpjkebaaFold27
import Derived.Test.YtaipcmplpjkebaaFold25

section
namespace Go.Proofs.Ytaipcmplpjkebaa
open Go.RowKit Go.WideShapes

theorem sumN_single (h : Nat → Nat) (n j : Nat) (hj : j < n) (e : ∀ k, k ≠ j → h k = 0) : sumN h n = h j := by
  have := sumN_one h (fun _ => 0) n j hj e
  rw [sumN_zero] at this
  omega
theorem sumN_two (h : Nat → Nat) (n i j : Nat) (hi : i < n) (hj : j < n) (hij : i ≠ j) (e : ∀ k, k ≠ i → k ≠ j → h k = 0) : sumN h n = h i + h j := by
  have h1 := sumN_one h (fun k => if k = i then 0 else h k) n i hi (fun k hk => by simp [hk])
  have h2 := sumN_single (fun k => if k = i then 0 else h k) n j hj (fun k hk => by
    show (if _ then _ else _) = _
    by_cases c : k = i
    · rw [if_pos c]
    · rw [if_neg c]; exact e k c hk)
  simp only [if_true, if_neg (fun h : j = i => hij h.symm)] at h1 h2
  omega

theorem wR_diag (n d : Nat) : ∀ f t k, f + d = n → (∀ c, f ≤ c → t.testBit c = false) → wR n diagR d f t k = chs d k := by
  induction d with
  | zero => intro f t k _ _; cases k <;> rfl
  | succ d ih =>
    intro f t k hf ht
    have hs := sumN_single (term diagR (wR n diagR d (f + 1)) f t k) n f (by omega) (fun c hc => by
      unfold term diagR
      rw [if_neg]
      simp [hc])
    rw [wR_succ, hs, ih (f + 1) t k (by omega) (fun c hc => ht c (by omega))]
    unfold term
    rw [if_pos (by rw [ht f (Nat.le_refl _)]; simp [diagR])]
    cases k with
    | zero => rw [if_pos rfl, chs_nil, chs_nil]
    | succ i =>
      rw [if_neg (by omega), Nat.add_sub_cancel, ih (f + 1) (t ||| 2 ^ f) i (by omega) (fun c hc => by rw [bit_both, ht c (by omega)]; simp; omega), chs]
      omega

/-- The rook numbers of the rows of a table that are left: is the column of the next row taken, is the column 0? -/
def tabR : Nat → Bool → Bool → Nat → Nat
  | 0, _, _, k => if k = 0 then 1 else 0
  | 1, a, b, k => if k = 0 then 1 else if k = 1 then (if a then 0 else 1) + (if b then 0 else 1) else 0
  | d + 2, a, b, k => tabR (d + 1) false b k + ((if a then 0 else if k = 0 then 0 else tabR (d + 1) false b (k - 1)) + (if k = 0 then 0 else tabR (d + 1) true b (k - 1)))
theorem wR_tab (n d : Nat) : ∀ f t a b k, f + (d + 1) = n → 1 ≤ f → (∀ c, f < c → t.testBit c = false) → t.testBit f = a → t.testBit 0 = b → wR n (tableR n) (d + 1) f t k = tabR (d + 1) a b k := by
  induction d with
  | zero =>
    intro f t a b k hf h1 hc ha hb
    have hm : (f + 1) % n = 0 := by rw [show f + 1 = n by omega]; exact Nat.mod_self n
    have hs := sumN_two (term (tableR n) (wR n (tableR n) 0 (f + 1)) f t k) n f 0 (by omega) (by omega) (by omega) (fun c hc1 hc2 => by
      unfold term tableR
      rw [if_neg]
      simp [hc1, hc2, hm])
    rw [wR_succ, hs, tabR]
    unfold term tableR
    rw [hm, ha, hb]
    match k with
    | 0 => simp [wR]
    | 1 => cases a <;> cases b <;> simp [wR]
    | k + 2 => simp [wR]
  | succ d ih =>
    intro f t a b k hf h1 hc ha hb
    have hm : (f + 1) % n = f + 1 := Nat.mod_eq_of_lt (by omega)
    have hs := sumN_two (term (tableR n) (wR n (tableR n) (d + 1) (f + 1)) f t k) n f (f + 1) (by omega) (by omega) (by omega) (fun c hc1 hc2 => by
      unfold term tableR
      rw [if_neg]
      simp [hc1, hc2, hm])
    rw [wR_succ, hs, tabR, ih (f + 1) t false b k (by omega) (by omega) (fun c h => hc c (by omega)) (hc (f + 1) (by omega)) hb]
    congr 1
    congr 1
    · unfold term
      rw [ha, show tableR n f f = true by simp [tableR]]
      cases a
      · by_cases hk : k = 0
        · simp [hk]
        · simp only [hk, if_false]
          rw [ih (f + 1) (t ||| 2 ^ f) false b (k - 1) (by omega) (by omega) (fun c h => by rw [bit_both, hc c (by omega)]; simp; omega) (by rw [bit_both, hc (f + 1) (by omega)]; simp) (by rw [bit_both, hb]; simp; omega)]
          simp
      · simp
    · unfold term
      rw [hc (f + 1) (by omega), show tableR n f (f + 1) = true by simp [tableR, hm]]
      by_cases hk : k = 0
      · simp [hk]
      · simp only [hk, if_false]
        rw [ih (f + 1) (t ||| 2 ^ (f + 1)) true b (k - 1) (by omega) (by omega) (fun c h => by rw [bit_both, hc c (by omega)]; simp; omega) (by rw [bit_both]; simp) (by rw [bit_both, hb]; simp)]
        simp
/-- .. of the whole table. -/
def tabN (d k : Nat) : Nat := tabR (d + 1) false false k + ((if k = 0 then 0 else tabR (d + 1) false true (k - 1)) + (if k = 0 then 0 else tabR (d + 1) true false (k - 1)))
theorem wR_table (d k : Nat) : wR (d + 2) (tableR (d + 2)) (d + 2) 0 0 k = tabN d k := by
  have hm : (0 + 1) % (d + 2) = 1 := Nat.mod_eq_of_lt (by omega)
  have hs := sumN_two (term (tableR (d + 2)) (wR (d + 2) (tableR (d + 2)) (d + 1) (0 + 1)) 0 0 k) (d + 2) 0 1 (by omega) (by omega) (by omega) (fun c hc1 hc2 => by
    unfold term tableR
    rw [if_neg]
    simp only [hm]
    simp [hc1, hc2])
  rw [wR_succ, hs, tabN, wR_tab (d + 2) d 1 0 false false k (by omega) (by omega) (by simp) (by simp) (by simp)]
  congr 1
  congr 1
  · unfold term
    rw [show tableR (d + 2) 0 0 = true by simp [tableR]]
    by_cases hk : k = 0
    · simp [hk]
    · simp only [hk, if_false]
      rw [wR_tab (d + 2) d (0 + 1) (0 ||| 2 ^ 0) false true (k - 1) (by omega) (by omega) (fun c h => by rw [bit_both]; simp; omega) (by rw [bit_both]; simp) (by rw [bit_both]; simp)]
      simp
  · unfold term
    rw [show tableR (d + 2) 0 1 = true by simp [tableR, hm]]
    by_cases hk : k = 0
    · simp [hk]
    · simp only [hk, if_false]
      rw [wR_tab (d + 2) d (0 + 1) (0 ||| 2 ^ 1) true false (k - 1) (by omega) (by omega) (fun c h => by rw [bit_both]; simp; omega) (by rw [bit_both]; simp) (by rw [bit_both]; simp)]
      simp

/-- The number of orders without a number at its own place. -/
def der : Nat → Nat
  | 0 => 1
  | 1 => 0
  | k + 2 => (k + 1) * (der k + der (k + 1))
theorem der_bd (k : Nat) (hk : k ≤ 12) : der k ≤ 176214841 := by
  have key : ∀ k : Fin 13, der k ≤ 176214841 := by decide +kernel
  exact key ⟨k, by omega⟩
/-- Hit numbers off rook numbers that a function tells. -/
def hitF (n : Nat) (f : Nat → Nat) (k : Nat) : Int := sumT (fun j => sgC j k * ((f j : Nat) * (fN (n - j) : Nat))) (n + 1)
theorem fct_fNi (k : Nat) (hk : k ≤ 12) : fct k = fN k := by
  have key : ∀ k : Fin 13, fct (k : Nat) = fN k := by decide +kernel
  exact key ⟨k, by omega⟩
theorem sgC_chsi (j k : Nat) (hj : j ≤ 12) (hk : k ≤ 12) : ((chs j k : Nat) : Int) * (-1) ^ (j - k) = sgC j k := by
  have key : ∀ j : Fin 13, ∀ k : Fin 13, ((chs (j : Nat) k : Nat) : Int) * (-1) ^ ((j : Nat) - (k : Nat)) = sgC j k := by decide +kernel
  exact key ⟨j, by omega⟩ ⟨k, by omega⟩
theorem hfr_hitF (n : Nat) (hn : n ≤ 12) (f : Nat → Nat) : hfrL (n + 1) (lstL (n + 1) f) = lstH (n + 1) (hitF n f) := by
  unfold hfrL shfL
  refine lstH_congr _ _ _ (fun k hk => ?_)
  unfold hitF
  refine sumT_congr _ _ _ (fun j hj => ?_)
  unfold shT exfL
  rw [lstH_get (n + 1) _ j hj, lstL_get (n + 1) f j hj, Nat.add_sub_cancel, fct_fNi (n - j) (by omega), Int.mul_assoc, sgC_chsi j k (by omega) (by omega), Int.mul_comm]
theorem der_hits (n k : Nat) (hn : n ≤ 12) (hk : k ≤ n) : hitF n (chs n) k = (chs n k * der (n - k) : Nat) := by
  have key : ∀ n : Fin 13, ∀ k : Fin 13, (k : Nat) ≤ n → hitF n (chs n) k = (chs n k * der ((n : Nat) - k) : Nat) := by decide +kernel
  exact key ⟨n, by omega⟩ ⟨k, by omega⟩ hk
theorem der_abs (n j : Nat) (hn : n ≤ 12) (hj : j < n + 1) : Abs 1000000000000 ((lstL (n + 1) (chs n)).getD j 0 * fct (n + 1 - 1 - j)) := by
  rw [lstL_get (n + 1) _ j hj, Nat.add_sub_cancel]
  have h1 := chsG_le n j hn (by omega)
  have h2 := fctG_bd (n - j) (by omega)
  exact (Abs.mul (a := 924) (b := 479001600) (by unfold Abs; omega) (by unfold Abs; omega)).mono (by decide)
end Go.Proofs.Ytaipcmplpjkebaa
end

section
namespace Go.Proofs.Ytaipcmplpjkebaa
open Go.RowKit Go.WideShapes

/-- One term of the couples. -/
def cplW (n k : Nat) : Nat := 2 * n * chs (2 * n - k) k / (2 * n - k)
def cplT (n k : Nat) : Int := (if k % 2 = 1 then -((cplW n k : Nat) : Int) else (cplW n k : Nat)) * fct (n - k)
theorem cpl_hits (d : Nat) (hd : d ≤ 8) : hitF (d + 2) (tabN d) 0 = sumT (cplT (d + 2)) (d + 3) := by
  have key : ∀ d : Fin 9, hitF ((d : Nat) + 2) (tabN d) 0 = sumT (cplT ((d : Nat) + 2)) ((d : Nat) + 3) := by decide +kernel
  exact key ⟨d, by omega⟩
theorem tab_bd (d j : Nat) (hd : d ≤ 8) (hj : j ≤ 10) : tabN d j ≤ 100000 := by
  have key : ∀ d : Fin 9, ∀ j : Fin 11, tabN d j ≤ 100000 := by decide +kernel
  exact key ⟨d, by omega⟩ ⟨j, by omega⟩
/-- Euler's numbers. -/
def eul : Nat → Nat → Nat
  | 0, _ => 0
  | 1, k => if k = 0 then 1 else 0
  | m + 2, k => (k + 1) * eul (m + 1) k + (if k = 0 then 0 else (m + 2 - k) * eul (m + 1) (k - 1))
theorem eul_hits (n k : Nat) (hn1 : 1 ≤ n) (hn : n ≤ 10) (hk : k < n) : hitF n (stir n) k = eul n k := by
  have key : ∀ n : Fin 11, ∀ k : Fin 10, 1 ≤ (n : Nat) → (k : Nat) < n → hitF n (stir n) k = eul n k := by decide +kernel
  exact key ⟨n, by omega⟩ ⟨k, by omega⟩ hn1 hk
theorem stir_bd (n j : Nat) (hn : n ≤ 10) (hj : j ≤ 10) : stir n j ≤ 100000 := by
  have key : ∀ n : Fin 11, ∀ j : Fin 11, stir n j ≤ 100000 := by decide +kernel
  exact key ⟨n, by omega⟩ ⟨j, by omega⟩
theorem eul_bd (n k : Nat) (hn : n ≤ 10) (hk : k ≤ 10) : eul n k ≤ 3628800 := by
  have key : ∀ n : Fin 11, ∀ k : Fin 11, eul n k ≤ 3628800 := by decide +kernel
  exact key ⟨n, by omega⟩ ⟨k, by omega⟩
theorem small_abs (n j : Nat) (f : Nat → Nat) (hn : n ≤ 10) (hj : j < n + 1) (hf : f j ≤ 100000) : Abs 1000000000000 ((lstL (n + 1) f).getD j 0 * fct (n + 1 - 1 - j)) := by
  rw [lstL_get (n + 1) _ j hj, Nat.add_sub_cancel]
  have h2 : 1 ≤ fct (n - j) ∧ fct (n - j) ≤ 3628800 := by
    have key : ∀ k : Fin 11, 1 ≤ fct (k : Nat) ∧ fct (k : Nat) ≤ 3628800 := by decide +kernel
    exact key ⟨n - j, by omega⟩
  exact (Abs.mul (a := 100000) (b := 3628800) (by unfold Abs; omega) (by unfold Abs; omega)).mono (by decide)

set_option maxRecDepth 100000 in
set_option maxHeartbeats 1600000 in
theorem hitsBy_any (n : Nat) (F : FuncId) (R : Nat → Nat → Bool) (f : Nat → Nat) (w : World) (hn : n ≤ 12)
    (hcall : ∀ (args : Array Value) (w : World), (callFunc F args).run Try.prog w = .ok (.enter F args) w)
    (hF : ∀ r c, r < n → c < n → ∀ W, Calls Try.prog F #[.int .i64 n, .int .i64 r, .int .i64 c] W fun e w' => e = .returned (.bool (R r c)) ∧ w' = W)
    (hf : ∀ j, j < n + 1 → wR n R n 0 0 j = f j) (hb : ∀ j, j < n + 1 → Abs 1000000000000 ((lstL (n + 1) f).getD j 0 * fct (n + 1 - 1 - j))) :
    Calls Try.prog 71 #[.int .i64 n, .func (.func F) #[] #[]] w fun e w' => ∃ g p, e = .returned (.slice (some ⟨g, 0, none⟩) (n + 1) p) ∧ Own w' w.heap.size (.slice (some ⟨g, 0, none⟩) (n + 1) p) (lstH (n + 1) (hitF n f)) ∧ Below w.heap.size w w' := by
  have HC := Lib.hid (rooksBy_any n F R f w hn hcall hF hf)
  have HH := Lib.hid (fun (a : Option Addr) (p : Nat) (W : World) (h : Reads W a (n + 1) (lstL (n + 1) f)) => hitsFromRooks_any (n + 1) (lstL (n + 1) f) a p W (by omega) (by omega) hb h)
  have HE2 := Lib.hid (hfr_hitF n hn f)
  clear hf hb hF hcall
  go_enter Try.func71, Try.ntmps71
  go_wp2_with fail
  refine HC.out.mono ?_
  rintro e w2 ⟨g2, p2, rfl, hO, hb⟩
  have HL2 := Lib.hid ((Law.start w).own hb hO)
  have hrd : Reads w2 (some ⟨g2, 0, none⟩) (n + 1) (lstL (n + 1) f) := by
    obtain ⟨a, q, e, h⟩ := hO.reads
    rw [lstL_len] at e h
    cases e
    exact h
  have HRD2 := Lib.hid hrd
  clear hO hb hrd HC
  go_wp2_with fail
  refine (HH.out _ _ _ HRD2.out).mono ?_
  rintro e w3 ⟨g3, p3, rfl, hO, hb⟩
  rw [HE2.out] at hO
  have HL3 := Lib.hid (HL2.out.own hb hO)
  clear hO hb HL2 HH
  go_wp2_with fail
  go_ret
  exact ⟨_, _, rfl, HL3.out.ownLo, HL3.out.below⟩
end Go.Proofs.Ytaipcmplpjkebaa
end
