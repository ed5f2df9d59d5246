/- Polynomials and alternating sums of rook numbers: the plain part. No condition. -/
import Derived.Test.YtakdiiccdkjjcabRa
namespace Go.Proofs.Ytakdiiccdkjjcab
open Go.RowKit

/-- Not farther from 0 than b. -/
def Abs (b : Int) (x : Int) : Prop := -b ≤ x ∧ x ≤ b
theorem Abs.iff {b : Nat} {x : Int} : Abs b x ↔ x.natAbs ≤ b := by unfold Abs; omega
theorem Abs.mul {a b : Nat} {x y : Int} (hx : Abs a x) (hy : Abs b y) : Abs ((a * b : Nat) : Int) (x * y) := by
  rw [Abs.iff] at *
  rw [Int.natAbs_mul]
  exact Nat.mul_le_mul hx hy
theorem Abs.add {a b : Int} {x y : Int} (hx : Abs a x) (hy : Abs b y) : Abs (a + b) (x + y) := by unfold Abs at *; omega
theorem Abs.mono {a b : Int} {x : Int} (hx : Abs a x) (h : a ≤ b) : Abs b x := by unfold Abs at *; omega
theorem Abs.neg {a : Int} {x : Int} (hx : Abs a x) : Abs a (-x) := by unfold Abs at *; omega

theorem pow_abs (x : Int) (hx : Abs 20 x) (k : Nat) (hk : k ≤ 7) : Abs 1280000000 (x ^ k) := by
  have h1 : (x ^ k).natAbs ≤ 20 ^ k := by
    rw [Int.natAbs_pow]
    exact Nat.pow_le_pow_left (by unfold Abs at hx; omega) k
  have h2 : 20 ^ k ≤ 20 ^ 7 := Nat.pow_le_pow_right (by omega) hk
  unfold Abs
  omega

/-- The falling product. -/
def fal (x : Int) : Nat → Int
  | 0 => 1
  | k + 1 => fal x k * (x - k)
theorem fal_abs (x : Int) (hx : Abs 20 x) (k : Nat) (hk : k ≤ 6) : Abs ((26 ^ k : Nat) : Int) (fal x k) := by
  induction k with
  | zero => simp [fal, Abs]
  | succ k ih =>
    rw [fal, Nat.pow_succ]
    exact (ih (by omega)).mul (show Abs ((26 : Nat) : Int) (x - k) by unfold Abs at *; omega)
theorem fal_bd (x : Int) (hx : Abs 20 x) (k : Nat) (hk : k ≤ 6) : Abs 308915776 (fal x k) :=
  (fal_abs x hx k hk).mono (by
    have h2 : 26 ^ k ≤ 26 ^ 6 := Nat.pow_le_pow_right (by omega) hk
    omega)

/-- A sum of the first k terms. -/
def sumT (f : Nat → Int) : Nat → Int
  | 0 => 0
  | k + 1 => sumT f k + f k
theorem sumT_abs (f : Nat → Int) (b : Int) (n : Nat) (h : ∀ k, k < n → Abs b (f k)) : Abs (n * b) (sumT f n) := by
  induction n with
  | zero => simp [sumT, Abs]
  | succ n ih =>
    rw [sumT]
    refine ((ih (fun k hk => h k (by omega))).add (h n (by omega))).mono ?_
    rw [Int.natCast_succ, Int.add_mul, Int.one_mul]
    omega
theorem sumT_congr (f g : Nat → Int) (n : Nat) (h : ∀ k, k < n → f k = g k) : sumT f n = sumT g n := by
  induction n with
  | zero => rfl
  | succ n ih => rw [sumT, sumT, ih (fun k hk => h k (by omega)), h n (by omega)]

def polT (g : Nat → Nat) (x : Int) (k : Nat) : Int := (g k : Int) * x ^ k
theorem polT_abs (g : Nat → Nat) (x : Int) (hx : Abs 20 x) (k : Nat) (hk : k ≤ 7) (hg : g k ≤ 117649) : Abs 150590720000000 (polT g x k) :=
  ((show Abs ((117649 : Nat) : Int) (g k : Int) by unfold Abs; omega).mul (show Abs ((1280000000 : Nat) : Int) (x ^ k) from pow_abs x hx k hk)).mono (by decide)
def falT (g : Nat → Nat) (x : Int) (n k : Nat) : Int := (g k : Int) * fal x (n - k)
theorem falT_abs (g : Nat → Nat) (x : Int) (hx : Abs 20 x) (n k : Nat) (hn : n ≤ 6) (hg : g k ≤ 117649) : Abs 36343632130624 (falT g x n k) :=
  ((show Abs ((117649 : Nat) : Int) (g k : Int) by unfold Abs; omega).mul (show Abs ((308915776 : Nat) : Int) (fal x (n - k)) from fal_bd x hx _ (by omega))).mono (by decide)

/-- Choices of k of n things. -/
def chs : Nat → Nat → Nat
  | _, 0 => 1
  | 0, _ + 1 => 0
  | n + 1, k + 1 => chs n k + chs n (k + 1)
theorem chs_le (n k : Nat) (hn : n ≤ 6) (hk : k ≤ 6) : chs n k ≤ 20 := by
  have key : ∀ n : Fin 7, ∀ k : Fin 7, chs n k ≤ 20 := by decide +kernel
  exact key ⟨n, by omega⟩ ⟨k, by omega⟩
theorem chs_fal (n k : Nat) (hn : n ≤ 6) (hk : k ≤ n) : fal n k / fal k k = chs n k := by
  have key : ∀ n : Fin 7, ∀ k : Fin 7, (k : Nat) ≤ n → fal (n : Nat) (k : Nat) / fal (k : Nat) (k : Nat) = chs n k := by decide +kernel
  exact key ⟨n, by omega⟩ ⟨k, by omega⟩ hk
theorem chs_step (n k i : Nat) (hn : n ≤ 6) (hk : k ≤ n) (hi : i < k) : (chs (n - k + i) i : Int) * ((n : Int) - k + ((i : Int) + 1)) / ((i : Int) + 1) = chs (n - k + (i + 1)) (i + 1) := by
  have key : ∀ n : Fin 7, ∀ k : Fin 7, ∀ i : Fin 6, (k : Nat) ≤ n → (i : Nat) < k → (chs ((n : Nat) - k + i) i : Int) * (((n : Nat) : Int) - (k : Nat) + (((i : Nat) : Int) + 1)) / (((i : Nat) : Int) + 1) = chs ((n : Nat) - k + (i + 1)) (i + 1) := by decide +kernel
  exact key ⟨n, by omega⟩ ⟨k, by omega⟩ ⟨i, by omega⟩ hk hi
def fct (k : Nat) : Int := fal k k
theorem fct_bd (k : Nat) (hk : k ≤ 6) : 1 ≤ fct k ∧ fct k ≤ 720 := by
  have key : ∀ k : Fin 7, 1 ≤ fct k ∧ fct k ≤ 720 := by decide +kernel
  exact key ⟨k, by omega⟩

/-- One term of the alternating sum, without its sign. -/
def cmpT (g : Nat → Nat) (n k j : Nat) : Int := (g j : Int) * chs (n - j) (k - j) * chs (n - j) (k - j) * fct (k - j)
theorem cmpT_abs (g : Nat → Nat) (n k j : Nat) (hn : n ≤ 6) (hk : k ≤ n) (hg : g j ≤ 117649) : Abs 33882912000 (cmpT g n k j) := by
  have h1 := chs_le (n - j) (k - j) (by omega) (by omega)
  have h2 := fct_bd (k - j) (by omega)
  have hc : Abs ((20 : Nat) : Int) (chs (n - j) (k - j) : Int) := by unfold Abs; omega
  exact ((((show Abs ((117649 : Nat) : Int) (g j : Int) by unfold Abs; omega).mul hc).mul hc).mul (show Abs ((720 : Nat) : Int) (fct (k - j)) by unfold Abs; omega)).mono (by decide)
def sgn (j : Nat) : Int := if j % 2 = 1 then -1 else 1
def cmpS (g : Nat → Nat) (n k j : Nat) : Int := sgn j * cmpT g n k j
theorem cmpS_abs (g : Nat → Nat) (n k j : Nat) (hn : n ≤ 6) (hk : k ≤ n) (hg : g j ≤ 117649) : Abs 33882912000 (cmpS g n k j) := by
  have := cmpT_abs g n k j hn hk hg
  unfold cmpS sgn
  split
  · rw [Int.neg_one_mul]; exact this.neg
  · rw [Int.one_mul]; exact this
theorem sgn_succ (j : Nat) : sgn (j + 1) = - sgn j := by
  unfold sgn
  by_cases h : j % 2 = 1
  · rw [if_pos h, if_neg (by omega)]; rfl
  · rw [if_neg h, if_pos (by omega)]

end Go.Proofs.Ytakdiiccdkjjcab
