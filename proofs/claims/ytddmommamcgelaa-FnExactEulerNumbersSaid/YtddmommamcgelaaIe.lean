/- Known hit numbers, checked for the few numbers that are asked. No condition. -/
import Derived.Test.YtddmommamcgelaaId
namespace Go.Proofs.Ytddmommamcgelaa
open Go.RowKit Go.WideShapes

/-- One term of the couples. -/
def cplW (n k : Nat) : Nat := 2 * n * chs (2 * n - k) k / (2 * n - k)
def cplT (n k : Nat) : Int := (if k % 2 = 1 then -((cplW n k : Nat) : Int) else (cplW n k : Nat)) * fct (n - k)
theorem cpl_hits (d : Nat) (hd : d ≤ 8) : hitF (d + 2) (tabN d) 0 = sumT (cplT (d + 2)) (d + 3) := by
  have key : ∀ d : Fin 9, hitF ((d : Nat) + 2) (tabN d) 0 = sumT (cplT ((d : Nat) + 2)) ((d : Nat) + 3) := by decide +kernel
  exact key ⟨d, by omega⟩
theorem tab_bd (d j : Nat) (hd : d ≤ 8) (hj : j ≤ 10) : tabN d j ≤ 100000 := by
  have key : ∀ d : Fin 9, ∀ j : Fin 11, tabN d j ≤ 100000 := by decide +kernel
  exact key ⟨d, by omega⟩ ⟨j, by omega⟩
/-- Euler's numbers. -/
def eul : Nat → Nat → Nat
  | 0, _ => 0
  | 1, k => if k = 0 then 1 else 0
  | m + 2, k => (k + 1) * eul (m + 1) k + (if k = 0 then 0 else (m + 2 - k) * eul (m + 1) (k - 1))
theorem eul_hits (n k : Nat) (hn1 : 1 ≤ n) (hn : n ≤ 10) (hk : k < n) : hitF n (stir n) k = eul n k := by
  have key : ∀ n : Fin 11, ∀ k : Fin 10, 1 ≤ (n : Nat) → (k : Nat) < n → hitF n (stir n) k = eul n k := by decide +kernel
  exact key ⟨n, by omega⟩ ⟨k, by omega⟩ hn1 hk
theorem stir_bd (n j : Nat) (hn : n ≤ 10) (hj : j ≤ 10) : stir n j ≤ 100000 := by
  have key : ∀ n : Fin 11, ∀ j : Fin 11, stir n j ≤ 100000 := by decide +kernel
  exact key ⟨n, by omega⟩ ⟨j, by omega⟩
theorem eul_bd (n k : Nat) (hn : n ≤ 10) (hk : k ≤ 10) : eul n k ≤ 3628800 := by
  have key : ∀ n : Fin 11, ∀ k : Fin 11, eul n k ≤ 3628800 := by decide +kernel
  exact key ⟨n, by omega⟩ ⟨k, by omega⟩
theorem small_abs (n j : Nat) (f : Nat → Nat) (hn : n ≤ 10) (hj : j < n + 1) (hf : f j ≤ 100000) : Abs 1000000000000 ((lstL (n + 1) f).getD j 0 * fct (n + 1 - 1 - j)) := by
  rw [lstL_get (n + 1) _ j hj, Nat.add_sub_cancel]
  have h2 : 1 ≤ fct (n - j) ∧ fct (n - j) ≤ 3628800 := by
    have key : ∀ k : Fin 11, 1 ≤ fct (k : Nat) ∧ fct (k : Nat) ≤ 3628800 := by decide +kernel
    exact key ⟨n - j, by omega⟩
  exact (Abs.mul (a := 100000) (b := 3628800) (by unfold Abs; omega) (by unfold Abs; omega)).mono (by decide)

set_option maxRecDepth 100000 in
set_option maxHeartbeats 1600000 in
theorem rooksBy_any (n : Nat) (F : FuncId) (R : Nat → Nat → Bool) (f : Nat → Nat) (w : World) (hn : n ≤ 12)
    (hcall : ∀ (args : Array Value) (w : World), (callFunc F args).run Try.prog w = .ok (.enter F args) w)
    (hF : ∀ r c, r < n → c < n → ∀ W, Calls Try.prog F #[.int .i64 n, .int .i64 r, .int .i64 c] W fun e w' => e = .returned (.bool (R r c)) ∧ w' = W)
    (hf : ∀ j, j < n + 1 → wR n R n 0 0 j = f j) :
    Calls Try.prog 81 #[.int .i64 n, .func (.func F) #[] #[]] w fun e w' => ∃ g p, e = .returned (.slice (some ⟨g, 0, none⟩) (n + 1) p) ∧ Own w' w.heap.size (.slice (some ⟨g, 0, none⟩) (n + 1) p) (lstL (n + 1) f) ∧ Below w.heap.size w w' := by
  have HC := Lib.hid (cellsBy_any n F R w hn hcall hF)
  have HNR := Lib.hid (fun (a : Option Addr) (p : Nat) (W : World) (h : Reads W a n (rowsL R n)) => numbersOfRows_any n n (rowsL R n) a p W (rowsL_len R n) hn hn (fun k hk => by
    rw [rowsL_get R n k hk]
    have := rulM_lt R k n
    have h2 : 2 ^ n ≤ 2 ^ 12 := Nat.pow_le_pow_right (by omega) hn
    omega) h)
  have HE := Lib.hid (show lstL (min n n + 1) (wR n (bt (rowsL R n)) n 0 0) = lstL (n + 1) f by
    rw [Nat.min_self]
    exact lstL_congr _ _ _ (fun k hk => by rw [wR_rulL, hf k hk]))
  clear hf hF hcall
  go_enter Try.func81, Try.ntmps81
  go_wp2_with fail
  refine HC.out.mono ?_
  rintro e w1 ⟨g, p, rfl, hO, hb⟩
  have HL := Lib.hid ((Law.start w).own hb hO)
  have hrd : Reads w1 (some ⟨g, 0, none⟩) n (rowsL R n) := by
    obtain ⟨a, q, e, h⟩ := hO.reads
    rw [rowsL_len] at e h
    cases e
    exact h
  have HRD := Lib.hid hrd
  clear hO hb hrd HC
  go_wp2_with fail
  refine (HNR.out _ _ _ HRD.out).mono ?_
  rintro e w2 ⟨g2, p2, rfl, hO, hb⟩
  rw [HE.out, Nat.min_self] at hO
  rw [Nat.min_self]
  have HL2 := Lib.hid (HL.out.own hb hO)
  clear hO hb HL HNR
  go_wp2_with fail
  go_ret
  exact ⟨_, _, rfl, HL2.out.ownLo, HL2.out.below⟩

set_option maxRecDepth 100000 in
set_option maxHeartbeats 1600000 in
theorem hitsBy_any (n : Nat) (F : FuncId) (R : Nat → Nat → Bool) (f : Nat → Nat) (w : World) (hn : n ≤ 12)
    (hcall : ∀ (args : Array Value) (w : World), (callFunc F args).run Try.prog w = .ok (.enter F args) w)
    (hF : ∀ r c, r < n → c < n → ∀ W, Calls Try.prog F #[.int .i64 n, .int .i64 r, .int .i64 c] W fun e w' => e = .returned (.bool (R r c)) ∧ w' = W)
    (hf : ∀ j, j < n + 1 → wR n R n 0 0 j = f j) (hb : ∀ j, j < n + 1 → Abs 1000000000000 ((lstL (n + 1) f).getD j 0 * fct (n + 1 - 1 - j))) :
    Calls Try.prog 51 #[.int .i64 n, .func (.func F) #[] #[]] w fun e w' => ∃ g p, e = .returned (.slice (some ⟨g, 0, none⟩) (n + 1) p) ∧ Own w' w.heap.size (.slice (some ⟨g, 0, none⟩) (n + 1) p) (lstH (n + 1) (hitF n f)) ∧ Below w.heap.size w w' := by
  have HC := Lib.hid (rooksBy_any n F R f w hn hcall hF hf)
  have HH := Lib.hid (fun (a : Option Addr) (p : Nat) (W : World) (h : Reads W a (n + 1) (lstL (n + 1) f)) => hitsFromRooks_any (n + 1) (lstL (n + 1) f) a p W (by omega) (by omega) hb h)
  have HE2 := Lib.hid (hfr_hitF n hn f)
  clear hf hb hF hcall
  go_enter Try.func51, Try.ntmps51
  go_wp2_with fail
  refine HC.out.mono ?_
  rintro e w2 ⟨g2, p2, rfl, hO, hb⟩
  have HL2 := Lib.hid ((Law.start w).own hb hO)
  have hrd : Reads w2 (some ⟨g2, 0, none⟩) (n + 1) (lstL (n + 1) f) := by
    obtain ⟨a, q, e, h⟩ := hO.reads
    rw [lstL_len] at e h
    cases e
    exact h
  have HRD2 := Lib.hid hrd
  clear hO hb hrd HC
  go_wp2_with fail
  refine (HH.out _ _ _ HRD2.out).mono ?_
  rintro e w3 ⟨g3, p3, rfl, hO, hb⟩
  rw [HE2.out] at hO
  have HL3 := Lib.hid (HL2.out.own hb hO)
  clear hO hb HL2 HH
  go_wp2_with fail
  go_ret
  exact ⟨_, _, rfl, HL3.out.ownLo, HL3.out.below⟩
end Go.Proofs.Ytddmommamcgelaa
