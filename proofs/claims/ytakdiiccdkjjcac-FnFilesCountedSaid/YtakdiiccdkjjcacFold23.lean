import Derived.Test.YtakdiiccdkjjcacFold19
import Derived.Test.YtakdiiccdkjjcacFold21
import Derived.Test.YtakdiiccdkjjcacFold22
import Derived.Test.YtakdiiccdkjjcacFold0
import Derived.Test.YtakdiiccdkjjcacFold5
import Derived.Test.YtakdiiccdkjjcacFold8

section
namespace Go.Proofs.Ytakdiiccdkjjcac
open Go.RowKit Go.WideShapes

theorem wR_drop (m : Nat) (R : Nat → Nat → Bool) (b d : Nat) : ∀ f t k, (∀ r, f ≤ r → r < f + d → R r b = false) → wR m R d f (t ||| 2 ^ b) k = wR m R d f t k := by
  induction d with
  | zero => intro f t k _; rfl
  | succ d ih =>
    intro f t k h
    have ih' := fun t k => ih (f + 1) t k (fun r h1 h2 => h r (by omega) (by omega))
    rw [wR_succ, wR_succ, ih']
    congr 1
    refine sumN_congr _ _ _ (fun c _ => ?_)
    unfold term
    rw [or_swap, ih', bit_both]
    by_cases hc : b = c
    · subst hc; rw [h f (Nat.le_refl _) (by omega)]; simp
    · simp [hc]
theorem low_bit (f c : Nat) : (2 ^ f - 1).testBit c = decide (c < f) := Nat.testBit_two_pow_sub_one f c
theorem low_succ (f : Nat) : 2 ^ (f + 1) - 1 = (2 ^ f - 1) ||| 2 ^ f := by
  apply Nat.eq_of_testBit_eq
  intro c
  rw [low_bit, bit_both, low_bit, Bool.eq_iff_iff, Bool.or_eq_true, decide_eq_true_eq, decide_eq_true_eq, decide_eq_true_eq]
  omega
theorem low_cnt (f e : Nat) : cntG (f + e) (2 ^ f - 1) = f := by
  rw [cntG_more f (2 ^ f - 1) (by have := Nat.two_pow_pos f; omega) e]
  unfold cntG
  rw [sumN_congr _ (fun _ => 1) f (fun c hc => by rw [low_bit]; simp [hc])]
  induction f with
  | zero => rfl
  | succ f ih => rw [sumN, ih]
/-- The rook numbers of the cells above the diagonal. -/
def stir : Nat → Nat → Nat
  | 0, k => if k = 0 then 1 else 0
  | d + 1, k => stir d k + (if k = 0 then 0 else (d - (k - 1)) * stir d (k - 1))
theorem wR_above (n d : Nat) : ∀ f k, f + d = n → wR n aboveR d f (2 ^ f - 1) k = stir d k := by
  induction d with
  | zero => intro f k _; rfl
  | succ d ih =>
    intro f k hf
    have hdr := fun t k => wR_drop n aboveR f d (f + 1) t k (fun r h1 h2 => by unfold aboveR; simp; omega)
    rw [wR_succ, stir, ← hdr, ← low_succ, ih (f + 1) k (by omega)]
    congr 1
    cases k with
    | zero => rw [term_zero, if_pos rfl]
    | succ i =>
      rw [if_neg (by omega), Nat.add_sub_cancel, term_succ]
      unfold put1
      rw [sumN_congr _ (fun c => if (2 ^ (f + 1) - 1).testBit c = false then wR n aboveR d (f + 1) ((2 ^ (f + 1) - 1) ||| 2 ^ c) i else 0) n (fun c _ => by
        show (if _ then (if _ then _ else _) else _) = (if _ then _ else _)
        rw [low_bit, low_bit, low_succ, or_swap, hdr]
        unfold aboveR
        by_cases h1 : c < f
        · simp [h1, show c < f + 1 by omega]
        · by_cases h2 : f < c
          · simp [h1, h2, show ¬ c < f + 1 by omega]
          · simp [h1, h2, show c < f + 1 by omega])]
      have h := freeSum n aboveR d (f + 1) (2 ^ (f + 1) - 1) i
      have hc := low_cnt (f + 1) d
      rw [show f + 1 + d = n by omega] at hc
      rw [hc, ih (f + 1) i (by omega)] at h
      by_cases hid : i ≤ d
      · have e : n * stir d i = (f + 1 + i) * stir d i + (d - i) * stir d i := by
          rw [← Nat.add_mul, show f + 1 + i + (d - i) = n by omega]
        omega
      · have hz : stir d i = 0 := by rw [← ih (f + 1) i (by omega)]; exact wR_more _ _ _ _ _ _ (by omega)
        rw [hz] at h ⊢
        omega

theorem wR_cong2 (m : Nat) (B B' : Nat → Nat → Bool) (d : Nat) : ∀ f t k, (∀ r c, f ≤ r → r < f + d → c < m → B r c = B' r c) → wR m B d f t k = wR m B' d f t k := by
  induction d with
  | zero => intro f t k _; rfl
  | succ d ih =>
    intro f t k h
    have ih' := fun t k => ih (f + 1) t k (fun r c h1 h2 h3 => h r c (by omega) (by omega) h3)
    rw [wR_succ, wR_succ, ih' t k]
    congr 1
    refine sumN_congr _ _ _ (fun c hc => ?_)
    unfold term
    rw [h f c (Nat.le_refl _) (by omega) hc, ih']
theorem wR_rulL (n : Nat) (R : Nat → Nat → Bool) (k : Nat) : wR n (bt (rowsL R n)) n 0 0 k = wR n R n 0 0 k :=
  wR_cong2 n _ _ n 0 0 k (fun r c _ h hc => by
    show ((rowsL R n).getD r 0).toNat.testBit c = _
    rw [rowsL_get R n r (by omega), Int.toNat_natCast, rulM_bit]
    simp [hc])

set_option maxRecDepth 100000 in
set_option maxHeartbeats 1600000 in
theorem rooksBy_any (n : Nat) (F : FuncId) (R : Nat → Nat → Bool) (f : Nat → Nat) (w : World) (hn : n ≤ 12)
    (hcall : ∀ (args : Array Value) (w : World), (callFunc F args).run Try.prog w = .ok (.enter F args) w)
    (hF : ∀ r c, r < n → c < n → ∀ W, Calls Try.prog F #[.int .i64 n, .int .i64 r, .int .i64 c] W fun e w' => e = .returned (.bool (R r c)) ∧ w' = W)
    (hf : ∀ j, j < n + 1 → wR n R n 0 0 j = f j) :
    Calls Try.prog 163 #[.int .i64 n, .func (.func F) #[] #[]] w fun e w' => ∃ g p, e = .returned (.slice (some ⟨g, 0, none⟩) (n + 1) p) ∧ Own w' w.heap.size (.slice (some ⟨g, 0, none⟩) (n + 1) p) (lstL (n + 1) f) ∧ Below w.heap.size w w' := by
  have HC := Lib.hid (cellsBy_any n F R w hn hcall hF)
  have HNR := Lib.hid (fun (a : Option Addr) (p : Nat) (W : World) (h : Reads W a n (rowsL R n)) => numbersOfRows_any n n (rowsL R n) a p W (rowsL_len R n) hn hn (fun k hk => by
    rw [rowsL_get R n k hk]
    have := rulM_lt R k n
    have h2 : 2 ^ n ≤ 2 ^ 12 := Nat.pow_le_pow_right (by omega) hn
    omega) h)
  have HE := Lib.hid (show lstL (min n n + 1) (wR n (bt (rowsL R n)) n 0 0) = lstL (n + 1) f by
    rw [Nat.min_self]
    exact lstL_congr _ _ _ (fun k hk => by rw [wR_rulL, hf k hk]))
  clear hf hF hcall
  go_enter Try.func163, Try.ntmps163
  go_wp2_with fail
  refine HC.out.mono ?_
  rintro e w1 ⟨g, p, rfl, hO, hb⟩
  have HL := Lib.hid ((Law.start w).own hb hO)
  have hrd : Reads w1 (some ⟨g, 0, none⟩) n (rowsL R n) := by
    obtain ⟨a, q, e, h⟩ := hO.reads
    rw [rowsL_len] at e h
    cases e
    exact h
  have HRD := Lib.hid hrd
  clear hO hb hrd HC
  go_wp2_with fail
  refine (HNR.out _ _ _ HRD.out).mono ?_
  rintro e w2 ⟨g2, p2, rfl, hO, hb⟩
  rw [HE.out, Nat.min_self] at hO
  rw [Nat.min_self]
  have HL2 := Lib.hid (HL.out.own hb hO)
  clear hO hb HL HNR
  go_wp2_with fail
  go_ret
  exact ⟨_, _, rfl, HL2.out.ownLo, HL2.out.below⟩

end Go.Proofs.Ytakdiiccdkjjcac
end

section
namespace Go.Proofs.Ytakdiiccdkjjcac
open Go.RowKit

/-- A list by its numbers. -/
def lstI (L : Nat) (g : Nat → Int) : List Int := (List.range L).map g
theorem lstI_len (L : Nat) (g : Nat → Int) : (lstI L g).length = L := by simp [lstI]
theorem lstI_get (L : Nat) (g : Nat → Int) (k : Nat) (h : k < L) : (lstI L g).getD k 0 = g k := by simp [lstI, List.getD, h]
theorem lstI_congr (L : Nat) (g g' : Nat → Int) (h : ∀ k, k < L → g k = g' k) : lstI L g = lstI L g' := by
  unfold lstI
  refine List.map_congr_left fun k hk => h k ?_
  simpa using hk
theorem lstI_zero (L : Nat) : List.replicate L (0 : Int) = lstI L (fun _ => 0) := by
  refine List.ext_getElem ?_ fun k h1 h2 => ?_
  · simp [lstI]
  · simp [lstI]
theorem lstI_set (L : Nat) (g g' : Nat → Int) (i : Nat) (x : Int) (hx : g' i = x) (ho : ∀ k, k < L → k ≠ i → g' k = g k) : (lstI L g).set i x = lstI L g' := by
  refine List.ext_getElem ?_ fun k h1 h2 => ?_
  · simp [lstI]
  · have hk : k < L := by simpa [lstI] using h2
    rw [List.getElem_set]
    by_cases e : i = k
    · subst e
      simp [lstI, hx]
    · rw [if_neg e]
      simp [lstI, ho k hk (fun h => e h.symm)]
theorem lstI_snoc (L : Nat) (g : Nat → Int) : lstI L g ++ [g L] = lstI (L + 1) g := by simp [lstI, List.range_succ]
theorem lstI_self (xs : List Int) : lstI xs.length (fun k => xs.getD k 0) = xs := by
  refine List.ext_getElem ?_ fun k h1 h2 => ?_
  · simp [lstI]
  · simp [lstI, List.getD, h2]

end Go.Proofs.Ytakdiiccdkjjcac
end

section
namespace Go.Proofs.Ytakdiiccdkjjcac
open Go.RowKit Go.WideShapes

def idx0 (n : Nat) : List Int := lstI n (fun q => (q : Int))
def uptI (k q : Nat) : Int := if q < k then (q : Int) else 0

set_option maxRecDepth 100000 in
set_option maxHeartbeats 1600000 in
theorem indices_any (n : Nat) (w : World) (hn : n ≤ 1048576) :
    Calls Try.prog 138 #[.int .i64 n] w fun e w' => ∃ g, e = .returned (.slice (some ⟨g, 0, none⟩) n n) ∧ Own w' w.heap.size (.slice (some ⟨g, 0, none⟩) n n) (idx0 n) ∧ Below w.heap.size w w' := by
  have hmk := run_make_row' (P := Try.prog) 22 3 (.int .i64 0) 8 Try.underlying22 Try.infoI rfl .i64 .i64 n (by omega) (by omega)
  go_enter Try.func138, Try.ntmps138
  go_upto_region 2 with fail
  have L2 := (Law.start w).own (below_new _) (own_made w n _ w.heap.size rfl (Nat.le_refl _) (by omega))
  rw [lstI_zero, lstI_congr n (fun _ => 0) (uptI 0) (fun k _ => by unfold uptI; rw [if_neg (by omega)])] at L2
  have HL2 := Lib.hid L2
  clear L2 hmk
  generalize w.alloc (.cells (madeCells #[.int .i64 0] n) 3) = w6 at *
  go_wp2_with fail
  go_loopw [9] (fun i wr => ∃ k : Nat, k ≤ n ∧ i = .int .i64 k ∧ Law w [tOwn (.slice (some ⟨w.heap.size, 0, none⟩) n n) (lstI n (uptI k))] wr) (fun i _ => n - (intOf i).toNat)
  case atStart => exact ⟨0, Nat.zero_le _, rfl, HL2.out⟩
  case round =>
    clear HL2
    obtain ⟨k, hk, rfl, L⟩ := hrel
    by_cases hlt : k < n
    · have o := L.ownInts
      have d1 := Own.cell (by rw [lstI_len]; exact o) k (by rw [lstI_len]; exact hlt)
      have d2 := Own.free (by rw [lstI_len]; exact o) k
      have hS := Law.store (ts := []) L (lstI_len _ _) k (k : Int)
      rw [lstI_set n _ (uptI (k + 1)) k _ (by unfold uptI; rw [if_pos (by omega)]) (fun q _ hq => by
        unfold uptI
        by_cases h : q < k
        · rw [if_pos h, if_pos (by omega)]
        · rw [if_neg h, if_neg (by omega)])] at hS
      have HS := Lib.hid hS
      generalize (lstI n (uptI k)).getD k 0 = z at *
      clear L hS o
      go_wp2_with fail
      go_roundw
      case rel => exact ⟨k + 1, by omega, by go_num, HS.out⟩
      case measure => simp [intOf]; omega
    · obtain rfl : k = n := by omega
      have HF := Lib.hid (show lstI k (uptI k) = idx0 k from lstI_congr k _ _ (fun q hq => by unfold uptI; rw [if_pos hq]))
      have HL := Lib.hid L
      clear L
      go_wp2_with fail
      go_ret
      exact ⟨_, rfl, by rw [← HF.out]; exact HL.out.ownLo, HL.out.below⟩
end Go.Proofs.Ytakdiiccdkjjcac
end

section
namespace Go.Proofs.Ytakdiiccdkjjcac
open Go.RowKit Go.WideShapes

/-- One term. -/
def trmV (ys : List Int) (x : Int) (k : Nat) : Int := ys.getD k 0 * x ^ k

end Go.Proofs.Ytakdiiccdkjjcac
end
