import Derived.Test.YtaipcmplpjkebaaFold15
import Derived.Test.YtaipcmplpjkebaaFold19
import Derived.Test.YtaipcmplpjkebaaFold17
import Derived.Test.YtaipcmplpjkebaaFold20
import Derived.Test.YtaipcmplpjkebaaFold10
import Derived.Test.YtaipcmplpjkebaaFold21
import Derived.Test.YtaipcmplpjkebaaFold24
import Derived.Laws.OwnMore

section
namespace Go.Proofs.Ytaipcmplpjkebaa
open Go.RowKit Go.WideShapes

theorem wR_drop (m : Nat) (R : Nat → Nat → Bool) (b d : Nat) : ∀ f t k, (∀ r, f ≤ r → r < f + d → R r b = false) → wR m R d f (t ||| 2 ^ b) k = wR m R d f t k := by
  induction d with
  | zero => intro f t k _; rfl
  | succ d ih =>
    intro f t k h
    have ih' := fun t k => ih (f + 1) t k (fun r h1 h2 => h r (by omega) (by omega))
    rw [wR_succ, wR_succ, ih']
    congr 1
    refine sumN_congr _ _ _ (fun c _ => ?_)
    unfold term
    rw [or_swap, ih', bit_both]
    by_cases hc : b = c
    · subst hc; rw [h f (Nat.le_refl _) (by omega)]; simp
    · simp [hc]
theorem low_bit (f c : Nat) : (2 ^ f - 1).testBit c = decide (c < f) := Nat.testBit_two_pow_sub_one f c
theorem low_succ (f : Nat) : 2 ^ (f + 1) - 1 = (2 ^ f - 1) ||| 2 ^ f := by
  apply Nat.eq_of_testBit_eq
  intro c
  rw [low_bit, bit_both, low_bit, Bool.eq_iff_iff, Bool.or_eq_true, decide_eq_true_eq, decide_eq_true_eq, decide_eq_true_eq]
  omega
theorem low_cnt (f e : Nat) : cntG (f + e) (2 ^ f - 1) = f := by
  rw [cntG_more f (2 ^ f - 1) (by have := Nat.two_pow_pos f; omega) e]
  unfold cntG
  rw [sumN_congr _ (fun _ => 1) f (fun c hc => by rw [low_bit]; simp [hc])]
  induction f with
  | zero => rfl
  | succ f ih => rw [sumN, ih]
/-- The rook numbers of the cells above the diagonal. -/
def stir : Nat → Nat → Nat
  | 0, k => if k = 0 then 1 else 0
  | d + 1, k => stir d k + (if k = 0 then 0 else (d - (k - 1)) * stir d (k - 1))
theorem wR_above (n d : Nat) : ∀ f k, f + d = n → wR n aboveR d f (2 ^ f - 1) k = stir d k := by
  induction d with
  | zero => intro f k _; rfl
  | succ d ih =>
    intro f k hf
    have hdr := fun t k => wR_drop n aboveR f d (f + 1) t k (fun r h1 h2 => by unfold aboveR; simp; omega)
    rw [wR_succ, stir, ← hdr, ← low_succ, ih (f + 1) k (by omega)]
    congr 1
    cases k with
    | zero => rw [term_zero, if_pos rfl]
    | succ i =>
      rw [if_neg (by omega), Nat.add_sub_cancel, term_succ]
      unfold put1
      rw [sumN_congr _ (fun c => if (2 ^ (f + 1) - 1).testBit c = false then wR n aboveR d (f + 1) ((2 ^ (f + 1) - 1) ||| 2 ^ c) i else 0) n (fun c _ => by
        show (if _ then (if _ then _ else _) else _) = (if _ then _ else _)
        rw [low_bit, low_bit, low_succ, or_swap, hdr]
        unfold aboveR
        by_cases h1 : c < f
        · simp [h1, show c < f + 1 by omega]
        · by_cases h2 : f < c
          · simp [h1, h2, show ¬ c < f + 1 by omega]
          · simp [h1, h2, show c < f + 1 by omega])]
      have h := freeSum n aboveR d (f + 1) (2 ^ (f + 1) - 1) i
      have hc := low_cnt (f + 1) d
      rw [show f + 1 + d = n by omega] at hc
      rw [hc, ih (f + 1) i (by omega)] at h
      by_cases hid : i ≤ d
      · have e : n * stir d i = (f + 1 + i) * stir d i + (d - i) * stir d i := by
          rw [← Nat.add_mul, show f + 1 + i + (d - i) = n by omega]
        omega
      · have hz : stir d i = 0 := by rw [← ih (f + 1) i (by omega)]; exact wR_more _ _ _ _ _ _ (by omega)
        rw [hz] at h ⊢
        omega

theorem wR_cong2 (m : Nat) (B B' : Nat → Nat → Bool) (d : Nat) : ∀ f t k, (∀ r c, f ≤ r → r < f + d → c < m → B r c = B' r c) → wR m B d f t k = wR m B' d f t k := by
  induction d with
  | zero => intro f t k _; rfl
  | succ d ih =>
    intro f t k h
    have ih' := fun t k => ih (f + 1) t k (fun r c h1 h2 h3 => h r c (by omega) (by omega) h3)
    rw [wR_succ, wR_succ, ih' t k]
    congr 1
    refine sumN_congr _ _ _ (fun c hc => ?_)
    unfold term
    rw [h f c (Nat.le_refl _) (by omega) hc, ih']
theorem wR_rulL (n : Nat) (R : Nat → Nat → Bool) (k : Nat) : wR n (bt (rowsL R n)) n 0 0 k = wR n R n 0 0 k :=
  wR_cong2 n _ _ n 0 0 k (fun r c _ h hc => by
    show ((rowsL R n).getD r 0).toNat.testBit c = _
    rw [rowsL_get R n r (by omega), Int.toNat_natCast, rulM_bit]
    simp [hc])

set_option maxRecDepth 100000 in
set_option maxHeartbeats 1600000 in
theorem rooksBy_any (n : Nat) (F : FuncId) (R : Nat → Nat → Bool) (f : Nat → Nat) (w : World) (hn : n ≤ 12)
    (hcall : ∀ (args : Array Value) (w : World), (callFunc F args).run Try.prog w = .ok (.enter F args) w)
    (hF : ∀ r c, r < n → c < n → ∀ W, Calls Try.prog F #[.int .i64 n, .int .i64 r, .int .i64 c] W fun e w' => e = .returned (.bool (R r c)) ∧ w' = W)
    (hf : ∀ j, j < n + 1 → wR n R n 0 0 j = f j) :
    Calls Try.prog 107 #[.int .i64 n, .func (.func F) #[] #[]] w fun e w' => ∃ g p, e = .returned (.slice (some ⟨g, 0, none⟩) (n + 1) p) ∧ Own w' w.heap.size (.slice (some ⟨g, 0, none⟩) (n + 1) p) (lstL (n + 1) f) ∧ Below w.heap.size w w' := by
  have HC := Lib.hid (cellsBy_any n F R w hn hcall hF)
  have HNR := Lib.hid (fun (a : Option Addr) (p : Nat) (W : World) (h : Reads W a n (rowsL R n)) => numbersOfRows_any n n (rowsL R n) a p W (rowsL_len R n) hn hn (fun k hk => by
    rw [rowsL_get R n k hk]
    have := rulM_lt R k n
    have h2 : 2 ^ n ≤ 2 ^ 12 := Nat.pow_le_pow_right (by omega) hn
    omega) h)
  have HE := Lib.hid (show lstL (min n n + 1) (wR n (bt (rowsL R n)) n 0 0) = lstL (n + 1) f by
    rw [Nat.min_self]
    exact lstL_congr _ _ _ (fun k hk => by rw [wR_rulL, hf k hk]))
  clear hf hF hcall
  go_enter Try.func107, Try.ntmps107
  go_wp2_with fail
  refine HC.out.mono ?_
  rintro e w1 ⟨g, p, rfl, hO, hb⟩
  have HL := Lib.hid ((Law.start w).own hb hO)
  have hrd : Reads w1 (some ⟨g, 0, none⟩) n (rowsL R n) := by
    obtain ⟨a, q, e, h⟩ := hO.reads
    rw [rowsL_len] at e h
    cases e
    exact h
  have HRD := Lib.hid hrd
  clear hO hb hrd HC
  go_wp2_with fail
  refine (HNR.out _ _ _ HRD.out).mono ?_
  rintro e w2 ⟨g2, p2, rfl, hO, hb⟩
  rw [HE.out, Nat.min_self] at hO
  rw [Nat.min_self]
  have HL2 := Lib.hid (HL.out.own hb hO)
  clear hO hb HL HNR
  go_wp2_with fail
  go_ret
  exact ⟨_, _, rfl, HL2.out.ownLo, HL2.out.below⟩

end Go.Proofs.Ytaipcmplpjkebaa
end

section
namespace Go.Proofs.Ytaipcmplpjkebaa
open Go.RowKit Go.WideShapes

theorem chs_big (n : Nat) : ∀ k, n < k → chs n k = 0 := by
  induction n with
  | zero => intro k h; cases k with | zero => omega | succ k => rfl
  | succ n ih =>
    intro k h
    cases k with
    | zero => omega
    | succ k => rw [chs, ih k (by omega), ih (k + 1) (by omega)]
theorem chs_nil (n : Nat) : chs n 0 = 1 := by cases n <;> rfl
theorem chs_mul (n : Nat) : ∀ k, k ≤ n → (k + 1) * chs n (k + 1) = (n - k) * chs n k := by
  induction n with
  | zero => intro k h; rw [show k = 0 by omega]; rfl
  | succ n ih =>
    intro k h
    cases k with
    | zero =>
      have h0 := ih 0 (by omega)
      have e : chs (n + 1) (0 + 1) = chs n 0 + chs n (0 + 1) := rfl
      rw [chs_nil] at h0
      rw [e, chs_nil, chs_nil]
      omega
    | succ k =>
      rw [show n + 1 - (k + 1) = n - k by omega]
      have h1 := ih k (by omega)
      by_cases hk : k + 1 ≤ n
      · have h2 := ih (k + 1) hk
        rw [chs, chs, Nat.mul_add, Nat.mul_add, h2, ← h1]
        have e : n - k = (n - (k + 1)) + 1 := by omega
        rw [e, Nat.succ_mul, Nat.succ_mul (n - (k + 1))]
        omega
      · have hkn : k = n := by omega
        subst hkn
        rw [Nat.sub_self, Nat.zero_mul, chs_big (k + 1) (k + 1 + 1) (by omega), Nat.mul_zero]
theorem chs_go2 (n i : Nat) (hi : i ≤ n) : (chs n i * (n - i)) / (i + 1) = chs n (i + 1) := by
  have h := chs_mul n i hi
  rw [Nat.mul_comm (chs n i), ← h, Nat.mul_comm, Nat.mul_div_cancel _ (by omega)]
theorem chs_two (n : Nat) : ∀ k, chs n k ≤ 2 ^ n := by
  induction n with
  | zero => intro k; cases k <;> simp [chs]
  | succ n ih =>
    intro k
    cases k with
    | zero => rw [chs_nil]; exact Nat.two_pow_pos _
    | succ k => rw [chs, Nat.pow_succ]; have := ih k; have := ih (k + 1); omega

set_option maxHeartbeats 1600000 in
theorem hiChoose_any (n k : Nat) (w : World) (hn : n ≤ 20) (hk : k ≤ 20) : Calls Try.prog 73 #[.int .i64 n, .int .i64 k] w fun e w' => e = .returned (.int .i64 (chs n k : Nat)) ∧ w' = w := by
  have hk0 : ¬ (k : Int) < 0 := by omega
  by_cases hkn : n < k
  · have hkn' : (n : Int) < k := by omega
    rw [chs_big n k hkn]
    go_enter Try.func73, Try.ntmps73
    go_wp2_with fail
    go_ret
    exact ⟨rfl, rfl⟩
  · have hkn' : ¬ (n : Int) < k := by omega
    go_enter Try.func73, Try.ntmps73
    go_wp2_with fail
    go_loop [5, 6] (fun t i => ∃ j : Nat, j ≤ k ∧ i = .int .i64 j ∧ t = .int .i64 (chs n j : Nat)) (fun _ i => k - (intOf i).toNat)
    case atStart => exact ⟨0, Nat.zero_le _, rfl, by rw [chs_nil]; rfl⟩
    case round =>
      obtain ⟨j, hj, rfl, rfl⟩ := hrel
      by_cases hlt : j < k
      · have hb := chs_two n j
        have hp : 2 ^ n ≤ 2 ^ 20 := Nat.pow_le_pow_right (by omega) hn
        have hb2 : chs n j * (n - j) ≤ 1048576 * 20 := Nat.mul_le_mul (by omega) (by omega)
        have e1 : (n : Int) - j = ((n - j : Nat) : Int) := by omega
        have e2 : ((chs n j : Nat) : Int) * ((n : Int) - j) = ((chs n j * (n - j) : Nat) : Int) := by rw [e1]; push_cast; rfl
        have hgo : wrap64 ((wrap64 (((chs n j : Nat) : Int) * ((n : Int) - j))).tdiv ((j : Int) + 1)) = ((chs n (j + 1) : Nat) : Int) := by
          rw [e2, IntWalk.wrap64_in ((chs n j * (n - j) : Nat) : Int) (by omega), show ((j : Int) + 1) = ((j + 1 : Nat) : Int) by push_cast; rfl, ← Int.ofNat_tdiv, chs_go2 n j (by omega)]
          have := chs_two n (j + 1)
          exact IntWalk.wrap64_in _ (by omega)
        have hm1 : wrap64 (((chs n j : Nat) : Int) * ((n : Int) - j)) = ((chs n j * (n - j) : Nat) : Int) := by rw [e2]; exact IntWalk.wrap64_in _ (by omega)
        have HGO := Lib.hid hgo
        clear hgo hm1 hb hb2 e1 e2 hp
        go_wp2_with fail
        go_round
        case rel => exact ⟨j + 1, by omega, by go_num, by first | rfl | rw [← HGO.out] | (simp only [Value.int.injEq, true_and]; first | exact HGO.out | (rw [← HGO.out]))⟩
        case measure => simp [intOf]; omega
      · obtain rfl : j = k := by omega
        go_wp2_with fail
        go_ret
        exact ⟨rfl, rfl⟩
theorem fal_end (n : Nat) (h : 0 < n) : fal n (n - 1) = fct n := by
  obtain ⟨m, rfl⟩ : ∃ m, n = m + 1 := ⟨n - 1, by omega⟩
  unfold fct
  rw [Nat.add_sub_cancel, fal, show ((m + 1 : Nat) : Int) - m = 1 by omega, Int.mul_one]
set_option maxHeartbeats 1600000 in
theorem hiFactorial_any (n : Nat) (w : World) (hn : n ≤ 12) : Calls Try.prog 74 #[.int .i64 n] w fun e w' => e = .returned (.int .i64 (fct n)) ∧ w' = w := by
  by_cases h0 : n = 0
  · subst h0
    have h1 : ¬ (1 : Int) < ((0 : Nat) : Int) := by omega
    go_enter Try.func74, Try.ntmps74
    go_wp2_with fail
    go_loop [0, 3] (fun i t => i = .int .i64 ((0 : Nat) : Int) ∧ t = .int .i64 1) (fun _ _ => 0)
    case atStart => exact ⟨rfl, rfl⟩
    case round =>
      obtain ⟨rfl, rfl⟩ := hrel
      go_wp2_with fail
      go_ret
      exact ⟨rfl, rfl⟩
  · have HF := Lib.hid (fal_end n (by omega))
    go_enter Try.func74, Try.ntmps74
    go_wp2_with fail
    go_loop [0, 3] (fun i t => ∃ j : Nat, j + 1 ≤ n ∧ i = .int .i64 ((n - j : Nat) : Int) ∧ t = .int .i64 (fal n j)) (fun i _ => (intOf i).toNat)
    case atStart => exact ⟨0, by omega, rfl, rfl⟩
    case round =>
      obtain ⟨j, hj, rfl, rfl⟩ := hrel
      by_cases hlt : 1 < n - j
      · have hlt' : (1 : Int) < ((n - j : Nat) : Int) := by omega
        have hm := falG_wrap n (by unfold Abs; omega) j (by omega)
        rw [show (n : Int) - j = ((n - j : Nat) : Int) by omega] at hm
        have hs : wrap64 (((n - j : Nat) : Int) - 1) = ((n - (j + 1) : Nat) : Int) := by rw [show ((n - j : Nat) : Int) - 1 = ((n - (j + 1) : Nat) : Int) by omega]; exact IntWalk.wrap64_in _ (by omega)
        have hs2 : ((n - j : Nat) : Int) - 1 = ((n - (j + 1) : Nat) : Int) := by omega
        obtain ⟨q, hq⟩ : ∃ q, q = n - j := ⟨_, rfl⟩
        rw [← hq] at hlt' hm hs hs2 ⊢
        have HQ := Lib.hid hq
        have HM := Lib.hid hm
        have HS2 := Lib.hid hs2
        have hq12 : (q : Int) ≤ 12 := by omega
        clear hq hm hs hs2
        go_wp2_with fail
        go_round
        case rel => exact ⟨j + 1, by have := HQ.out; omega, by first | (rw [← HS2.out]) | (simp only [Value.int.injEq, true_and]; exact HS2.out), by first | rfl | rw [HM.out]⟩
        case measure => simp [intOf]; omega
      · obtain rfl : j = n - 1 := by omega
        have hlt' : ¬ (1 : Int) < ((n - (n - 1) : Nat) : Int) := by omega
        rw [HF.out]
        go_wp2_with fail
        go_ret
        exact ⟨rfl, rfl⟩
end Go.Proofs.Ytaipcmplpjkebaa
end
