/- Rook numbers of rows, in the program. No condition but the sizes. -/
import Derived.Test.YtakdiiccdkjjcaaHb
import Derived.Test.YtakdiiccdkjjcaaI
import Derived.Test.YtakdiiccdkjjcaaRw
import Derived.Test.YtakdiiccdkjjcaaG2
import Derived.Laws.BitsLemmas
namespace Go.Proofs.Ytakdiiccdkjjcaa
open Go.RowKit Go.WideShapes

theorem wrap63 (n : Int) (h0 : 0 ≤ n) (h : n < 2 ^ 63) : IntKind.i64.wrap n = n := IntWalk.i64_in _ (by omega)
theorem div_nat (x c : Nat) : (x : Int) / 2 ^ c = ((x / 2 ^ c : Nat) : Int) := by push_cast; rfl
theorem bit_one (x c : Nat) (hx : x < 4096) : bits .and .i64 ((x : Int) / 2 ^ c) 1 = if x.testBit c = true then 1 else 0 := by
  have hd : x / 2 ^ c < 2 ^ 63 := Nat.lt_of_le_of_lt (Nat.div_le_self _ _) (by omega)
  rw [div_nat]
  have := (bits_nat .i64 63 (by decide) (fun n h0 h => wrap63 n h0 h) (x / 2 ^ c) 1 hd (by omega)).1
  rw [show (1 : Int) = ((1 : Nat) : Int) from rfl, this, Nat.and_one_is_mod, Nat.testBit_eq_decide_div_mod_eq]
  rcases Nat.mod_two_eq_zero_or_one (x / 2 ^ c) with h | h <;> simp [h]
theorem bit_on (x c : Nat) (hx : x < 4096) : (bits .and .i64 ((x : Int) / 2 ^ c) 1 == 1) = x.testBit c := by
  rw [bit_one x c hx]
  cases x.testBit c <;> rfl
theorem bit_no (x c : Nat) (hx : x < 4096) : (bits .and .i64 ((x : Int) / 2 ^ c) 1 == 0) = !x.testBit c := by
  rw [bit_one x c hx]
  cases x.testBit c <;> rfl
theorem pow_wrap (c : Nat) (hc : c ≤ 12) : wrap64 (2 ^ c) = ((2 ^ c : Nat) : Int) := by
  have key : ∀ c : Fin 13, wrap64 (2 ^ (c : Nat)) = ((2 ^ (c : Nat) : Nat) : Int) := by decide +kernel
  exact key ⟨c, by omega⟩
theorem or_set (s c : Nat) (hs : s < 4096) (hc : c < 12) : bits .or .i64 (s : Int) (wrap64 (2 ^ c)) = ((s ||| 2 ^ c : Nat) : Int) := by
  have h2 : 2 ^ c ≤ 2 ^ 12 := Nat.pow_le_pow_right (by omega) (by omega)
  rw [pow_wrap c (by omega)]
  exact (bits_nat .i64 63 (by decide) (fun n h0 h => wrap63 n h0 h) s (2 ^ c) (by omega) (by omega)).2
theorem add_big (x y : Nat) (hx : x ≤ 1000000000000000000) (hy : y ≤ 1000000000000000000) : IntKind.i64.wrap ((x : Int) + y) = ((x + y : Nat) : Int) := by
  rw [show (x : Int) + y = ((x + y : Nat) : Int) by push_cast; rfl]
  exact IntWalk.i64_in _ (by omega)

theorem oc_all (n : Nat) (h : n < 4096) : oc n = cntG 12 n := by
  have key : ∀ a : Fin 64, ∀ b : Fin 64, oc (((64 * (a : Nat) + (b : Nat)) : Nat) : Int) = (cntG 12 (64 * (a : Nat) + (b : Nat)) : Int) := by decide +kernel
  have := key ⟨n / 64, by omega⟩ ⟨n % 64, by omega⟩
  simp only at this
  rw [show 64 * (n / 64) + n % 64 = n by omega] at this
  exact this
set_option maxHeartbeats 1600000 in
theorem onesG64_any (n : Nat) (w : World) (hn : n < 4096) :
    Calls Try.prog 129 #[.int .u64 n] w fun e w' => e = .returned (.int .i64 (cntG 12 n)) ∧ w = w' := by
  have h0 : 0 ≤ (n : Int) := by omega
  have h1 : (n : Int) < 4096 := by omega
  go_enter Try.func129, Try.ntmps129
  go_wp2
  go_ret
  exact ⟨ret_int (oc_all n hn), rfl⟩
set_option maxHeartbeats 800000 in
theorem onesG_any (n : Nat) (w : World) (hn : n < 4096) :
    Calls Try.prog 122 #[.int .u64 n] w fun e w' => e = .returned (.int .i64 (cntG 12 n)) ∧ w = w' := by
  go_enter Try.func122, Try.ntmps122
  go_wp2_with fail
  refine (onesG64_any n w hn).mono ?_
  rintro e w' ⟨rfl, rfl⟩
  go_wp2_with fail
  go_ret
  exact ⟨rfl, rfl⟩

/-- Sets of j columns among the first k sets, summed up. -/
def sumG (m : Nat) (B : Nat → Nat → Bool) (r k j : Nat) : Nat := sumN (fun s => if cntG m s = j then wS m B r s else 0) k
theorem sumG_succ (m : Nat) (B : Nat → Nat → Bool) (r k j : Nat) : sumG m B r (k + 1) j = sumG m B r k j + if cntG m k = j then wS m B r k else 0 := rfl
theorem sumG_le (m : Nat) (hm : m ≤ 12) (B : Nat → Nat → Bool) (r : Nat) (hr : r ≤ 12) (k j : Nat) : sumG m B r k j ≤ k * 23298085122481 :=
  sumN_le _ _ _ (fun s _ => by
    show (if _ then _ else _) ≤ _
    split
    · exact Nat.le_trans (wSG_le m hm B r s) (pow13 r hr)
    · omega)
theorem lstL_start (m N : Nat) (B : Nat → Nat → Bool) : (List.replicate N (0 : Int)).set 0 1 = lstL N (wS m B 0) := by
  rw [lstL_zero]
  exact lstL_set N _ _ 0 1 (by simp [wS]) (fun k _ hk => by simp [wS, hk])

/-- The head of the loop over sets. -/
def HcSet (w : World) (m N g : Nat) (B : Nat → Nat → Bool) (r : Nat) (i : Value) (wr : World) : Prop :=
  (∃ s : Nat, s < N ∧ i = .int .i64 s ∧ Law w [tOwn (.slice (some ⟨g, 0, none⟩) N N) (lstL N (midW m B r (s + 1) 0))] wr) ∨
  (i = .int .i64 (-1) ∧ Law w [tOwn (.slice (some ⟨g, 0, none⟩) N N) (lstL N (midW m B r 0 0))] wr)

end Go.Proofs.Ytakdiiccdkjjcaa
