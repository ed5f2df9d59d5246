import Derived.Test.YtaipcmplpjkebaaFold9
import Derived.Test.YtaipcmplpjkebaaFold16
import Derived.Test.YtaipcmplpjkebaaFold26
import Derived.Test.YtaipcmplpjkebaaFold29
import Derived.Test.YtaipcmplpjkebaaFold30
import Derived.Test.YtaipcmplpjkebaaFold31
namespace Go.Proofs.Ytaipcmplpjkebaa
open Go.RowKit Go.WideShapes

def kdL (n : Nat) : List Int := lstL (n + 1) (fun k => chs n k * der (n - k))
def kaL (n : Nat) : List Int := lstL n (eul n) ++ [0]
def ktL (n : Nat) : List Int := lstL (n + 1) (pH n (bt (rowsL (tableR n) n)) n 0 0)
theorem kd_hit (n : Nat) (h1 : 1 ≤ n) (h6 : n ≤ 6) : hitR n n (rowsL diagR n) = ⟨kdL n, true⟩ := by
  have key : ∀ n : Fin 7, 1 ≤ (n : Nat) → sqB (n : Nat) (n : Nat) (rowsL diagR n) = true ∧ lstL ((n : Nat) + 1) (pH n (bt (rowsL diagR n)) n 0 0) = kdL n := by decide +kernel
  obtain ⟨a, b⟩ := key ⟨n, by omega⟩ h1
  unfold hitR
  rw [if_pos a, Int.toNat_natCast, b]
theorem ka_hit (n : Nat) (h1 : 1 ≤ n) (h6 : n ≤ 6) : hitR n n (rowsL aboveR n) = ⟨kaL n, true⟩ := by
  have key : ∀ n : Fin 7, 1 ≤ (n : Nat) → sqB (n : Nat) (n : Nat) (rowsL aboveR n) = true ∧ lstL ((n : Nat) + 1) (pH n (bt (rowsL aboveR n)) n 0 0) = kaL n := by decide +kernel
  obtain ⟨a, b⟩ := key ⟨n, by omega⟩ h1
  unfold hitR
  rw [if_pos a, Int.toNat_natCast, b]
theorem kt_hit (n : Nat) (h1 : 2 ≤ n) (h6 : n ≤ 6) : hitR n n (rowsL (tableR n) n) = ⟨ktL n, true⟩ ∧ (ktL n).getD 0 0 = sumT (cplT n) (n + 1) := by
  have key : ∀ n : Fin 7, 2 ≤ (n : Nat) → sqB (n : Nat) (n : Nat) (rowsL (tableR n) n) = true ∧ (ktL n).getD 0 0 = sumT (cplT n) ((n : Nat) + 1) := by decide +kernel
  obtain ⟨a, b⟩ := key ⟨n, by omega⟩ h1
  refine ⟨?_, b⟩
  unfold hitR
  rw [if_pos a, Int.toNat_natCast]
  rfl
theorem kdL_len (n : Nat) : (kdL n).length = n + 1 := lstL_len _ _
theorem kaL_len (n : Nat) : (kaL n).length = n + 1 := by unfold kaL; rw [List.length_append, lstL_len]; rfl
theorem ktL_len (n : Nat) : (ktL n).length = n + 1 := lstL_len _ _
theorem kdL_zero (n : Nat) (h6 : n ≤ 6) : (kdL n).getD 0 0 = (der n : Nat) := by
  have key : ∀ n : Fin 7, (kdL n).getD 0 0 = (der n : Nat) := by decide +kernel
  exact key ⟨n, by omega⟩
theorem kaL_last (n : Nat) : (kaL n).getD n 0 = 0 := by
  unfold kaL
  rw [List.getD_eq_getElem?_getD, List.getElem?_append_right (by rw [lstL_len]; exact Nat.le_refl _), lstL_len, Nat.sub_self]
  rfl
theorem kaL_take (n : Nat) : (kaL n).take n = lstL n (eul n) := by
  unfold kaL
  rw [List.take_append_of_le_length (by rw [lstL_len]; exact Nat.le_refl _), List.take_of_length_le (by rw [lstL_len]; exact Nat.le_refl _)]
theorem kdL_get (n k : Nat) (hk : k ≤ n) : (kdL n).getD k 0 = ((chs n k * der (n - k) : Nat) : Int) := lstL_get _ _ _ (by omega)
theorem eul_sum (u : Nat) (h : u ≤ 10) (h1 : 1 ≤ u) : ksm (lstL u (eul u)) u = fct u := by
  have key : ∀ u : Fin 11, 1 ≤ (u : Nat) → ksm (lstL (u : Nat) (eul u)) u = fct u := by decide +kernel
  exact key ⟨u, by omega⟩ h1
theorem own_rdY {w : World} {lo n p : Nat} {a : Option Addr} {xs : List Int} (h : Own w lo (.slice a n p) xs) : n = xs.length ∧ Reads w a n xs := by
  obtain ⟨a', q, e, hr⟩ := h.reads
  injection e with e1 e2 e3
  subst e1
  subst e2
  exact ⟨rfl, hr⟩

theorem implEulR_any (n : Int) (w : World) : Calls Try.prog 17 #[.int .i64 n] w fun e w' => ∃ a p, e = .returned (.tuple #[.slice a (eulR n).ys.length p, .bool (eulR n).ok]) ∧ Reads w' a (eulR n).ys.length (eulR n).ys ∧ Below w.heap.size w w' := by
  cases hg : inB 1 n 10
  · rw [show eulR n = ⟨[], false⟩ by simp [eulR, hg]]
    refine (implEul_no n w hg).mono ?_
    rintro e w' ⟨rfl, rfl⟩
    exact ⟨none, 0, rfl, ⟨rfl, .inl rfl⟩, Below.refl _ _⟩
  · rw [show eulR n = ⟨lstL n.toNat (eul n.toNat), true⟩ by simp [eulR, hg]]
    refine (implEul_yes n w hg).mono ?_
    rintro e w' ⟨v, rfl, ⟨g, q, z, rfl, hO⟩, hb⟩
    refine ⟨_, _, rfl, ?_, hb⟩
    generalize lstL n.toNat (eul n.toNat) = ys at *
    refine ⟨rfl, .inr ⟨g, 0, rfl, ?_, fun j hj => ?_⟩⟩
    · rcases hO.cases with ⟨e, _⟩ | ⟨g', cap, e, _, h2, _⟩
      · cases e
      · injection e with e1 _ _
        injection e1 with e1
        injection e1 with e1
        omega
    · have hj' : j < ys.length := hj
      have := Own.cell (xs := ys ++ [z]) (by rw [List.length_append]; exact hO) j (by rw [List.length_append]; omega)
      rw [Nat.zero_add, this, List.getD_eq_getElem?_getD, List.getElem?_append_left hj']
      rfl
end Go.Proofs.Ytaipcmplpjkebaa
