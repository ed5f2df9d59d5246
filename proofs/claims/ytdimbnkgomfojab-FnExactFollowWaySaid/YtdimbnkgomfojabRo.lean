/- One rook number, lists without zeros at their end, in both texts. No condition but the sizes. -/
import Derived.Test.YtdimbnkgomfojabRn
namespace Go.Proofs.Ytdimbnkgomfojab
open Go.RowKit Go.WideShapes

theorem Own.capLe {w : World} {lo g L p : Nat} {xs : List Int} (h : Own w lo (.slice (some ⟨g, 0, none⟩) L p) xs) : L ≤ p := by
  rcases h.cases with ⟨h0, _⟩ | ⟨g', p', h0, _, _, h1, _⟩
  · cases h0
  · injection h0 with _ h2 h3
    omega

def sliceLen : Value → Nat
  | .slice _ n _ => n
  | _ => 0


set_option maxHeartbeats 800000 in
theorem withoutLast_any (g L p : Nat) (xs : List Int) (w : World) (hx : L ≤ 1048576) (hp : L ≤ p) (hL : xs.length = L) (lo : Nat) (hO : Own w lo (.slice (some ⟨g, 0, none⟩) L p) xs) :
    Calls Try.prog 108 #[.slice (some ⟨g, 0, none⟩) L p] w fun e w' => e = .returned (.slice (some ⟨g, 0, none⟩) (shK xs L) p) ∧ w = w' := by
  have hc : ∀ k, k < L → w.cell? ⟨g, k, none⟩ = some (.int .i64 (xs.getD k 0)) := fun k hk => by
    subst hL
    exact hO.cell k hk
  have HC := Lib.hid hc
  clear hc hO hL
  go_enter Try.func108, Try.ntmps108
  go_wp2_with fail
  go_loop [0] (fun i => ∃ k : Nat, k ≤ L ∧ i = .slice (some ⟨g, 0, none⟩) k p ∧ Hid (shK xs k = shK xs L)) (fun i => sliceLen i)
  case atStart => exact ⟨L, Nat.le_refl _, rfl, Lib.hid rfl⟩
  case round =>
    obtain ⟨k, hk, rfl, HK⟩ := hrel
    cases k with
    | zero =>
      have hr := HK.out
      rw [shK] at hr
      have HR := Lib.hid hr
      clear hr HK
      go_wp2_with fail
      go_ret
      exact ⟨congrArg (fun n => Ending.returned (.slice (some ⟨g, 0, none⟩) n p)) HR.out, rfl⟩
    | succ j =>
      have hcj := HC.out j (by omega)
      have hr := HK.out
      rw [shK] at hr
      have hj1 : IntKind.i64.wrap (((j + 1 : Nat) : Int) - 1) = j := by rw [show ((j + 1 : Nat) : Int) - 1 = j by omega]; exact IntWalk.i64_in _ (by omega)
      have hj2 : (0 : Int) ≤ j := by omega
      have hj3 : (j : Int) < L := by omega
      have hjp : (j : Int) ≤ p := by omega
      by_cases h0 : xs.getD j 0 = 0
      · rw [if_pos h0] at hr
        rw [h0] at hcj
        have HR := Lib.hid hr
        clear hr HK h0
        go_wp2_with fail
        go_round
        case rel => exact ⟨j, by omega, rfl, HR⟩
        case measure => simp [sliceLen]
      · rw [if_neg h0] at hr
        have HR := Lib.hid hr
        have h0' : (xs.getD j 0 == 0) = false := by rw [beq_eq_false_iff_ne]; exact h0
        generalize xs.getD j 0 = x at *
        clear hr HK h0
        go_wp2_with fail
        go_ret
        exact ⟨congrArg (fun n => Ending.returned (.slice (some ⟨g, 0, none⟩) n p)) HR.out, rfl⟩


set_option maxRecDepth 100000 in
set_option maxHeartbeats 800000 in
theorem rookNumber_any (n m k : Nat) (M : Nat → Int) (w : World) (hn : n ≤ 6) (hm : m ≤ 6) (hgc : ∀ k, k < 6 → 0 ≤ M k ∧ M k < 64) :
    Calls Try.prog 65 #[gv n m M, .int .i64 k] w fun e w' => e = .returned (.int .i64 ((numL n m (bM M)).getD k 0)) ∧ Below w.heap.size w w' := by
  have L0 := (Law.start w).has (gl n m M) 68
  have hc := fun W => rookNumbers_any n m M W hn hm hgc
  have hl := numL_len n m (bM M)
  have hd : lstL (min n m + 1) (wR m (bM M) n 0 0) = numL n m (bM M) := rfl
  rw [hd] at hc
  clear hd
  have hq6 : min n m ≤ 6 := by omega
  generalize numL n m (bM M) = ys at *
  generalize min n m = q at *
  obtain ⟨x, hxx⟩ : ∃ x, x = ys.getD k 0 := ⟨_, rfl⟩
  rw [← hxx]
  have HX := Lib.hid hxx
  clear hxx
  have HC := Lib.hid hc
  have HLN := Lib.hid hl
  have HB := Lib.hid L0.below
  clear L0 hc hgc hl
  go_enter Try.func65, Try.ntmps65
  go_wp2_with fail
  refine (HC.out _).mono ?_
  rintro e w1 ⟨g, p, rfl, hO, hb⟩
  have HB2 := Lib.hid (below_on HB.out hb)
  clear HB HC hb
  by_cases hk : k < q + 1
  · have y1 := Own.cell (by rw [HLN.out]; exact hO) k (by rw [HLN.out]; exact hk)
    have hkq : (k : Int) < (q : Int) + 1 := by omega
    clear hO
    rw [← HX.out] at y1
    go_wp2_with fail
    go_ret
    exact ⟨rfl, HB2.out⟩
  · have HZ := Lib.hid (show ys.getD k 0 = 0 by rw [List.getD_eq_getElem?_getD, List.getElem?_eq_none (by rw [HLN.out]; omega)]; rfl)
    have hkq : (q : Int) + 1 ≤ k := by omega
    clear hO hk
    go_wp2_with fail
    go_ret
    exact ⟨ret_int (HX.out.trans HZ.out).symm, HB2.out⟩
end Go.Proofs.Ytdimbnkgomfojab
