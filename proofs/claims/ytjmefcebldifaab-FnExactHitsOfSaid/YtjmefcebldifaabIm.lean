/- How many rows an order hits: both texts. No condition but the sizes. -/
import Derived.Test.YtjmefcebldifaabIl
import Derived.Test.YtjmefcebldifaabIi
import Derived.Test.YtjmefcebldifaabO
import Derived.Test.YtjmefcebldifaabZ
import Derived.Deep.RegionHeld3
namespace Go.Proofs.Ytjmefcebldifaab
open Go.RowKit Go.WideShapes

theorem Has.fourteen {w : World} {b : Nat} {n m : Int} {M F : Nat → Int} {t : TypeId} (h : Has w b (trL n m M F) t) :
    w.cell? ⟨b, 0, none⟩ = some (.int .i64 n) ∧ w.cell? ⟨b, 1, none⟩ = some (.int .i64 m) ∧ w.cell? ⟨b, 2, none⟩ = some (.int .i64 (M 0)) ∧ w.cell? ⟨b, 3, none⟩ = some (.int .i64 (M 1)) ∧ w.cell? ⟨b, 4, none⟩ = some (.int .i64 (M 2)) ∧ w.cell? ⟨b, 5, none⟩ = some (.int .i64 (M 3)) ∧ w.cell? ⟨b, 6, none⟩ = some (.int .i64 (M 4)) ∧ w.cell? ⟨b, 7, none⟩ = some (.int .i64 (M 5)) ∧
    w.cell? ⟨b, 8, none⟩ = some (.int .i64 (F 0)) ∧ w.cell? ⟨b, 9, none⟩ = some (.int .i64 (F 1)) ∧ w.cell? ⟨b, 10, none⟩ = some (.int .i64 (F 2)) ∧ w.cell? ⟨b, 11, none⟩ = some (.int .i64 (F 3)) ∧ w.cell? ⟨b, 12, none⟩ = some (.int .i64 (F 4)) ∧ w.cell? ⟨b, 13, none⟩ = some (.int .i64 (F 5)) :=
  ⟨h.cell 0, h.cell 1, h.cell 2, h.cell 3, h.cell 4, h.cell 5, h.cell 6, h.cell 7, h.cell 8, h.cell 9, h.cell 10, h.cell 11, h.cell 12, h.cell 13⟩
set_option maxRecDepth 100000 in
set_option maxHeartbeats 1600000 in
theorem overT1_any (n m : Int) (M F : Nat → Int) (r bv bi : Nat) (w : World) (hr : r < 6) (hM : 0 ≤ M r ∧ M r < 64) (hF : 0 ≤ F r ∧ F r < 6)
    (hv : w.cell? ⟨bv, 0, none⟩ = some (.func (.func 76) #[] #[])) (hb : Has w bi (trL n m M F) 78) :
    Calls Try.prog 86 (#[.int .i64 r] ++ #[.pointer (some ⟨bv, 0, none⟩), .pointer (some ⟨bi, 0, none⟩)]) w fun e w' => e = .returned (.int .i64 (hit1 M F r)) ∧ Below w.heap.size w w' := by
  have HA := Lib.hid (hitIn_any n m M F r w hr hM hF)
  have ⟨c0, c1, c2, c3, c4, c5, c6, c7, c8, c9, c10, c11, c12, c13⟩ := hb.fourteen
  clear hM hF hb
  go_enter Try.func86, Try.ntmps86
  go_wp2_with fail
  refine HA.out.mono ?_
  rintro e w' ⟨rfl, hb⟩
  have HB := Lib.hid hb
  clear hb
  go_wp2_with fail
  go_ret
  exact ⟨rfl, HB.out⟩

set_option maxRecDepth 100000 in
set_option maxHeartbeats 1600000 in
theorem overT_any (q : Nat) (n m : Int) (M F : Nat → Int) (w : World) (hq : q ≤ 6) (hM : ∀ r, r < q → 0 ≤ M r ∧ M r < 64) (hF : ∀ r, r < q → 0 ≤ F r ∧ F r < 6) :
    Calls Try.prog 75 #[trV n m M F, .int .i64 q, .func (.func 76) #[] #[]] w fun e w' => e = .returned (.int .i64 (sumT (hit1 M F) q)) ∧ Below w.heap.size w w' := by
  have L0 := ((Law.start w).has (trL n m M F) 78).has [.func (.func 76) #[] #[]] 79
  simp only [World.size_alloc] at L0
  rw [show ([.func (.func 76) #[] #[]] : List Value).toArray = #[.func (.func 76) #[] #[]] from rfl,
    show (trL n m M F).toArray = #[.int .i64 n, .int .i64 m, .int .i64 (M 0), .int .i64 (M 1), .int .i64 (M 2), .int .i64 (M 3), .int .i64 (M 4), .int .i64 (M 5), .int .i64 (F 0), .int .i64 (F 1), .int .i64 (F 2), .int .i64 (F 3), .int .i64 (F 4), .int .i64 (F 5)] from rfl] at L0
  have HL := Lib.hid L0
  have hsm : ∀ j, j ≤ 6 → 0 ≤ sumT (hit1 M F) j ∧ sumT (hit1 M F) j ≤ j := by
    intro j
    induction j with
    | zero => intro _; simp [sumT]
    | succ j ih =>
      intro h
      have := ih (by omega)
      rw [sumT]
      unfold hit1 at *
      split <;> omega
  have HF := Lib.hid (fun (W : World) (L : Law w [tHas (w.heap.size + 1) [.func (.func 76) #[] #[]] 79, tHas w.heap.size (trL n m M F) 78] W) => sumOfTerms_any q 86 #[.pointer (some ⟨w.heap.size + 1, 0, none⟩), .pointer (some ⟨w.heap.size, 0, none⟩)] (hit1 M F) W (by omega) (fun _ _ => by kernel_rfl)
    (fun j hj w' hb => by
      have L2 := L.kept hb
      have hv := L2.ownHas.cell 0
      simp only [List.getElem?_cons_zero] at hv
      exact overT1_any n m M F j (w.heap.size + 1) w.heap.size w' (by omega) (hM j hj) (hF j hj) hv L2.tl.ownHas)
    (fun j hj => by
      have h := hsm (j + 1) (by omega)
      rw [sumT] at h
      exact IntWalk.i64_in _ (by omega)))
  clear L0 hM hF hsm
  go_enter Try.func75, Try.ntmps75
  go_upto_region 1 with fail
  generalize (w.alloc (.cells #[.int .i64 n, .int .i64 m, .int .i64 (M 0), .int .i64 (M 1), .int .i64 (M 2), .int .i64 (M 3), .int .i64 (M 4), .int .i64 (M 5), .int .i64 (F 0), .int .i64 (F 1), .int .i64 (F 2), .int .i64 (F 3), .int .i64 (F 4), .int .i64 (F 5)] 78)).alloc (.cells #[.func (.func 76) #[] #[]] 79) = w5 at *
  go_wp2_with fail
  refine (HF.out _ HL.out).mono ?_
  rintro e w' ⟨rfl, hb⟩
  have HB := Lib.hid (HL.out.kept hb).below
  clear hb
  go_wp2_with fail
  go_ret
  exact ⟨rfl, HB.out⟩

set_option maxRecDepth 100000 in
set_option maxHeartbeats 1600000 in
theorem hitsOf_any (n : Nat) (m : Int) (M F : Nat → Int) (Q : List Int) (w : World) (hn : n ≤ 6) (hM : ∀ r, r < n → 0 ≤ M r ∧ M r < 64) (hF : ∀ r, r < n → Q.getD r 0 = F r ∧ 0 ≤ F r ∧ F r < 6) :
    Calls Try.prog 51 #[gv n m M, pv6 F] w fun e w' => e = .returned (.int .i64 (hitN (bN M) Q n : Nat)) ∧ Below w.heap.size w w' := by
  have L0 := ((Law.start w).has (gl n m M) 56).has (pl6 F) 59
  simp only [World.size_alloc] at L0
  rw [show (gl n m M).toArray = #[.int .i64 n, .int .i64 m, .int .i64 (M 0), .int .i64 (M 1), .int .i64 (M 2), .int .i64 (M 3), .int .i64 (M 4), .int .i64 (M 5)] from rfl, show (pl6 F).toArray = #[.int .i64 (F 0), .int .i64 (F 1), .int .i64 (F 2), .int .i64 (F 3), .int .i64 (F 4), .int .i64 (F 5)] from rfl] at L0
  rw [← hit1_sum M F Q n (fun r hr => (hF r hr).1)]
  have HC := Lib.hid (fun W => overT_any n n m M F W hn hM (fun r hr => (hF r hr).2))
  have HB := Lib.hid L0.below
  have ⟨e0, e1, e2, e3, e4, e5, _⟩ := L0.ownHas.six
  have ⟨c0, c1, c2, c3, c4, c5, c6, c7, _⟩ := L0.tl.ownHas.eight
  clear L0 hM hF
  go_enter Try.func51, Try.ntmps51
  go_upto_region 1 with fail
  generalize (w.alloc (.cells #[.int .i64 n, .int .i64 m, .int .i64 (M 0), .int .i64 (M 1), .int .i64 (M 2), .int .i64 (M 3), .int .i64 (M 4), .int .i64 (M 5)] 56)).alloc (.cells #[.int .i64 (F 0), .int .i64 (F 1), .int .i64 (F 2), .int .i64 (F 3), .int .i64 (F 4), .int .i64 (F 5)] 59) = w5 at *
  go_wp2_with fail
  refine (HC.out _).mono ?_
  rintro e w' ⟨rfl, hb⟩
  have HB2 := Lib.hid (below_on HB.out hb)
  clear hb
  go_wp2_with fail
  go_ret
  exact ⟨rfl, HB2.out⟩
end Go.Proofs.Ytjmefcebldifaab
