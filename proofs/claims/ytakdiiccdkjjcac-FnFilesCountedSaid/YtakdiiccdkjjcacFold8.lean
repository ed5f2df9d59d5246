import Derived.Test.YtakdiiccdkjjcacFold4
import Derived.Test.YtakdiiccdkjjcacFold6
import Derived.Test.YtakdiiccdkjjcacFold7
import Derived.Deep.RegionHeld3
import Derived.Deep.RegionWith
import Derived.IntWalk
import Derived.Laws.EntriesVeiled
import Derived.BigQuiet
import Derived.Test.YtakdiiccdkjjcacFold5

section
namespace Go.Proofs.Ytakdiiccdkjjcac
open Go.RowKit

theorem Law.sub {w0 w : World} {ts ts' : List Thing} (h : Law w0 ts w) (hs : ts'.Sublist ts) : Law w0 ts' w :=
  ⟨h.below, fun t ht => h.holds t (hs.subset ht), fun t ht => h.range t (hs.subset ht), h.dis.sublist hs⟩
theorem Law.swap {w0 w : World} {a b : Thing} {ts : List Thing} (h : Law w0 (a :: b :: ts) w) : Law w0 (b :: a :: ts) w := by
  have hm : ∀ t, t ∈ b :: a :: ts → t ∈ a :: b :: ts := fun t ht => by
    rcases List.mem_cons.1 ht with rfl | ht
    · simp
    · rcases List.mem_cons.1 ht with rfl | ht
      · simp
      · simp [ht]
  refine ⟨h.below, fun t ht => h.holds t (hm t ht), fun t ht => h.range t (hm t ht), ?_⟩
  have := h.dis
  simp only [List.pairwise_cons] at this ⊢
  obtain ⟨h1, h2, h3⟩ := this
  refine ⟨fun c hc k e => ?_, fun c hc => h1 c (by simp [hc]), h3⟩
  rcases List.mem_cons.1 hc with rfl | hc
  · exact fun e2 => h1 b (by simp) k e2 e
  · exact h2 c hc k e
theorem Law.boxOf {w0 w : World} {n : Nat} {x y z : Value} {ts : List Thing} (h : Law w0 ts w) (hm : tBox n x y z ∈ ts) : Box w n x y z := h.holds _ hm
theorem Law.ownOf {w0 w : World} {s : Value} {xs : List Int} {ts : List Thing} (h : Law w0 ts w) (hm : tOwn s xs ∈ ts) : Own w 0 s xs := h.holds _ hm
theorem Law.setBox {w0 w : World} {ts ts' : List Thing} {n : Nat} {x y z : Value} (h : Law w0 (ts ++ tBox n x y z :: ts') w) (x' y' z' : Value) :
    Law w0 (ts ++ tBox n x' y' z' :: ts') (((w.setCell ⟨n, 0, none⟩ x').setCell ⟨n, 1, none⟩ y').setCell ⟨n, 2, none⟩ z') := by
  have hb : Box w n x y z := h.holds (tBox n x y z) (by simp)
  have hs : ∀ (w : World) (j : Nat) (v : Value) (k : Nat), k ≠ n → (w.setCell ⟨n, j, none⟩ v).heap[k]? = w.heap[k]? := fun w j v k hk => Below.heap_setCell w ⟨n, j, none⟩ v k (fun e => hk e)
  refine h.write (t := tBox n x y z) (show Chg (tBox n x y z).foot w (((w.setCell ⟨n, 0, none⟩ x').setCell ⟨n, 1, none⟩ y').setCell ⟨n, 2, none⟩ z') from ⟨rfl, rfl, rfl, by simp [World.setCell], fun k _ hf => ?_⟩) (tBox n x' y' z') rfl ?_
  · have hk : k ≠ n := fun e => hf e
    rw [hs _ _ _ k hk, hs _ _ _ k hk, hs _ _ _ k hk]
  · refine ⟨by have := hb.lt; simp [World.setCell]; omega, ?_, ?_, ?_, fun o => by rw [World.frozen?_setCell, World.frozen?_setCell, World.frozen?_setCell]; exact hb.fr o⟩
    · rw [World.cell?_setCell_other _ _ _ _ (by simp), World.cell?_setCell_other _ _ _ _ (by simp)]
      exact World.cell?_setCell_same _ _ _ hb.c0
    · rw [World.cell?_setCell_other _ _ _ _ (by simp)]
      refine World.cell?_setCell_same _ _ _ (u := y) ?_
      rw [World.cell?_setCell_other _ _ _ _ (by simp)]
      exact hb.c1
    · refine World.cell?_setCell_same _ _ _ (u := z) ?_
      rw [World.cell?_setCell_other _ _ _ _ (by simp), World.cell?_setCell_other _ _ _ _ (by simp)]
      exact hb.c2
/-- What is made behind a law's state comes on top of it. -/
theorem Law.join {w0 w w' : World} {ts ts' : List Thing} (h : Law w0 ts w) (k : Law w ts' w') : Law w0 (ts' ++ ts) w' := by
  have hk := h.kept k.below
  refine ⟨hk.below, fun t ht => ?_, fun t ht i hi => ?_, ?_⟩
  · rcases List.mem_append.1 ht with ht | ht
    · exact k.holds t ht
    · exact hk.holds t ht
  · rcases List.mem_append.1 ht with ht | ht
    · have := k.range t ht i hi
      have := h.below.size
      omega
    · exact hk.range t ht i hi
  · rw [List.pairwise_append]
    refine ⟨k.dis, h.dis, fun a ha b hb i e1 e2 => ?_⟩
    have := (k.range a ha i e1).1
    have := (h.range b hb i e2).2
    omega

end Go.Proofs.Ytakdiiccdkjjcac
end

section
namespace Go.Proofs.Ytakdiiccdkjjcac
open Go.RowKit Go.WideShapes

theorem Has.two {w : World} {b : Nat} {v0 v1 : Value} {t : TypeId} (h : Has w b [v0, v1] t) :
    w.cell? ⟨b, 0, none⟩ = some v0 ∧ w.cell? ⟨b, 1, none⟩ = some v1 ∧ ∀ o, w.frozen? ⟨b, o, none⟩ = false :=
  ⟨h.cell 0, h.cell 1, h.free⟩
/-- The block of a sum. -/
abbrev sumV (F : FuncId) (cap : Array Value) (t : Int) : List Value := [.func (.func F) #[] cap, .int .i64 t]

end Go.Proofs.Ytakdiiccdkjjcac
end

section
namespace Go.Proofs.Ytakdiiccdkjjcac
open Go.RowKit Go.WideShapes

theorem falG_abs (x : Int) (hx : Abs 20 x) (k : Nat) (hk : k ≤ 12) : Abs ((32 ^ k : Nat) : Int) (fal x k) := by
  induction k with
  | zero => simp [fal, Abs]
  | succ k ih =>
    rw [fal, Nat.pow_succ]
    exact (ih (by omega)).mul (show Abs ((32 : Nat) : Int) (x - k) by unfold Abs at *; omega)
theorem falG_bd (x : Int) (hx : Abs 20 x) (k : Nat) (hk : k ≤ 12) : Abs 1152921504606846976 (fal x k) :=
  (falG_abs x hx k hk).mono (by
    have h2 : 32 ^ k ≤ 32 ^ 12 := Nat.pow_le_pow_right (by omega) hk
    have h3 : 32 ^ 12 = 1152921504606846976 := by decide
    omega)
theorem falG_wrap (x : Int) (hx : Abs 20 x) (j : Nat) (hj : j ≤ 11) : wrap64 (fal x j * (x - j)) = fal x (j + 1) := by
  have h1 := falG_bd x hx (j + 1) (by omega)
  rw [show fal x j * (x - j) = fal x (j + 1) from rfl]
  unfold Abs at h1
  exact IntWalk.wrap64_in _ (by omega)
theorem fctG_bd (k : Nat) (hk : k ≤ 12) : 1 ≤ fct k ∧ fct k ≤ 479001600 := by
  have key : ∀ k : Fin 13, 1 ≤ fct k ∧ fct k ≤ 479001600 := by decide +kernel
  exact key ⟨k, by omega⟩
theorem chsG_le (n k : Nat) (hn : n ≤ 12) (hk : k ≤ 12) : chs n k ≤ 924 := by
  have key : ∀ n : Fin 13, ∀ k : Fin 13, chs n k ≤ 924 := by decide +kernel
  exact key ⟨n, by omega⟩ ⟨k, by omega⟩
theorem chsG_div (n k : Nat) (hn : n ≤ 12) (hk : k ≤ 12) : wrap64 ((fal n k).tdiv (fct k)) = chs n k ∧ fct k ≠ 0 := by
  have key : ∀ n : Fin 13, ∀ k : Fin 13, wrap64 ((fal ((n : Nat) : Int) (k : Nat)).tdiv (fct (k : Nat))) = (chs (n : Nat) (k : Nat) : Nat) ∧ fct (k : Nat) ≠ 0 := by decide +kernel
  exact key ⟨n, by omega⟩ ⟨k, by omega⟩

set_option maxHeartbeats 800000 in
theorem fallingG_any (x : Int) (k : Nat) (w : World) (hx : Abs 20 x) (hk : k ≤ 12) : Calls Try.prog 157 #[.int .i64 x, .int .i64 k] w fun e w' => e = .returned (.int .i64 (fal x k)) ∧ w' = w := by
  have HX := Lib.hid hx
  unfold Abs at hx
  obtain ⟨x1, x2⟩ := hx
  go_enter Try.func157, Try.ntmps157
  go_wp2_with fail
  go_loop [5, 6] (fun t i => ∃ j : Nat, j ≤ k ∧ i = .int .i64 j ∧ t = .int .i64 (fal x j)) (fun _ i => k - (intOf i).toNat)
  case atStart => exact ⟨0, Nat.zero_le _, rfl, rfl⟩
  case round =>
    obtain ⟨j, hj, rfl, rfl⟩ := hrel
    by_cases hlt : j < k
    · have hm := falG_wrap x HX.out j (by omega)
      go_wp2_with fail
      go_round
      case rel => exact ⟨j + 1, by omega, by go_num, by first | rfl | rw [hm]⟩
      case measure => simp [intOf]; omega
    · obtain rfl : j = k := by omega
      go_wp2_with fail
      go_ret
      exact ⟨rfl, rfl⟩
set_option maxHeartbeats 800000 in
theorem factG_any (k : Nat) (w : World) (hk : k ≤ 12) : Calls Try.prog 158 #[.int .i64 k] w fun e w' => e = .returned (.int .i64 (fct k)) ∧ w' = w := by
  have HF := Lib.hid (fallingG_any k k w (by unfold Abs; omega) hk)
  go_enter Try.func158, Try.ntmps158
  go_wp2_with fail
  refine HF.out.mono ?_
  rintro e w' ⟨rfl, hww⟩
  subst hww
  go_wp2_with fail
  go_ret
  exact ⟨rfl, rfl⟩
set_option maxHeartbeats 800000 in
theorem choicesG_any (n k : Nat) (w : World) (hn : n ≤ 12) (hk : k ≤ 12) : Calls Try.prog 120 #[.int .i64 n, .int .i64 k] w fun e w' => e = .returned (.int .i64 (chs n k : Nat)) ∧ w' = w := by
  have HF := Lib.hid (fallingG_any n k w (by unfold Abs; omega) (by omega))
  have HG := Lib.hid (factG_any k w (by omega))
  obtain ⟨h1, h2⟩ := chsG_div n k hn hk
  have HM := Lib.hid h1
  have hb := fctG_bd k (by omega)
  have h0 : (fct k == 0) = false := by rw [beq_eq_false_iff_ne]; exact h2
  generalize fal n k = u at *
  generalize fct k = v at *
  clear h1
  go_enter Try.func120, Try.ntmps120
  go_wp2_with fail
  refine HF.out.mono ?_
  rintro e w' ⟨rfl, hww⟩
  subst hww
  go_wp2_with fail
  refine HG.out.mono ?_
  rintro e w' ⟨rfl, hww⟩
  subst hww
  go_wp2_with fail
  go_ret
  exact ⟨ret_int HM.out, rfl⟩

/-- 1 or -1. -/
def Unit1 (x : Int) : Prop := x = 1 ∨ x = -1
theorem unit_pow {x : Int} (h : Unit1 x) (k : Nat) : Unit1 (x ^ k) := by
  induction k with
  | zero => exact .inl (Int.pow_zero x)
  | succ k ih =>
    rw [Int.pow_succ]
    unfold Unit1 at *
    rcases ih with e | e <;> rcases h with h | h <;> rw [e, h] <;> simp
theorem unit_abs {x : Int} (h : Unit1 x) : Abs ((1 : Nat) : Int) x := by
  unfold Unit1 at h
  unfold Abs
  omega

/-- One term of what shifting the variable does. -/
def shT (ys : List Int) (u : Int) (k j : Nat) : Int := ys.getD j 0 * (chs j k : Nat) * u ^ (j - k)
theorem shT_abs (ys : List Int) (u : Int) (hu : Unit1 u) (k j : Nat) (hk : k ≤ 12) (hj : j ≤ 12) (hy : Abs 1000000000000 (ys.getD j 0)) : Abs 924000000000000 (ys.getD j 0 * (chs j k : Nat)) ∧ Abs 924000000000000 (shT ys u k j) := by
  have h1 := chsG_le j k hj hk
  have h2 : Abs 924000000000000 (ys.getD j 0 * (chs j k : Nat)) := (Abs.mul (a := 1000000000000) (b := 924) hy (by unfold Abs; omega)).mono (by decide)
  exact ⟨h2, (Abs.mul (a := 924000000000000) (b := 1) h2 (unit_abs (unit_pow hu _))).mono (by decide)⟩
theorem shS_abs (ys : List Int) (u : Int) (hu : Unit1 u) (k n : Nat) (hk : k ≤ 12) (hn : n ≤ 13) (hy : ∀ j, j < n → Abs 1000000000000 (ys.getD j 0)) : Abs 12012000000000000 (sumT (shT ys u k) n) :=
  (sumT_abs _ 924000000000000 n (fun j hj => (shT_abs ys u hu k j hk (by omega) (hy j hj)).2)).mono (by omega)

end Go.Proofs.Ytakdiiccdkjjcac
end

section
namespace Go.Proofs.Ytakdiiccdkjjcac
open Go.RowKit Go.WideShapes

/-- A list of whole numbers told by a function. -/
def lstH (L : Nat) (g : Nat → Int) : List Int := (List.range L).map g
theorem lstH_len (L : Nat) (g : Nat → Int) : (lstH L g).length = L := by simp [lstH]
theorem lstH_get (L : Nat) (g : Nat → Int) (k : Nat) (h : k < L) : (lstH L g).getD k 0 = g k := by simp [lstH, List.getD, h]
theorem lstH_congr (L : Nat) (g g' : Nat → Int) (h : ∀ k, k < L → g k = g' k) : lstH L g = lstH L g' := by
  unfold lstH
  exact List.map_congr_left (fun k hk => h k (List.mem_range.1 hk))
theorem lstH_zero (L : Nat) : List.replicate L (0 : Int) = lstH L (fun _ => 0) := by
  apply List.ext_getElem
  · simp [lstH]
  · intro i h1 h2
    simp [lstH]
theorem lstH_set (L : Nat) (g g' : Nat → Int) (i : Nat) (x : Int) (hx : g' i = x) (ho : ∀ k, k < L → k ≠ i → g' k = g k) : (lstH L g).set i x = lstH L g' := by
  apply List.ext_getElem
  · simp [lstH]
  · intro k h1 h2
    have hk : k < L := by simpa [lstH] using h2
    by_cases e : k = i
    · subst e
      rw [List.getElem_set_self]
      simp [lstH, hx]
    · rw [List.getElem_set_ne (fun h => e h.symm)]
      simp [lstH, ho k hk e]
/-- The first k are told, the others are 0. -/
def upI (g : Nat → Int) (k i : Nat) : Int := if i < k then g i else 0
theorem upI_set (L : Nat) (g : Nat → Int) (k : Nat) : (lstH L (upI g k)).set k (g k) = lstH L (upI g (k + 1)) :=
  lstH_set L _ _ k _ (by simp [upI]) (fun i _ hi => by
    unfold upI
    by_cases h : i < k
    · rw [if_pos h, if_pos (by omega)]
    · rw [if_neg h, if_neg (by omega)])
theorem upI_zero (L : Nat) (g : Nat → Int) : List.replicate L (0 : Int) = lstH L (upI g 0) := by
  rw [lstH_zero]
  exact lstH_congr L _ _ (fun k _ => by simp [upI])
theorem upI_full (L : Nat) (g : Nat → Int) : lstH L (upI g L) = lstH L g := lstH_congr L _ _ (fun k hk => by simp [upI, hk])


/-- The numbers with the variable shifted. -/
def shfL (n : Nat) (ys : List Int) (u : Int) : List Int := lstH n (fun k => sumT (shT ys u k) n)
end Go.Proofs.Ytakdiiccdkjjcac
end
