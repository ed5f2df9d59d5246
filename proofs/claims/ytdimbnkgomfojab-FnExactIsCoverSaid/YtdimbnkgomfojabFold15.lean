import Derived.Test.YtdimbnkgomfojabFold4
import Derived.Test.YtdimbnkgomfojabFold14
import Derived.Deep.AppendLies
import Derived.Deep.RegionLaw
import Derived.Test.YtdimbnkgomfojabFold8
import Derived.IntWalk
import Derived.Deep.RegionHeld3
import Derived.Test.YtdimbnkgomfojabFold12

section
namespace Go.Proofs.Ytdimbnkgomfojab
open Go.RowKit

/-- One of the things becomes another, on its own blocks and on new ones. -/
theorem Law.write' {w0 w w' : World} {ts ts' : List Thing} {t : Thing} (h : Law w0 (ts ++ t :: ts') w) (hc : Chg t.foot w w') (t' : Thing)
    (hf : ∀ k, t'.foot k → t.foot k ∨ (w.heap.size ≤ k ∧ k < w'.heap.size)) (ht : t'.holds w') : Law w0 (ts ++ t' :: ts') w' := by
  have hd := h.dis
  rw [List.pairwise_append, List.pairwise_cons] at hd
  obtain ⟨d1, ⟨d2, d3⟩, d4⟩ := hd
  have hrt := h.range t (by simp)
  have hrl : ∀ x, x ∈ ts → ∀ k, x.foot k → k < w.heap.size := fun x hm k hk => (h.range x (by simp [hm]) k hk).2
  have hrr : ∀ x, x ∈ ts' → ∀ k, x.foot k → k < w.heap.size := fun x hm k hk => (h.range x (by simp [hm]) k hk).2
  have keep : ∀ x, x ∈ ts ++ t :: ts' → (∀ k, x.foot k → ¬ t.foot k) → x.holds w' := fun x hm hn => x.stable w w' hc.size (fun k hk => hc.block k (h.range x hm k hk).2 (hn k hk)) (h.holds x hm)
  refine ⟨?_, ?_, ?_, ?_⟩
  · exact h.below.trans ⟨hc.os, hc.tape, hc.output, hc.size, fun k hk => hc.block k (by have := h.below.size; omega) (fun e => by have := (hrt k e).1; omega)⟩
  · intro x hm
    rcases List.mem_append.1 hm with hm | hm
    · exact keep x (by simp [hm]) (fun k hk e => d4 x hm t (by simp) k hk e)
    · rcases List.mem_cons.1 hm with rfl | hm
      · exact ht
      · exact keep x (by simp [hm]) (fun k hk e => d2 x hm k e hk)
  · intro x hm k hk
    rcases List.mem_append.1 hm with hm | hm
    · exact ⟨(h.range x (by simp [hm]) k hk).1, Nat.lt_of_lt_of_le (h.range x (by simp [hm]) k hk).2 hc.size⟩
    · rcases List.mem_cons.1 hm with rfl | hm
      · rcases hf k hk with hk | hk
        · exact ⟨(hrt k hk).1, Nat.lt_of_lt_of_le (hrt k hk).2 hc.size⟩
        · have := h.below.size
          omega
      · exact ⟨(h.range x (by simp [hm]) k hk).1, Nat.lt_of_lt_of_le (h.range x (by simp [hm]) k hk).2 hc.size⟩
  · rw [List.pairwise_append, List.pairwise_cons]
    refine ⟨d1, ⟨fun b hb k e1 e2 => ?_, d3⟩, fun a ha b hb k e e2 => ?_⟩
    · rcases hf k e1 with e1 | e1
      · exact d2 b hb k e1 e2
      · have := hrr b hb k e2
        omega
    · rcases List.mem_cons.1 hb with rfl | hb
      · rcases hf k e2 with e2 | e2
        · exact d4 a ha t (by simp) k e e2
        · have := hrl a ha k e
          omega
      · exact d4 a ha b (by simp [hb]) k e e2

/-- One of the slices has grown. -/
theorem Law.grow {w0 w w' : World} {ts ts' : List Thing} {s s' : Value} {xs ys : List Int} (h : Law w0 (ts ++ tOwn s xs :: ts') w) (hg : w.grownBy w' s.ownBlock) {lo : Nat} (hs : Own w' lo s' ys)
    (hb : ∀ k, s'.ownBlock = some k → s.ownBlock = some k ∨ k = w.heap.size) : Law w0 (ts ++ tOwn s' ys :: ts') w' :=
  h.write' (Chg.of_grown hg (fun _ e => e)) (tOwn s' ys) (fun k hk => by
    rcases hb k hk with e | e
    · exact .inl e
    · exact .inr ⟨by omega, (own_lt hs k hk).2⟩) (hs.lower (Nat.zero_le _))

/-- The third cell of a box is written. -/
theorem Law.set2 {w0 w : World} {ts ts' : List Thing} {n : Nat} {x y z : Value} (h : Law w0 (ts ++ tBox n x y z :: ts') w) (z' : Value) :
    Law w0 (ts ++ tBox n x y z' :: ts') (w.setCell ⟨n, 2, none⟩ z') := by
  have hb : Box w n x y z := h.holds (tBox n x y z) (by simp)
  refine h.write (t := tBox n x y z) (show Chg (tBox n x y z).foot w (w.setCell ⟨n, 2, none⟩ z') from ⟨rfl, rfl, rfl, by simp [World.setCell], fun k _ hf => Below.heap_setCell w ⟨n, 2, none⟩ z' k (fun e => hf e)⟩) (tBox n x y z') rfl ?_
  refine ⟨by have := hb.lt; simp [World.setCell]; omega, ?_, ?_, ?_, fun o => by rw [World.frozen?_setCell]; exact hb.fr o⟩
  · rw [World.cell?_setCell_other _ _ _ _ (by simp)]; exact hb.c0
  · rw [World.cell?_setCell_other _ _ _ _ (by simp)]; exact hb.c1
  · exact World.cell?_setCell_same _ _ _ hb.c2

/-- append of one number, as one step of a region that draws. -/
theorem step_app {ops : Array Oper} {o : Oper} {a : Act} {w : World} {K : Act → World → Prop} {Q : Exit → Act → World → Prop} {E : Prop} (hgd : o.guard = none) (s x : Operand)
    (ho : o.op = .call { callee := .builtin .append, args := #[s, x], argTypes := #[22, 22] }) (lo : Nat) (v : Value) (xs : List Int) (n : Nat) (y : Int) (g0 : Nat)
    (hs : a.eval s = v) (hx : a.eval x = .slice (some ⟨g0, 0, none⟩) 1 1) (hown : Own w lo v xs) (hn : xs.length = n) (hnew : w.cell? ⟨g0, 0, none⟩ = some (.int .i64 y)) (hl : n + 1 ≤ 1048576) (hlo : lo ≤ w.heap.size) (H : Nat) (hH : w.heap.size = H)
    (h : ∀ g cap w', Own w' lo (.slice (some ⟨g, 0, none⟩) (n + 1) cap) (xs ++ [y]) → w.grownBy w' v.ownBlock → (v.ownBlock = some g ∨ g = H) → g < w'.heap.size → K (a.put o.dst (.slice (some ⟨g, 0, none⟩) (n + 1) cap)) w') :
    if Region.wanted o (yielded ops a.tmps) = true then Oper.wp Try.prog o a w K Q else E := by
  subst hn
  obtain ⟨i0, hi, hz0, hz1, hz2⟩ := info_parts Try.infoI
  refine step_append_lies w hgd s x 22 ho lo 3 i0 (.int .i64 0) 1 8 Try.underlying22 hi hz0 hz1 hz2 rfl (by decide) v xs.length _ hs hown ⟨g0, 0, none⟩ 1 1 [.int .i64 y] hx rfl ?_ (by intro u hu; simp at hu; subst hu; rfl) (by decide) (by unfold maxLen; omega) (by omega) hlo H hH ?_
  · intro j u hu
    match j, hu with
    | 0, hu =>
      simp at hu
      subst hu
      rw [Addr.add_lit]
      exact hnew
  · intro g cap w' h1 h2 h3 h4
    refine h g cap w' ?_ h2 h3 h4
    unfold Own
    rw [List.length_append, List.map_append]
    exact h1

end Go.Proofs.Ytdimbnkgomfojab
end

section
namespace Go.Proofs.Ytdimbnkgomfojab
open Go.RowKit Go.WideShapes

/-- The index that i was, before a line went away. -/
def sk (i s : Nat) : Nat := if i < s then i else i + 1
/-- A row without its place j: m places are left. -/
def skv (x : Int) (j m : Nat) : Int := (rowM (fun c => x.toNat.testBit (sk c j)) m : Int)
def strikeL (xs : List Int) (i j m : Nat) : List Int := (xs.eraseIdx i).map (fun x => skv x j m)
def strikeB (r c : Int) (xs : List Int) (i j : Int) : BR := if placeB r c xs i j && (!(r == 1) && !(c == 1)) then ⟨r - 1, c - 1, strikeL xs i.toNat j.toNat (c - 1).toNat, true⟩ else BR.zero
theorem strikeL_len (xs : List Int) (i j m : Nat) (h : i < xs.length) : (strikeL xs i j m).length = xs.length - 1 := by
  simp [strikeL, List.length_eraseIdx, h]
theorem strikeB_len (r c : Int) (xs : List Int) (i j : Int) : (strikeB r c xs i j).xs.length ≤ 1048576 := by
  unfold strikeB
  split
  · rename_i h
    rw [Bool.and_eq_true, placeB, Bool.and_eq_true] at h
    have := good_facts h.1.1
    have := insB_iff.1 h.1.2
    rw [strikeL_len _ _ _ _ (by omega)]
    omega
  · simp [BR.zero]
theorem strike_cells (M : Nat → Int) (xs : List Int) (i j m n : Nat) (hM : ∀ k, M k = xs.getD k 0) (hl : xs.length = n + 1) (hn : n ≤ 6) (hi : i < n + 1) :
    (([0, 1, 2, 3, 4, 5].take n).map fun k => (rowM ((fun k l => (M (sk k i)).toNat.testBit (sk l j) : Nat → Nat → Bool) k) m : Int)) = strikeL xs i j m :=
  cells_n n _ _ (by rw [strikeL_len _ _ _ _ (by omega)]; omega) hn (fun k hk => by
    simp only [hM]
    show skv (xs.getD (sk k i) 0) j m = _
    have e : (xs.eraseIdx i)[k]? = xs[sk k i]? := by
      rw [List.getElem?_eraseIdx]
      unfold sk
      split <;> rfl
    have hs : sk k i < xs.length := by unfold sk; split <;> omega
    rw [List.getD_eq_getElem?_getD, List.getD_eq_getElem?_getD, strikeL, List.getElem?_map, e]
    simp [hs])

theorem gridOf_good (r c : Int) (a : Option Addr) (cap : Nat) (xs : List Int) (w : World) (hx : xs.length ≤ 1048576) (hr : Reads w a xs.length xs) (hg : goodB r c xs = true) :
    ∃ M : Nat → Int, (∀ k, M k = xs.getD k 0) ∧ Calls Try.prog 61 #[.agg #[.int .i64 r, .int .i64 c, .slice a xs.length cap]] w
      fun e w' => e = .returned (.tuple #[gv r c M, .bool true]) ∧ Below w.heap.size w w' :=
  ⟨_, fun _ => rfl, gridOf_yes r c a cap xs w hx hr hg⟩


end Go.Proofs.Ytdimbnkgomfojab
end

section
namespace Go.Proofs.Ytdimbnkgomfojab
open Go.RowKit Go.WideShapes



end Go.Proofs.Ytdimbnkgomfojab
end

section
namespace Go.Proofs.Ytdimbnkgomfojab
open Go.RowKit Go.WideShapes

/-- The rook numbers. -/
def numL (n m : Nat) (B : Nat → Nat → Bool) : List Int := lstL (min n m + 1) (wR m B n 0 0)
theorem numL_len (n m : Nat) (B : Nat → Nat → Bool) : (numL n m B).length = min n m + 1 := lstL_len _ _
theorem numL_get (n m : Nat) (B : Nat → Nat → Bool) (k : Nat) (h : k < min n m + 1) : (numL n m B).getD k 0 = wR m B n 0 0 k := lstL_get _ _ k h
theorem numL_bd (n m : Nat) (hn : n ≤ 6) (hm : m ≤ 6) (B : Nat → Nat → Bool) (k : Nat) : 0 ≤ (numL n m B).getD k 0 ∧ (numL n m B).getD k 0 ≤ 117649 := by
  by_cases h : k < min n m + 1
  · rw [numL_get n m B k h]
    have := wR_le m hm B n 0 0 k
    have := pow7 n hn
    omega
  · rw [List.getD_eq_getElem?_getD, List.getElem?_eq_none (by rw [numL_len]; omega)]
    simp
/-- The beginning of a list up to its last number that is not 0. -/
def shK (xs : List Int) : Nat → Nat
  | 0 => 0
  | k + 1 => if xs.getD k 0 = 0 then shK xs k else k + 1
theorem shK_le (xs : List Int) (k : Nat) : shK xs k ≤ k := by
  induction k with
  | zero => simp [shK]
  | succ k ih => rw [shK]; split <;> omega

def numB (r c : Int) (xs : List Int) : LR := if goodB r c xs then ⟨numL r.toNat c.toNat (bt xs), true⟩ else ⟨[], false⟩
theorem numB_len (r c : Int) (xs : List Int) : (numB r c xs).ys.length ≤ 1048576 := by
  unfold numB
  split
  · rename_i h
    have := good_facts h
    show (numL _ _ _).length ≤ _
    rw [numL_len]
    omega
  · simp


end Go.Proofs.Ytdimbnkgomfojab
end

section
namespace Go.Proofs.Ytdimbnkgomfojab
open Go.RowKit Go.WideShapes

theorem Own.capLe {w : World} {lo g L p : Nat} {xs : List Int} (h : Own w lo (.slice (some ⟨g, 0, none⟩) L p) xs) : L ≤ p := by
  rcases h.cases with ⟨h0, _⟩ | ⟨g', p', h0, _, _, h1, _⟩
  · cases h0
  · injection h0 with _ h2 h3
    omega

def sliceLen : Value → Nat
  | .slice _ n _ => n
  | _ => 0


set_option maxHeartbeats 800000 in
theorem withoutLast_any (g L p : Nat) (xs : List Int) (w : World) (hx : L ≤ 1048576) (hp : L ≤ p) (hL : xs.length = L) (lo : Nat) (hO : Own w lo (.slice (some ⟨g, 0, none⟩) L p) xs) :
    Calls Try.prog 108 #[.slice (some ⟨g, 0, none⟩) L p] w fun e w' => e = .returned (.slice (some ⟨g, 0, none⟩) (shK xs L) p) ∧ w = w' := by
  have hc : ∀ k, k < L → w.cell? ⟨g, k, none⟩ = some (.int .i64 (xs.getD k 0)) := fun k hk => by
    subst hL
    exact hO.cell k hk
  have HC := Lib.hid hc
  clear hc hO hL
  go_enter Try.func108, Try.ntmps108
  go_wp2_with fail
  go_loop [0] (fun i => ∃ k : Nat, k ≤ L ∧ i = .slice (some ⟨g, 0, none⟩) k p ∧ Hid (shK xs k = shK xs L)) (fun i => sliceLen i)
  case atStart => exact ⟨L, Nat.le_refl _, rfl, Lib.hid rfl⟩
  case round =>
    obtain ⟨k, hk, rfl, HK⟩ := hrel
    cases k with
    | zero =>
      have hr := HK.out
      rw [shK] at hr
      have HR := Lib.hid hr
      clear hr HK
      go_wp2_with fail
      go_ret
      exact ⟨congrArg (fun n => Ending.returned (.slice (some ⟨g, 0, none⟩) n p)) HR.out, rfl⟩
    | succ j =>
      have hcj := HC.out j (by omega)
      have hr := HK.out
      rw [shK] at hr
      have hj1 : IntKind.i64.wrap (((j + 1 : Nat) : Int) - 1) = j := by rw [show ((j + 1 : Nat) : Int) - 1 = j by omega]; exact IntWalk.i64_in _ (by omega)
      have hj2 : (0 : Int) ≤ j := by omega
      have hj3 : (j : Int) < L := by omega
      have hjp : (j : Int) ≤ p := by omega
      by_cases h0 : xs.getD j 0 = 0
      · rw [if_pos h0] at hr
        rw [h0] at hcj
        have HR := Lib.hid hr
        clear hr HK h0
        go_wp2_with fail
        go_round
        case rel => exact ⟨j, by omega, rfl, HR⟩
        case measure => simp [sliceLen]
      · rw [if_neg h0] at hr
        have HR := Lib.hid hr
        have h0' : (xs.getD j 0 == 0) = false := by rw [beq_eq_false_iff_ne]; exact h0
        generalize xs.getD j 0 = x at *
        clear hr HK h0
        go_wp2_with fail
        go_ret
        exact ⟨congrArg (fun n => Ending.returned (.slice (some ⟨g, 0, none⟩) n p)) HR.out, rfl⟩


set_option maxRecDepth 100000 in
set_option maxHeartbeats 800000 in
theorem rookNumber_any (n m k : Nat) (M : Nat → Int) (w : World) (hn : n ≤ 6) (hm : m ≤ 6) (hgc : ∀ k, k < 6 → 0 ≤ M k ∧ M k < 64) :
    Calls Try.prog 65 #[gv n m M, .int .i64 k] w fun e w' => e = .returned (.int .i64 ((numL n m (bM M)).getD k 0)) ∧ Below w.heap.size w w' := by
  have L0 := (Law.start w).has (gl n m M) 68
  have hc := fun W => rookNumbers_any n m M W hn hm hgc
  have hl := numL_len n m (bM M)
  have hd : lstL (min n m + 1) (wR m (bM M) n 0 0) = numL n m (bM M) := rfl
  rw [hd] at hc
  clear hd
  have hq6 : min n m ≤ 6 := by omega
  generalize numL n m (bM M) = ys at *
  generalize min n m = q at *
  obtain ⟨x, hxx⟩ : ∃ x, x = ys.getD k 0 := ⟨_, rfl⟩
  rw [← hxx]
  have HX := Lib.hid hxx
  clear hxx
  have HC := Lib.hid hc
  have HLN := Lib.hid hl
  have HB := Lib.hid L0.below
  clear L0 hc hgc hl
  go_enter Try.func65, Try.ntmps65
  go_wp2_with fail
  refine (HC.out _).mono ?_
  rintro e w1 ⟨g, p, rfl, hO, hb⟩
  have HB2 := Lib.hid (below_on HB.out hb)
  clear HB HC hb
  by_cases hk : k < q + 1
  · have y1 := Own.cell (by rw [HLN.out]; exact hO) k (by rw [HLN.out]; exact hk)
    have hkq : (k : Int) < (q : Int) + 1 := by omega
    clear hO
    rw [← HX.out] at y1
    go_wp2_with fail
    go_ret
    exact ⟨rfl, HB2.out⟩
  · have HZ := Lib.hid (show ys.getD k 0 = 0 by rw [List.getD_eq_getElem?_getD, List.getElem?_eq_none (by rw [HLN.out]; omega)]; rfl)
    have hkq : (q : Int) + 1 ≤ k := by omega
    clear hO hk
    go_wp2_with fail
    go_ret
    exact ⟨ret_int (HX.out.trans HZ.out).symm, HB2.out⟩
end Go.Proofs.Ytdimbnkgomfojab
end
