import Derived.Test.YtdimbnkgomfojaaFold30
import Derived.Test.YtdimbnkgomfojaaFold11
import Derived.Test.YtdimbnkgomfojaaFold9
import Derived.Test.YtdimbnkgomfojaaFold6
import Derived.Test.YtdimbnkgomfojaaFold28
import Derived.Test.YtdimbnkgomfojaaFold4
import Derived.Deep.RegionHeld3
import Derived.Deep.RegionWith
import Derived.IntWalk
import Derived.Laws.EntriesVeiled
import Derived.Test.YtdimbnkgomfojaaFold13

section
namespace Go.Proofs.Ytdimbnkgomfojaa
open Go.RowKit

theorem fm_congr {α β : Type} (l : List α) (f g : α → List β) (h : ∀ x ∈ l, f x = g x) : l.flatMap f = l.flatMap g := by
  induction l with
  | nil => rfl
  | cons a l ih => rw [List.flatMap_cons, List.flatMap_cons, h a (by simp), ih (fun x hx => h x (by simp [hx]))]
theorem pl_prm (n : Nat) (B : Nat → Nat → Bool) (hB : ∀ r c, r < n → c < n → B r c = true) (d : Nat) : ∀ (f t : Nat) (P : List Int), f + d = n → (∀ c, c < n → t.testBit c = hasI P (c : Int)) → (pl n B d f t d).map (fun Q => P ++ Q) = prm n d P := by
  induction d with
  | zero => intro f t P _ _; simp [pl, prm]
  | succ d ih =>
    intro f t P hf ht
    rw [pl, pl_none n B d (f + 1) t (d + 1) (by omega), prm, List.map_nil, List.nil_append, List.map_flatMap]
    refine fm_congr _ _ _ (fun c hc => ?_)
    have hc := List.mem_range.1 hc
    rw [hB f c (by omega) hc, ht c hc]
    cases hh : hasI P (c : Int)
    · simp only [Bool.not_false, Bool.and_true, Nat.add_sub_cancel, decide_eq_true_eq, Nat.zero_lt_succ, if_true, List.map_map, Bool.false_eq_true, if_false]
      rw [← ih (f + 1) (t ||| 2 ^ c) (P ++ [(c : Int)]) (by omega) (fun q hq => by rw [hasP_on, bit_both, ht q hq])]
      refine List.map_congr_left (fun Q _ => ?_)
      simp
    · simp
theorem pl_all (n : Nat) (B : Nat → Nat → Bool) (hB : ∀ r c, r < n → c < n → B r c = true) : pl n B n 0 0 n = prm n n [] := by
  have := pl_prm n B hB n 0 0 [] (by omega) (fun c _ => by simp [hasI_nil])
  simpa using this

/-- How many of the first j things are told apart. -/
def cntP (p : List Int → Bool) (L : List (List Int)) (j : Nat) : Nat := ((L.take j).filter p).length
theorem cntP_zero (p : List Int → Bool) (L : List (List Int)) : cntP p L 0 = 0 := by simp [cntP]
theorem cntP_full (p : List Int → Bool) (L : List (List Int)) (j : Nat) (h : L.length ≤ j) : cntP p L j = (L.filter p).length := by
  unfold cntP
  rw [List.take_of_length_le h]
theorem cntP_step (p : List Int → Bool) (L : List (List Int)) (j : Nat) (P : List Int) (h : L[j]? = some P) : cntP p L (j + 1) = cntP p L j + if p P = true then 1 else 0 := by
  unfold cntP
  rw [List.take_add_one, h]
  cases hp : p P <;> simp [hp]
theorem cntP_at (p : List Int → Bool) (L : List (List Int)) (j : Nat) (P : List Int) (h : L[j]? = some P) (hp : p P = true) : (L.filter p)[cntP p L j]? = some P := by
  unfold cntP
  have hj := (List.getElem?_eq_some_iff.1 h).1
  have he := (List.getElem?_eq_some_iff.1 h).2
  have e : L = L.take j ++ P :: L.drop (j + 1) := by
    conv => lhs; rw [← List.take_append_drop j L, List.drop_eq_getElem_cons hj, he]
  have e2 : L.filter p = (L.take j).filter p ++ P :: (L.drop (j + 1)).filter p := by
    conv => lhs; rw [e]
    rw [List.filter_append, List.filter_cons_of_pos hp]
  rw [e2, List.getElem?_append_right (Nat.le_refl _), Nat.sub_self]
  rfl
/-- A walk that ends at the first thing that is told apart. -/
theorem runV_first (p : List Int → Bool) (L : List (List Int)) (cont : Nat → Bool) (hc : ∀ j P, L[j]? = some P → cont j = !p P) (s : Nat) : ∀ j, j + s = L.length → cntP p L j = 0 → cntP p L (j + (runV cont j s).1) = min 1 (L.filter p).length := by
  induction s with
  | zero =>
    intro j h h0
    have := cntP_full p L j (by omega)
    rw [runV]
    show cntP p L (j + 0) = _
    rw [Nat.add_zero, h0]
    omega
  | succ s ih =>
    intro j h h0
    have hj : j < L.length := by omega
    have hcj := hc j L[j] (List.getElem?_eq_getElem hj)
    have hst := cntP_step p L j L[j] (List.getElem?_eq_getElem hj)
    rw [runV]
    cases hp : p L[j]
    · rw [hp] at hcj hst
      rw [if_pos (by rw [hcj]; rfl)]
      have := ih (j + 1) (by omega) (by rw [hst, h0]; rfl)
      rw [show j + ((runV cont (j + 1) s).1 + 1) = j + 1 + (runV cont (j + 1) s).1 by omega]
      exact this
    · rw [hp] at hcj hst
      rw [if_neg (by rw [hcj]; simp)]
      show cntP p L (j + 1) = _
      have h1 := cntP_at p L j L[j] (List.getElem?_eq_getElem hj) hp
      have h2 := (List.getElem?_eq_some_iff.1 h1).1
      rw [hst, h0, if_pos rfl]
      omega
end Go.Proofs.Ytdimbnkgomfojaa
end

section
namespace Go.Proofs.Ytdimbnkgomfojaa
open Go.RowKit Go.WideShapes

theorem Has.two {w : World} {b : Nat} {v0 v1 : Value} {t : TypeId} (h : Has w b [v0, v1] t) :
    w.cell? ⟨b, 0, none⟩ = some v0 ∧ w.cell? ⟨b, 1, none⟩ = some v1 ∧ ∀ o, w.frozen? ⟨b, o, none⟩ = false :=
  ⟨h.cell 0, h.cell 1, h.free⟩
/-- The block of a sum. -/
abbrev sumV (F : FuncId) (cap : Array Value) (t : Int) : List Value := [.func (.func F) #[] cap, .int .i64 t]

set_option maxRecDepth 100000 in
set_option maxHeartbeats 3200000 in
theorem add_any (b : Nat) (F : FuncId) (cap : Array Value) (t x v : Int) (w : World)
    (hcall : ∀ (args : Array Value) (w : World), (callFunc F args).run Try.prog w = .ok (.enter F args) w)
    (H : Has w b (sumV F cap t) 106)
    (hF : ∀ w', Below w.heap.size w w' → Calls Try.prog F (#[.int .i64 x] ++ cap) w' fun e w'' => e = .returned (.int .i64 v) ∧ Below w'.heap.size w' w'')
    (hs : IntKind.i64.wrap (t + v) = t + v) :
    Calls Try.prog 132 #[.pointer (some ⟨b, 0, none⟩), .int .i64 x] w fun e w' => e = .returned (.bool true) ∧ Chg (fun k => k = b) w w' ∧ Has w' b (sumV F cap (t + v)) 106 := by
  have hlt := H.lt
  obtain ⟨e0, e1, ef⟩ := (show Has w.drew b (sumV F cap t) 106 from H.drew).two
  have HF := Lib.hid hF
  have HH := Lib.hid H
  clear H hF
  go_enter Try.func132, Try.ntmps132
  go_wp2_with fail
  go_region_with (((refine (HF.out _ (Below.refl _ _).drew).mono ?_); rintro e w1 ⟨rfl, hb⟩; have m0 := cell_later hb e0; have m1 := cell_later hb e1; have mf := (hb.frozen (p := ⟨b, 1, none⟩) hlt).trans (ef 1); have HB := Lib.hid hb; clear hb))
  all_goals
    have HN := Lib.hid (((HH.out.drew).kept HB.out hlt).set 1 (.int .i64 (t + v)))
    have HCg := Lib.hid (show Chg (fun k => k = b) w (w1.setCell ⟨b, 1, none⟩ (.int .i64 (t + v))) from ((Chg.of_below (Below.refl _ _).drew).trans (Chg.of_below HB.out)).trans ⟨rfl, rfl, rfl, by simp [World.setCell], fun k _ hf => Below.heap_setCell w1 ⟨b, 1, none⟩ _ k hf⟩)
    go_wp2_with fail
    go_ret
    exact ⟨rfl, HCg.out, HN.out⟩

set_option maxRecDepth 100000 in
set_option maxHeartbeats 1600000 in
theorem addAll_any (b : Nat) (F : FuncId) (cap : Array Value) (f : Nat → Int) (a : Option Addr) (p : Nat) (xs : List Int) (w : World) (hx : xs.length ≤ 1048576) (hr : Reads w a xs.length xs) (hab : ∀ g, 0 < xs.length → a = some g → g.block ≠ b)
    (hcall : ∀ (args : Array Value) (w : World), (callFunc F args).run Try.prog w = .ok (.enter F args) w)
    (H : Has w b (sumV F cap 0) 106)
    (hF : ∀ j, j < xs.length → ∀ w', Chg (fun k => k = b) w w' → Calls Try.prog F (#[.int .i64 (xs.getD j 0)] ++ cap) w' fun e w'' => e = .returned (.int .i64 (f j)) ∧ Below w'.heap.size w' w'')
    (hs : ∀ j, j < xs.length → IntKind.i64.wrap (sumT f j + f j) = sumT f j + f j) :
    Calls Try.prog 111 #[.pointer (some ⟨b, 0, none⟩), .slice a xs.length p] w fun e w' => e = .returned (.tuple #[]) ∧ Chg (fun k => k = b) w w' ∧ Has w' b (sumV F cap (sumT f xs.length)) 106 := by
  have HS := Lib.hid (And.intro (Chg.refl (fun k => k = b) w) H)
  have HF := Lib.hid hF
  have HW := Lib.hid hs
  have HR := Lib.hid hr
  clear H hF hs hr
  go_enter Try.func111, Try.ntmps111
  go_wp2_with fail
  go_loopw [8] (fun v wr => ∃ j : Nat, j ≤ xs.length ∧ v = .int .i64 j ∧ Hid (Chg (fun k => k = b) w wr ∧ Has wr b (sumV F cap (sumT f j)) 106)) (fun v _ => xs.length - (intOf v).toNat)
  case atStart => exact ⟨0, Nat.zero_le _, rfl, HS⟩
  case round =>
    clear HS
    obtain ⟨j, hj, rfl, HS⟩ := hrel
    by_cases hlt : j < xs.length
    · obtain ⟨b1, o1, rfl, hb1, hc1⟩ := reads_row HR.out (by omega)
      have hcj : wr.cell? ⟨b1, o1 + j, none⟩ = some (.int .i64 (xs.getD j 0)) := (cell_of_block (HS.out.1.block b1 hb1 (hab _ (by omega) rfl))).trans (hc1 j hlt)
      have HA := Lib.hid (add_any b F cap (sumT f j) (xs.getD j 0) (f j) wr hcall HS.out.2 (fun w' hb => HF.out j hlt w' (HS.out.1.trans (Chg.of_below hb))) (HW.out j hlt))
      clear hc1 hb1
      generalize xs.getD j 0 = x at *
      go_wp2_with fail
      refine HA.out.mono ?_
      rintro e w2 ⟨rfl, hc, hh⟩
      have HS2 : Hid (Chg (fun k => k = b) w w2 ∧ Has w2 b (sumV F cap (sumT f (j + 1))) 106) := Lib.hid ⟨HS.out.1.trans hc, hh⟩
      clear hc hh HA hcj HS
      go_wp2_with fail
      go_roundw
      case rel => exact ⟨j + 1, by omega, by go_num, HS2⟩
      case measure => simp [intOf]; omega
    · obtain rfl : j = xs.length := by omega
      go_wp2_with fail
      go_end0
      exact ⟨rfl, HS.out⟩

set_option maxRecDepth 100000 in
set_option maxHeartbeats 1600000 in
theorem sumOfTerms_any (n : Nat) (F : FuncId) (cap : Array Value) (f : Nat → Int) (w : World) (hn : n ≤ 1048576)
    (hcall : ∀ (args : Array Value) (w : World), (callFunc F args).run Try.prog w = .ok (.enter F args) w)
    (hF : ∀ j, j < n → ∀ w', Below w.heap.size w w' → Calls Try.prog F (#[.int .i64 j] ++ cap) w' fun e w'' => e = .returned (.int .i64 (f j)) ∧ Below w'.heap.size w' w'')
    (hs : ∀ j, j < n → IntKind.i64.wrap (sumT f j + f j) = sumT f j + f j) :
    Calls Try.prog 141 #[.int .i64 n, .func (.func F) #[] cap] w fun e w' => e = .returned (.int .i64 (sumT f n)) ∧ Below w.heap.size w w' := by
  have L0 := (Law.start w).has (sumV F cap 0) 106
  have HL := Lib.hid L0
  have HF := Lib.hid hF
  have HW := Lib.hid hs
  clear L0 hF hs
  go_enter Try.func141, Try.ntmps141
  go_wp2_with fail
  go_loopw [6] (fun v wr => ∃ j : Nat, j ≤ n ∧ v = .int .i64 j ∧ Law w [tHas w.heap.size (sumV F cap (sumT f j)) 106] wr) (fun v _ => n - (intOf v).toNat)
  case atStart => exact ⟨0, Nat.zero_le _, rfl, HL.out⟩
  case round =>
    clear HL
    obtain ⟨j, hj, rfl, L⟩ := hrel
    by_cases hlt : j < n
    · have HA := Lib.hid (add_any w.heap.size F cap (sumT f j) j (f j) wr hcall L.ownHas (fun w' hb => HF.out j hlt w' (below_on L.below hb)) (HW.out j hlt))
      have HL := Lib.hid L
      clear L
      go_wp2_with fail
      refine HA.out.mono ?_
      rintro e w2 ⟨rfl, hc, hh⟩
      have HS := Lib.hid (Law.write (ts := []) (t := tHas w.heap.size (sumV F cap (sumT f j)) 106) HL.out hc (tHas w.heap.size (sumV F cap (sumT f (j + 1))) 106) rfl hh)
      clear hc hh HA HL
      go_wp2_with fail
      go_roundw
      case rel => exact ⟨j + 1, by omega, by go_num, HS.out⟩
      case measure => simp [intOf]; omega
    · obtain rfl : j = n := by omega
      obtain ⟨e0, e1, _⟩ := L.ownHas.two
      have HB := Lib.hid L.below
      clear L
      go_wp2_with fail
      go_ret
      exact ⟨rfl, HB.out⟩

/-- Numbers that are not -1. -/
def one1 (xs : List Int) (j : Nat) : Int := if xs.getD j 0 = -1 then 0 else 1
theorem one1_bd (xs : List Int) (n : Nat) : 0 ≤ sumT (one1 xs) n ∧ sumT (one1 xs) n ≤ n := by
  induction n with
  | zero => simp [sumT]
  | succ n ih =>
    rw [sumT]
    unfold one1 at *
    split <;> omega
theorem one1_cnt (xs : List Int) (h : ∀ j, -1 ≤ xs.getD j 0) (k : Nat) (hk : k ≤ xs.length) : sumT (one1 xs) k = rcnt (xs.take k) := by
  induction k with
  | zero => simp [sumT, rcnt]
  | succ k ih =>
    rw [sumT, ih (by omega), rcnt_succ xs k (by omega)]
    have := h k
    unfold one1
    by_cases e : xs.getD k 0 = -1
    · rw [if_pos e, if_neg (by omega)]; simp
    · rw [if_neg e, if_pos (by omega)]; simp
theorem count1_any (x : Int) (w : World) : Calls Try.prog 110 #[.int .i64 x] w fun e w' => e = .returned (.int .i64 (if x = -1 then 0 else 1)) ∧ Below w.heap.size w w' := by
  by_cases h : x = -1
  · rw [if_pos h]
    subst h
    go_enter Try.func110, Try.ntmps110
    go_wp2
    all_goals go_ret
    all_goals exact ⟨rfl, Below.refl _ _⟩
  · rw [if_neg h]
    have h' : (x == -1) = false := by rw [beq_eq_false_iff_ne]; exact h
    go_enter Try.func110, Try.ntmps110
    go_wp2
    all_goals go_ret
    all_goals exact ⟨rfl, Below.refl _ _⟩
set_option maxRecDepth 100000 in
set_option maxHeartbeats 1600000 in
theorem countRooks_any (a : Option Addr) (p : Nat) (xs : List Int) (w : World) (hx : xs.length ≤ 1048576) (hr : Reads w a xs.length xs) :
    Calls Try.prog 69 #[.slice a xs.length p] w fun e w' => e = .returned (.int .i64 (sumT (one1 xs) xs.length)) ∧ Below w.heap.size w w' := by
  have L0 := (Law.start w).has (sumV 110 #[] 0) 106
  have hab : ∀ g, 0 < xs.length → a = some g → g.block ≠ w.heap.size := by
    intro g h0 hg
    obtain ⟨b1, o1, e, hb1, _⟩ := reads_row hr h0
    rw [hg] at e
    injection e with e
    subst e
    simp
    omega
  have HA := Lib.hid (addAll_any w.heap.size 110 #[] (one1 xs) a p xs _ hx (hr.kept L0.below) hab (fun _ _ => by kernel_rfl) L0.ownHas (fun j _ w' _ => count1_any _ w') (fun j hj => by
    have h1 := one1_bd xs (j + 1)
    rw [sumT] at h1
    exact IntWalk.i64_in _ (by omega)))
  have HL := Lib.hid L0
  clear L0 hr hab
  go_enter Try.func69, Try.ntmps69
  go_wp2_with fail
  refine HA.out.mono ?_
  rintro e w2 ⟨rfl, hc, hh⟩
  obtain ⟨e0, e1, _⟩ := hh.two
  have HB := Lib.hid (Law.write (ts := []) (t := tHas w.heap.size (sumV 110 #[] 0) 106) HL.out hc (tHas w.heap.size (sumV 110 #[] (sumT (one1 xs) xs.length)) 106) rfl hh).below
  clear hc hh HA HL
  go_wp2_with fail
  go_ret
  exact ⟨rfl, HB.out⟩
end Go.Proofs.Ytdimbnkgomfojaa
end

section
namespace Go.Proofs.Ytdimbnkgomfojaa
open Go.RowKit Go.WideShapes

abbrev bN (M : Nat → Int) (a b : Nat) : Bool := (M a).toNat.testBit b
/-- The cells of a trial. -/
def trL (n m : Int) (M F : Nat → Int) : List Value := gl n m M ++ pl6 F
abbrev trV (n m : Int) (M F : Nat → Int) : Value := .agg #[.int .i64 n, .int .i64 m, .int .i64 (M 0), .int .i64 (M 1), .int .i64 (M 2), .int .i64 (M 3), .int .i64 (M 4), .int .i64 (M 5), .int .i64 (F 0), .int .i64 (F 1), .int .i64 (F 2), .int .i64 (F 3), .int .i64 (F 4), .int .i64 (F 5)]
theorem trL_mask (n m : Int) (M F : Nat → Int) (i : Nat) (h : i < 6) : (trL n m M F)[2 + i]? = some (.int .i64 (M i)) := by
  have : i = 0 ∨ i = 1 ∨ i = 2 ∨ i = 3 ∨ i = 4 ∨ i = 5 := by omega
  rcases this with rfl | rfl | rfl | rfl | rfl | rfl <;> rfl
theorem trL_place (n m : Int) (M F : Nat → Int) (i : Nat) (h : i < 6) : (trL n m M F)[8 + i]? = some (.int .i64 (F i)) := by
  have : i = 0 ∨ i = 1 ∨ i = 2 ∨ i = 3 ∨ i = 4 ∨ i = 5 := by omega
  rcases this with rfl | rfl | rfl | rfl | rfl | rfl <;> rfl
/-- One row that is hit or not. -/
def hit1 (M F : Nat → Int) (r : Nat) : Int := if bN M r (F r).toNat = true then 1 else 0
theorem hit1_sum (M F : Nat → Int) (Q : List Int) (n : Nat) (h : ∀ r, r < n → Q.getD r 0 = F r) : sumT (hit1 M F) n = (hitN (bN M) Q n : Nat) := by
  induction n with
  | zero => rfl
  | succ n ih =>
    rw [sumT, hitN, ih (fun r hr => h r (by omega)), h n (by omega)]
    unfold hit1
    split <;> simp

set_option maxRecDepth 100000 in
set_option maxHeartbeats 1600000 in
theorem hitIn_any (n m : Int) (M F : Nat → Int) (r : Nat) (w : World) (hr : r < 6) (hM : 0 ≤ M r ∧ M r < 64) (hF : 0 ≤ F r ∧ F r < 6) :
    Calls Try.prog 138 #[trV n m M F, .int .i64 r] w fun e w' => e = .returned (.int .i64 (hit1 M F r)) ∧ Below w.heap.size w w' := by
  have L0 := (Law.start w).has (trL n m M F) 126
  have c1 := L0.ownHas.cell (2 + r)
  have c2 := L0.ownHas.cell (8 + r)
  rw [trL_mask n m M F r hr] at c1
  rw [trL_place n m M F r hr] at c2
  rw [show (trL n m M F).toArray = #[.int .i64 n, .int .i64 m, .int .i64 (M 0), .int .i64 (M 1), .int .i64 (M 2), .int .i64 (M 3), .int .i64 (M 4), .int .i64 (M 5), .int .i64 (F 0), .int .i64 (F 1), .int .i64 (F 2), .int .i64 (F 3), .int .i64 (F 4), .int .i64 (F 5)] from rfl] at c1 c2 L0
  have HB := Lib.hid L0.below
  obtain ⟨x, hx⟩ := Int.eq_ofNat_of_zero_le hM.1
  obtain ⟨q, hq⟩ := Int.eq_ofNat_of_zero_le hF.1
  have hbit := bit_one x q (by omega)
  have HV := Lib.hid (show hit1 M F r = if x.testBit q = true then 1 else 0 by unfold hit1 bN; rw [hx, hq]; rfl)
  rw [← HV.out] at hbit
  rw [hx] at c1
  rw [hq] at c2
  have hr0 : (0 : Int) ≤ r := by omega
  have hr6 : (r : Int) < 6 := by omega
  have hq0 : (0 : Int) ≤ q := by omega
  have hq6 : (q : Int) < 64 := by omega
  generalize hit1 M F r = z at *
  clear L0 hx hq hM hF HV
  go_enter Try.func138, Try.ntmps138
  go_upto_region 1 with fail
  generalize w.alloc (.cells #[.int .i64 n, .int .i64 m, .int .i64 (M 0), .int .i64 (M 1), .int .i64 (M 2), .int .i64 (M 3), .int .i64 (M 4), .int .i64 (M 5), .int .i64 (F 0), .int .i64 (F 1), .int .i64 (F 2), .int .i64 (F 3), .int .i64 (F 4), .int .i64 (F 5)] 126) = w5 at *
  go_quiet (fail)
  go_wp2_with fail
  go_ret
  exact ⟨rfl, below_drewN HB.out _⟩
end Go.Proofs.Ytdimbnkgomfojaa
end
