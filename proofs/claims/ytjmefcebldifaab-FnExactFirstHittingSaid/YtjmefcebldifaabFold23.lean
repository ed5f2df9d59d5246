import Derived.Test.YtjmefcebldifaabFold22
import Derived.Test.YtjmefcebldifaabFold11
import Derived.Test.YtjmefcebldifaabFold8
import Derived.Test.YtjmefcebldifaabFold6
import Derived.Test.YtjmefcebldifaabFold20
import Derived.Test.YtjmefcebldifaabFold4
import Derived.Deep.RegionHeld3
import Derived.Deep.RegionWith
import Derived.IntWalk
import Derived.Laws.EntriesVeiled
import Derived.Test.YtjmefcebldifaabFold13
import Derived.Test.YtjmefcebldifaabFold9
import Derived.Test.YtjmefcebldifaabFold17
import Derived.Test.YtjmefcebldifaabFold18
import Derived.Test.YtjmefcebldifaabFold14
import Derived.Laws.OwnMore

section
namespace Go.Proofs.Ytjmefcebldifaab
open Go.RowKit

theorem fm_congr {α β : Type} (l : List α) (f g : α → List β) (h : ∀ x ∈ l, f x = g x) : l.flatMap f = l.flatMap g := by
  induction l with
  | nil => rfl
  | cons a l ih => rw [List.flatMap_cons, List.flatMap_cons, h a (by simp), ih (fun x hx => h x (by simp [hx]))]
theorem pl_prm (n : Nat) (B : Nat → Nat → Bool) (hB : ∀ r c, r < n → c < n → B r c = true) (d : Nat) : ∀ (f t : Nat) (P : List Int), f + d = n → (∀ c, c < n → t.testBit c = hasI P (c : Int)) → (pl n B d f t d).map (fun Q => P ++ Q) = prm n d P := by
  induction d with
  | zero => intro f t P _ _; simp [pl, prm]
  | succ d ih =>
    intro f t P hf ht
    rw [pl, pl_none n B d (f + 1) t (d + 1) (by omega), prm, List.map_nil, List.nil_append, List.map_flatMap]
    refine fm_congr _ _ _ (fun c hc => ?_)
    have hc := List.mem_range.1 hc
    rw [hB f c (by omega) hc, ht c hc]
    cases hh : hasI P (c : Int)
    · simp only [Bool.not_false, Bool.and_true, Nat.add_sub_cancel, decide_eq_true_eq, Nat.zero_lt_succ, if_true, List.map_map, Bool.false_eq_true, if_false]
      rw [← ih (f + 1) (t ||| 2 ^ c) (P ++ [(c : Int)]) (by omega) (fun q hq => by rw [hasP_on, bit_both, ht q hq])]
      refine List.map_congr_left (fun Q _ => ?_)
      simp
    · simp
theorem pl_all (n : Nat) (B : Nat → Nat → Bool) (hB : ∀ r c, r < n → c < n → B r c = true) : pl n B n 0 0 n = prm n n [] := by
  have := pl_prm n B hB n 0 0 [] (by omega) (fun c _ => by simp [hasI_nil])
  simpa using this

/-- How many of the first j things are told apart. -/
def cntP (p : List Int → Bool) (L : List (List Int)) (j : Nat) : Nat := ((L.take j).filter p).length
theorem cntP_zero (p : List Int → Bool) (L : List (List Int)) : cntP p L 0 = 0 := by simp [cntP]
theorem cntP_full (p : List Int → Bool) (L : List (List Int)) (j : Nat) (h : L.length ≤ j) : cntP p L j = (L.filter p).length := by
  unfold cntP
  rw [List.take_of_length_le h]
theorem cntP_step (p : List Int → Bool) (L : List (List Int)) (j : Nat) (P : List Int) (h : L[j]? = some P) : cntP p L (j + 1) = cntP p L j + if p P = true then 1 else 0 := by
  unfold cntP
  rw [List.take_add_one, h]
  cases hp : p P <;> simp [hp]
theorem cntP_at (p : List Int → Bool) (L : List (List Int)) (j : Nat) (P : List Int) (h : L[j]? = some P) (hp : p P = true) : (L.filter p)[cntP p L j]? = some P := by
  unfold cntP
  have hj := (List.getElem?_eq_some_iff.1 h).1
  have he := (List.getElem?_eq_some_iff.1 h).2
  have e : L = L.take j ++ P :: L.drop (j + 1) := by
    conv => lhs; rw [← List.take_append_drop j L, List.drop_eq_getElem_cons hj, he]
  have e2 : L.filter p = (L.take j).filter p ++ P :: (L.drop (j + 1)).filter p := by
    conv => lhs; rw [e]
    rw [List.filter_append, List.filter_cons_of_pos hp]
  rw [e2, List.getElem?_append_right (Nat.le_refl _), Nat.sub_self]
  rfl
/-- A walk that ends at the first thing that is told apart. -/
theorem runV_first (p : List Int → Bool) (L : List (List Int)) (cont : Nat → Bool) (hc : ∀ j P, L[j]? = some P → cont j = !p P) (s : Nat) : ∀ j, j + s = L.length → cntP p L j = 0 → cntP p L (j + (runV cont j s).1) = min 1 (L.filter p).length := by
  induction s with
  | zero =>
    intro j h h0
    have := cntP_full p L j (by omega)
    rw [runV]
    show cntP p L (j + 0) = _
    rw [Nat.add_zero, h0]
    omega
  | succ s ih =>
    intro j h h0
    have hj : j < L.length := by omega
    have hcj := hc j L[j] (List.getElem?_eq_getElem hj)
    have hst := cntP_step p L j L[j] (List.getElem?_eq_getElem hj)
    rw [runV]
    cases hp : p L[j]
    · rw [hp] at hcj hst
      rw [if_pos (by rw [hcj]; rfl)]
      have := ih (j + 1) (by omega) (by rw [hst, h0]; rfl)
      rw [show j + ((runV cont (j + 1) s).1 + 1) = j + 1 + (runV cont (j + 1) s).1 by omega]
      exact this
    · rw [hp] at hcj hst
      rw [if_neg (by rw [hcj]; simp)]
      show cntP p L (j + 1) = _
      have h1 := cntP_at p L j L[j] (List.getElem?_eq_getElem hj) hp
      have h2 := (List.getElem?_eq_some_iff.1 h1).1
      rw [hst, h0, if_pos rfl]
      omega
end Go.Proofs.Ytjmefcebldifaab
end

section
namespace Go.Proofs.Ytjmefcebldifaab
open Go.RowKit Go.WideShapes

theorem Has.two {w : World} {b : Nat} {v0 v1 : Value} {t : TypeId} (h : Has w b [v0, v1] t) :
    w.cell? ⟨b, 0, none⟩ = some v0 ∧ w.cell? ⟨b, 1, none⟩ = some v1 ∧ ∀ o, w.frozen? ⟨b, o, none⟩ = false :=
  ⟨h.cell 0, h.cell 1, h.free⟩
/-- The block of a sum. -/
abbrev sumV (F : FuncId) (cap : Array Value) (t : Int) : List Value := [.func (.func F) #[] cap, .int .i64 t]

set_option maxRecDepth 100000 in
set_option maxHeartbeats 3200000 in
theorem add_any (b : Nat) (F : FuncId) (cap : Array Value) (t x v : Int) (w : World)
    (hcall : ∀ (args : Array Value) (w : World), (callFunc F args).run Try.prog w = .ok (.enter F args) w)
    (H : Has w b (sumV F cap t) 87)
    (hF : ∀ w', Below w.heap.size w w' → Calls Try.prog F (#[.int .i64 x] ++ cap) w' fun e w'' => e = .returned (.int .i64 v) ∧ Below w'.heap.size w' w'')
    (hs : IntKind.i64.wrap (t + v) = t + v) :
    Calls Try.prog 94 #[.pointer (some ⟨b, 0, none⟩), .int .i64 x] w fun e w' => e = .returned (.bool true) ∧ Chg (fun k => k = b) w w' ∧ Has w' b (sumV F cap (t + v)) 87 := by
  have hlt := H.lt
  obtain ⟨e0, e1, ef⟩ := (show Has w.drew b (sumV F cap t) 87 from H.drew).two
  have HF := Lib.hid hF
  have HH := Lib.hid H
  clear H hF
  go_enter Try.func94, Try.ntmps94
  go_wp2_with fail
  go_region_with (((refine (HF.out _ (Below.refl _ _).drew).mono ?_); rintro e w1 ⟨rfl, hb⟩; have m0 := cell_later hb e0; have m1 := cell_later hb e1; have mf := (hb.frozen (p := ⟨b, 1, none⟩) hlt).trans (ef 1); have HB := Lib.hid hb; clear hb))
  all_goals
    have HN := Lib.hid (((HH.out.drew).kept HB.out hlt).set 1 (.int .i64 (t + v)))
    have HCg := Lib.hid (show Chg (fun k => k = b) w (w1.setCell ⟨b, 1, none⟩ (.int .i64 (t + v))) from ((Chg.of_below (Below.refl _ _).drew).trans (Chg.of_below HB.out)).trans ⟨rfl, rfl, rfl, by simp [World.setCell], fun k _ hf => Below.heap_setCell w1 ⟨b, 1, none⟩ _ k hf⟩)
    go_wp2_with fail
    go_ret
    exact ⟨rfl, HCg.out, HN.out⟩


set_option maxRecDepth 100000 in
set_option maxHeartbeats 1600000 in
theorem sumOfTerms_any (n : Nat) (F : FuncId) (cap : Array Value) (f : Nat → Int) (w : World) (hn : n ≤ 1048576)
    (hcall : ∀ (args : Array Value) (w : World), (callFunc F args).run Try.prog w = .ok (.enter F args) w)
    (hF : ∀ j, j < n → ∀ w', Below w.heap.size w w' → Calls Try.prog F (#[.int .i64 j] ++ cap) w' fun e w'' => e = .returned (.int .i64 (f j)) ∧ Below w'.heap.size w' w'')
    (hs : ∀ j, j < n → IntKind.i64.wrap (sumT f j + f j) = sumT f j + f j) :
    Calls Try.prog 85 #[.int .i64 n, .func (.func F) #[] cap] w fun e w' => e = .returned (.int .i64 (sumT f n)) ∧ Below w.heap.size w w' := by
  have L0 := (Law.start w).has (sumV F cap 0) 87
  have HL := Lib.hid L0
  have HF := Lib.hid hF
  have HW := Lib.hid hs
  clear L0 hF hs
  go_enter Try.func85, Try.ntmps85
  go_wp2_with fail
  go_loopw [6] (fun v wr => ∃ j : Nat, j ≤ n ∧ v = .int .i64 j ∧ Law w [tHas w.heap.size (sumV F cap (sumT f j)) 87] wr) (fun v _ => n - (intOf v).toNat)
  case atStart => exact ⟨0, Nat.zero_le _, rfl, HL.out⟩
  case round =>
    clear HL
    obtain ⟨j, hj, rfl, L⟩ := hrel
    by_cases hlt : j < n
    · have HA := Lib.hid (add_any w.heap.size F cap (sumT f j) j (f j) wr hcall L.ownHas (fun w' hb => HF.out j hlt w' (below_on L.below hb)) (HW.out j hlt))
      have HL := Lib.hid L
      clear L
      go_wp2_with fail
      refine HA.out.mono ?_
      rintro e w2 ⟨rfl, hc, hh⟩
      have HS := Lib.hid (Law.write (ts := []) (t := tHas w.heap.size (sumV F cap (sumT f j)) 87) HL.out hc (tHas w.heap.size (sumV F cap (sumT f (j + 1))) 87) rfl hh)
      clear hc hh HA HL
      go_wp2_with fail
      go_roundw
      case rel => exact ⟨j + 1, by omega, by go_num, HS.out⟩
      case measure => simp [intOf]; omega
    · obtain rfl : j = n := by omega
      obtain ⟨e0, e1, _⟩ := L.ownHas.two
      have HB := Lib.hid L.below
      clear L
      go_wp2_with fail
      go_ret
      exact ⟨rfl, HB.out⟩

end Go.Proofs.Ytjmefcebldifaab
end

section
namespace Go.Proofs.Ytjmefcebldifaab
open Go.RowKit Go.WideShapes

abbrev bN (M : Nat → Int) (a b : Nat) : Bool := (M a).toNat.testBit b
/-- The cells of a trial. -/
def trL (n m : Int) (M F : Nat → Int) : List Value := gl n m M ++ pl6 F
abbrev trV (n m : Int) (M F : Nat → Int) : Value := .agg #[.int .i64 n, .int .i64 m, .int .i64 (M 0), .int .i64 (M 1), .int .i64 (M 2), .int .i64 (M 3), .int .i64 (M 4), .int .i64 (M 5), .int .i64 (F 0), .int .i64 (F 1), .int .i64 (F 2), .int .i64 (F 3), .int .i64 (F 4), .int .i64 (F 5)]
theorem trL_mask (n m : Int) (M F : Nat → Int) (i : Nat) (h : i < 6) : (trL n m M F)[2 + i]? = some (.int .i64 (M i)) := by
  have : i = 0 ∨ i = 1 ∨ i = 2 ∨ i = 3 ∨ i = 4 ∨ i = 5 := by omega
  rcases this with rfl | rfl | rfl | rfl | rfl | rfl <;> rfl
theorem trL_place (n m : Int) (M F : Nat → Int) (i : Nat) (h : i < 6) : (trL n m M F)[8 + i]? = some (.int .i64 (F i)) := by
  have : i = 0 ∨ i = 1 ∨ i = 2 ∨ i = 3 ∨ i = 4 ∨ i = 5 := by omega
  rcases this with rfl | rfl | rfl | rfl | rfl | rfl <;> rfl
/-- One row that is hit or not. -/
def hit1 (M F : Nat → Int) (r : Nat) : Int := if bN M r (F r).toNat = true then 1 else 0
theorem hit1_sum (M F : Nat → Int) (Q : List Int) (n : Nat) (h : ∀ r, r < n → Q.getD r 0 = F r) : sumT (hit1 M F) n = (hitN (bN M) Q n : Nat) := by
  induction n with
  | zero => rfl
  | succ n ih =>
    rw [sumT, hitN, ih (fun r hr => h r (by omega)), h n (by omega)]
    unfold hit1
    split <;> simp

set_option maxRecDepth 100000 in
set_option maxHeartbeats 1600000 in
theorem hitIn_any (n m : Int) (M F : Nat → Int) (r : Nat) (w : World) (hr : r < 6) (hM : 0 ≤ M r ∧ M r < 64) (hF : 0 ≤ F r ∧ F r < 6) :
    Calls Try.prog 76 #[trV n m M F, .int .i64 r] w fun e w' => e = .returned (.int .i64 (hit1 M F r)) ∧ Below w.heap.size w w' := by
  have L0 := (Law.start w).has (trL n m M F) 78
  have c1 := L0.ownHas.cell (2 + r)
  have c2 := L0.ownHas.cell (8 + r)
  rw [trL_mask n m M F r hr] at c1
  rw [trL_place n m M F r hr] at c2
  rw [show (trL n m M F).toArray = #[.int .i64 n, .int .i64 m, .int .i64 (M 0), .int .i64 (M 1), .int .i64 (M 2), .int .i64 (M 3), .int .i64 (M 4), .int .i64 (M 5), .int .i64 (F 0), .int .i64 (F 1), .int .i64 (F 2), .int .i64 (F 3), .int .i64 (F 4), .int .i64 (F 5)] from rfl] at c1 c2 L0
  have HB := Lib.hid L0.below
  obtain ⟨x, hx⟩ := Int.eq_ofNat_of_zero_le hM.1
  obtain ⟨q, hq⟩ := Int.eq_ofNat_of_zero_le hF.1
  have hbit := bit_one x q (by omega)
  have HV := Lib.hid (show hit1 M F r = if x.testBit q = true then 1 else 0 by unfold hit1 bN; rw [hx, hq]; rfl)
  rw [← HV.out] at hbit
  rw [hx] at c1
  rw [hq] at c2
  have hr0 : (0 : Int) ≤ r := by omega
  have hr6 : (r : Int) < 6 := by omega
  have hq0 : (0 : Int) ≤ q := by omega
  have hq6 : (q : Int) < 64 := by omega
  generalize hit1 M F r = z at *
  clear L0 hx hq hM hF HV
  go_enter Try.func76, Try.ntmps76
  go_upto_region 1 with fail
  generalize w.alloc (.cells #[.int .i64 n, .int .i64 m, .int .i64 (M 0), .int .i64 (M 1), .int .i64 (M 2), .int .i64 (M 3), .int .i64 (M 4), .int .i64 (M 5), .int .i64 (F 0), .int .i64 (F 1), .int .i64 (F 2), .int .i64 (F 3), .int .i64 (F 4), .int .i64 (F 5)] 78) = w5 at *
  go_quiet (fail)
  go_wp2_with fail
  go_ret
  exact ⟨rfl, below_drewN HB.out _⟩
end Go.Proofs.Ytjmefcebldifaab
end

section
namespace Go.Proofs.Ytjmefcebldifaab
open Go.RowKit Go.WideShapes

theorem prm_bd (n d : Nat) (hn : n ≤ 6) (hd : d ≤ 6) (P : List Int) : (prm n d P).length ≤ 46656 := by
  have h1 := prm_len n d P
  have h2 : n ^ d ≤ 6 ^ d := Nat.pow_le_pow_left hn d
  have h3 : 6 ^ d ≤ 6 ^ 6 := Nat.pow_le_pow_right (by omega) hd
  have h4 : 6 ^ 6 = 46656 := by decide
  omega
theorem prmC_bd (n d : Nat) (hn : n ≤ 6) (hd : d ≤ 5) (P : List Int) (x : Nat) (hx : x ≤ n) : (prmC n d P x).length ≤ 46656 := by
  have h1 := prmC_len n d P x
  have h2 : n ^ d ≤ 6 ^ d := Nat.pow_le_pow_left hn d
  have h3 : 6 ^ d ≤ 6 ^ 5 := Nat.pow_le_pow_right (by omega) hd
  have h4 : 6 ^ 5 = 7776 := by decide
  have h5 : x * n ^ d ≤ 6 * 7776 := Nat.mul_le_mul (by omega) (by omega)
  omega

set_option maxRecDepth 100000 in
set_option maxHeartbeats 6400000 in
theorem hiAll_any (n : Nat) (hn : n ≤ 6) : ∀ (d : Nat) (P : List Int), P.length + d = n → ∀ (w : World) (lop : Nat) (pv : Value), Own w lop pv P →
    Calls Try.prog 53 #[.int .i64 n, pv] w fun e w' => ∃ v vs, e = .returned v ∧ OwnM w' w.heap.size v vs (prm n d P) ∧ (vs = [] → v = .slice none 0 0) ∧ Below w.heap.size w w' := by
  intro d
  induction d with
  | zero =>
    intro P hP w lop pv hO
    obtain ⟨pa, pcap, rfl, hrP⟩ := hO.reads
    have hPn : P.length = n := by omega
    have hPle : P.length ≤ 1048576 := by omega
    have HC := Lib.hid (l1Own_any P w hPle _ hO.src)
    have HPN := Lib.hid hPn
    rw [hPn] at HC ⊢
    have heq : ((n : Int) == n) = true := by simp
    clear hO hrP hP hPn hPle
    go_enter Try.func53, Try.ntmps53
    go_wp2_with fail
    refine HC.out.mono ?_
    rintro e w1 ⟨v, rfl, hO, hb⟩
    obtain ⟨va, vp, rfl, _⟩ := hO.reads
    have HS := Lib.hid (OwnM.single hO hb.size)
    have HB := Lib.hid (below_on hb (below_new (.cells #[.slice va P.length vp] 22)))
    clear hb hO HC
    go_wp2_with fail
    go_ret
    exact ⟨_, _, rfl, HS.out, fun h => by simp at h, HB.out⟩
  | succ d ih =>
    intro P hP w lop pv hO
    obtain ⟨pa, pcap, rfl, hrP⟩ := hO.reads
    have HO := Lib.hid hO
    have HRP := Lib.hid hrP
    have hPle : P.length ≤ 1048576 := by omega
    have HPle := Lib.hid hPle
    have hne : ((P.length : Int) == n) = false := by rw [beq_eq_false_iff_ne]; omega
    have HIH := Lib.hid (fun (x : Nat) (W : World) (pv : Value) (h : Own W 0 pv (P ++ [(x : Int)])) => ih (P ++ [(x : Int)]) (by simp; omega) W 0 pv h)
    have hd5 : d ≤ 5 := by omega
    have HPL := Lib.hid hP
    have HBC := Lib.hid (fun x hx => prmC_bd n d hn hd5 P x hx)
    have HBP := Lib.hid (fun Q => prm_bd n d hn (by omega) Q)
    have hn6 : (n : Int) ≤ 6 := by omega
    have HL := Lib.hid (Law.start w).nilM
    clear hO hrP ih hPle hP
    go_enter Try.func53, Try.ntmps53
    go_wp2_with fail
    clear hne
    go_loopw [5, 6] (fun o i wr => ∃ (x : Nat) (vs : List Value), x ≤ n ∧ i = .int .i64 x ∧ (vs = [] → o = .slice none 0 0) ∧ Law w [tM o vs (prmC n d P x)] wr) (fun _ i _ => n - (intOf i).toNat)
    case atStart => exact ⟨0, [], Nat.zero_le _, rfl, fun _ => rfl, HL.out⟩
    case round =>
      clear HL
      obtain ⟨x, vs, hx, rfl, hno, L⟩ := hrel
      obtain ⟨oa, ocap, rfl⟩ := L.ownM.formR
      by_cases hlt : x < n
      · have HH := Lib.hid (l1Has_any pa P.length pcap P (x : Int) wr HPle.out rfl (L.reads HRP.out))
        cases hh : hasI P (x : Int)
        · rw [hh] at HH
          have hnx := prmC_next n d P x hh
          have hlx := HBC.out x (by omega)
          have hlp := HBP.out (P ++ [(x : Int)])
          have HC := Lib.hid (fun W (hb : Below w.heap.size w W) => l1Own_any P W HPle.out _ (HO.out.kept hb).src)
          have HI := Lib.hid (HIH.out x)
          obtain ⟨C, hC⟩ : ∃ C, C = prmC n d P x := ⟨_, rfl⟩
          rw [← hC] at hnx L hlx hno ⊢
          generalize prm n d (P ++ [(x : Int)]) = D at *
          have HX := Lib.hid hnx
          have HLN := Lib.hid (show C.length + D.length ≤ 1048576 by omega)
          have HL := Lib.hid L
          clear L hh hnx hlx hlp hC
          go_wp2_with fail
          refine HH.out.mono ?_
          rintro e w2 ⟨rfl, hw⟩
          subst w2
          go_wp2_with fail
          refine (HC.out _ HL.out.below).mono ?_
          rintro e w2 ⟨v1, rfl, hO1, hb1⟩
          have L1 := (HL.out.own hb1 hO1).kept (below_new (.cells #[.int .i64 (x : Int)] 3))
          have HX2 := Lib.hid (show (w2.alloc (.cells #[.int .i64 (x : Int)] 3)).cell? ⟨w2.heap.size, 0, none⟩ = some (.int .i64 (x : Int)) by rw [World.cell?_alloc_at _ _ _ _ rfl]; rfl)
          have HL1 := Lib.hid L1
          clear L1 hO1 hb1 HL
          go_wp2_with (at_builtin; go_loud (refine wp_appendI rfl _ _ rfl (x : Int) HL1.out w2.heap.size rfl rfl HX2.out (by have := HPle.out; have := HPL.out; omega) (P ++ [(x : Int)]) rfl ?_))
          intro g1 cap1 w3 L3
          have HL3 := Lib.hid L3
          clear L3 HL1 HX2
          go_wp2_with fail
          refine (HI.out _ _ HL3.out.ownInts).mono ?_
          rintro e w4 ⟨vB, vsB, rfl, OB, hnB, hbB⟩
          have HL4 := Lib.hid ((HL3.out.addM hbB OB).swap.tl)
          clear OB hbB HL3
          go_wp2_with (at_builtin; refine wp_joinE rfl _ _ rfl HL4.out hnB hno rfl rfl HLN.out ?_)
          intro v5 vs5 w5 L5 hn5
          have HL5 := Lib.hid L5
          clear L5 HL4
          go_wp2_with fail
          go_roundw
          case rel => exact ⟨x + 1, vs5, by omega, by go_num, hn5, by rw [HX.out]; exact HL5.out⟩
          case measure => simp [intOf]; omega
        · rw [hh] at HH
          rw [← prmC_skip n d P x hh] at L
          have HL := Lib.hid (show Law w [tM (.slice oa (prmC n d P x).length ocap) vs (prmC n d P (x + 1))] wr by rw [prmC_skip n d P x hh] at L ⊢; exact L)
          clear L hh
          go_wp2_with fail
          refine HH.out.mono ?_
          rintro e w2 ⟨rfl, hw⟩
          subst w2
          go_wp2_with fail
          go_roundw
          case rel => exact ⟨x + 1, vs, by omega, by go_num, hno, HL.out⟩
          case measure => simp [intOf]; omega
      · obtain rfl : x = n := by omega
        rw [prmC_last] at L hno ⊢
        have HL := Lib.hid L
        clear L
        go_wp2_with fail
        go_ret
        exact ⟨_, _, rfl, HL.out.ownMLo, hno, HL.out.below⟩
end Go.Proofs.Ytjmefcebldifaab
end
