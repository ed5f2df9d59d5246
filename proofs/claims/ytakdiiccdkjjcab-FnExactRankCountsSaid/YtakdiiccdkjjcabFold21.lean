import Derived.Test.YtakdiiccdkjjcabFold20
import Derived.Test.YtakdiiccdkjjcabFold12
import Derived.Test.YtakdiiccdkjjcabFold4
import Derived.Test.YtakdiiccdkjjcabFold10
import Derived.Test.YtakdiiccdkjjcabFold15
import Derived.Deep.RegionHeld3
import Derived.Deep.RegionWith
import Derived.IntWalk
import Derived.Laws.EntriesVeiled

section
namespace Go.Proofs.Ytakdiiccdkjjcab
open Go.RowKit Go.WideShapes

def allwR (xs : List Int) : MR := if lenB xs then ⟨lstR (xs.length + 1) (wts xs xs.length), true⟩ else ⟨[], false⟩
theorem total_map (l : List Nat) (g : Nat → List Int) (B : Nat) (h : ∀ k, (g k).length ≤ B) : total (l.map g) ≤ l.length * B := by
  induction l with
  | nil => simp [total]
  | cons a t ih =>
    have := h a
    rw [List.map_cons, List.length_cons, Nat.succ_mul, total_cons]
    omega
theorem allwR_len (xs : List Int) : (allwR xs).zz.length ≤ 1048576 ∧ total (allwR xs).zz ≤ 1048576 := by
  unfold allwR
  split
  · rename_i h
    obtain ⟨l1, l2, l3, l4, l5⟩ := len_facts h
    refine ⟨by show (lstR _ _).length ≤ _; rw [lstR_len]; omega, ?_⟩
    have := total_map (List.range (xs.length + 1)) (wts xs xs.length) 37 (fun k => by have := wts_len xs (fun k => (l3 k).2) xs.length k; omega)
    rw [List.length_range] at this
    show total (lstR _ _) ≤ _
    unfold lstR
    omega
  · simp [total]

set_option maxRecDepth 100000 in
set_option maxHeartbeats 1600000 in
theorem implAllw_any (xs : List Int) (w : World) (hx : xs.length ≤ 1048576) (lo : Nat) (s : Value) (hO : Own w lo s xs) :
    Calls Try.prog 46 #[s] w (AnsM (allwR xs) w) := by
  have L0 := Law.start w
  obtain ⟨a, p, rfl, hr⟩ := hO.reads
  clear hO
  cases hg : lenB xs
  · rw [show allwR xs = ⟨[], false⟩ by simp [allwR, hg]]
    have HC := Lib.hid (lengthsOf_no a p xs _ hx hr hg)
    clear hg hr
    go_enter Try.func46, Try.ntmps46
    go_wp2_with fail
    refine HC.out.mono ?_
    rintro e w2 ⟨rfl, hb⟩
    have HB := Lib.hid (below_on hb (below_new (.cells #[.int .i64 0, .int .i64 0, .int .i64 0, .int .i64 0, .int .i64 0, .int .i64 0, .int .i64 0] 90)))
    clear hb HC
    go_wp2_with fail
    go_ret2
    exact ⟨_, _, rfl, OwnM.nil _ _, HB.out⟩
  · obtain ⟨l1, l2, l3, _⟩ := len_facts hg
    have hc := lengthsOf_yes a p xs _ hx hr hg
    obtain ⟨n, hn⟩ : ∃ n, n = xs.length := ⟨_, rfl⟩
    rw [show allwR xs = ⟨lstR (n + 1) (wts xs n), true⟩ by rw [hn]; simp [allwR, hg]]
    obtain ⟨M, hM⟩ : ∃ M : Nat → Int, M = fun k => xs.getD k 0 := ⟨_, rfl⟩
    rw [← hM] at hc
    rw [← hn] at hc hr ⊢
    have HC := Lib.hid hc
    have HA := Lib.hid (fun W => allWeights_any n xs M W hn hM hg)
    clear hg hr hM hc l3 hn l1 l2
    generalize lstR (n + 1) (wts xs n) = zz at *
    go_enter Try.func46, Try.ntmps46
    go_wp2_with fail
    refine HC.out.mono ?_
    rintro e w2 ⟨rfl, hb⟩
    have L2 := (L0.kept hb).has (sl n M) 90
    rw [show w2.alloc (.cells (sl n M).toArray 90) = w2.alloc (.cells #[.int .i64 n, .int .i64 (M 0), .int .i64 (M 1), .int .i64 (M 2), .int .i64 (M 3), .int .i64 (M 4), .int .i64 (M 5)] 90) from rfl] at L2
    have HL2 := Lib.hid L2
    clear hb L2 HC L0
    go_upto_region 2 with fail
    generalize w2.alloc _ = w5 at *
    have ⟨e0, e1, e2, e3, e4, e5, e6, _⟩ := HL2.out.ownHas.seven
    go_wp2_with fail
    refine (HA.out _).mono ?_
    rintro e w6 ⟨g, vs, rfl, hO, hb⟩
    have HF := Lib.hid (And.intro (hO.lower HL2.out.below.size) (HL2.out.kept hb).below)
    clear hO hb HL2 HA
    go_wp2_with fail
    go_ret2
    exact ⟨_, vs, rfl, HF.out.1, HF.out.2⟩
set_option maxRecDepth 100000 in
set_option maxHeartbeats 1600000 in
theorem specAllw_any (xs : List Int) (w : World) (hx : xs.length ≤ 1048576) (lo : Nat) (s : Value) (hO : Own w lo s xs) :
    Calls Try.prog 44 #[s] w (AnsM (allwR xs) w) := by
  obtain ⟨a, p, rfl, hr⟩ := hO.reads
  clear hO
  have HG := Lib.hid (feGood_any a p xs w hx hr)
  cases hg : lenB xs
  · rw [show allwR xs = ⟨[], false⟩ by simp [allwR, hg]]
    rw [hg] at HG
    clear hg hr
    go_enter Try.func44, Try.ntmps44
    go_wp2_with fail
    refine HG.out.mono ?_
    rintro e w2 ⟨rfl, hb⟩
    have HB := Lib.hid hb
    clear hb
    go_wp2_with fail
    go_ret2
    exact ⟨_, _, rfl, OwnM.nil _ _, HB.out⟩
  · obtain ⟨l1, l2, l3, _⟩ := len_facts hg
    rw [hg] at HG
    rw [show allwR xs = ⟨lstR (xs.length + 1) (wts xs xs.length), true⟩ by simp [allwR, hg]]
    have HA := Lib.hid (fun W h => weAll_any xs a p W l1 l2 l3 h)
    have HR := Lib.hid hr
    clear hg hr l3 l1 l2
    generalize lstR (xs.length + 1) (wts xs xs.length) = zz at *
    go_enter Try.func44, Try.ntmps44
    go_wp2_with fail
    refine HG.out.mono ?_
    rintro e w2 ⟨rfl, hb⟩
    have HB := Lib.hid hb
    clear hb
    go_wp2_with fail
    refine (HA.out _ (HR.out.kept HB.out)).mono ?_
    rintro e w6 ⟨g, vs, rfl, hO, hb⟩
    have HF := Lib.hid (And.intro (hO.lower HB.out.size) (below_on HB.out hb))
    clear hO hb HA
    go_wp2_with fail
    go_ret2
    exact ⟨_, vs, rfl, HF.out.1, HF.out.2⟩
end Go.Proofs.Ytakdiiccdkjjcab
end

section
namespace Go.Proofs.Ytakdiiccdkjjcab
open Go.RowKit

def plusAt (l : List Int) (p : Nat) (v : Int) : List Int := l.set p (l.getD p 0 + v)
theorem plusAt_len (l : List Int) (p : Nat) (v : Int) : (plusAt l p v).length = l.length := by simp [plusAt]
def Bd (K : Int) (l : List Int) : Prop := ∀ p, 0 ≤ l.getD p 0 ∧ l.getD p 0 ≤ K
theorem Bd.plus {K V : Int} {l : List Int} (h : Bd K l) (p : Nat) (v : Int) (h0 : 0 ≤ v) (h1 : v ≤ V) : Bd (K + V) (plusAt l p v) := by
  intro q
  have hq := h q
  have hp := h p
  unfold plusAt
  by_cases e : p = q
  · subst e
    by_cases hl : p < l.length
    · rw [List.getD_eq_getElem?_getD, List.getElem?_set_self (by exact hl)]
      simp only [Option.getD_some]
      omega
    · rw [List.set_eq_of_length_le (by omega)]
      omega
  · have : (l.set p (l.getD p 0 + v)).getD q 0 = l.getD q 0 := by
      rw [List.getD_eq_getElem?_getD, List.getElem?_set_ne e, ← List.getD_eq_getElem?_getD]
    rw [this]
    omega
theorem Bd.mono {K K' : Int} {l : List Int} (h : Bd K l) (hk : K ≤ K') : Bd K' l := fun p => ⟨(h p).1, by have := (h p).2; omega⟩
/-- One row of the product. -/
def rowP (z : List Int) (x : Int) (i : Nat) (b : List Int) : Nat → List Int
  | 0 => z
  | j + 1 => plusAt (rowP z x i b j) (i + j) (x * b.getD j 0)
theorem rowP_len (z : List Int) (x : Int) (i : Nat) (b : List Int) (j : Nat) : (rowP z x i b j).length = z.length := by
  induction j with
  | zero => rfl
  | succ j ih => rw [rowP, plusAt_len, ih]
/-- The first rows of the product. -/
def allP (a b : List Int) : Nat → List Int
  | 0 => List.replicate (a.length + b.length - 1) 0
  | i + 1 => rowP (allP a b i) (a.getD i 0) i b b.length
theorem allP_len (a b : List Int) (i : Nat) : (allP a b i).length = a.length + b.length - 1 := by
  induction i with
  | zero => simp [allP]
  | succ i ih => rw [allP, rowP_len, ih]
theorem mul_bd (x y : Int) (hx : 0 ≤ x ∧ x ≤ 100000) (hy : 0 ≤ y ∧ y ≤ 100000) : 0 ≤ x * y ∧ x * y ≤ 10000000000 := by
  refine ⟨Int.mul_nonneg hx.1 hy.1, ?_⟩
  have := Int.mul_le_mul hx.2 hy.2 hy.1 (by decide)
  omega
theorem rowP_bd (z : List Int) (x : Int) (i : Nat) (b : List Int) (K : Int) (hz : Bd K z) (hx : 0 ≤ x ∧ x ≤ 100000) (hb : ∀ j, 0 ≤ b.getD j 0 ∧ b.getD j 0 ≤ 100000) (j : Nat) : Bd (K + j * 10000000000) (rowP z x i b j) := by
  induction j with
  | zero => exact hz.mono (by simp)
  | succ j ih =>
    have h := mul_bd x _ hx (hb j)
    exact (ih.plus (i + j) _ h.1 h.2).mono (by push_cast; omega)
theorem allP_bd (a b : List Int) (hb7 : b.length ≤ 7) (ha : ∀ j, 0 ≤ a.getD j 0 ∧ a.getD j 0 ≤ 100000) (hb : ∀ j, 0 ≤ b.getD j 0 ∧ b.getD j 0 ≤ 100000) (i : Nat) : Bd (i * 70000000000) (allP a b i) := by
  induction i with
  | zero =>
    intro p
    have : (List.replicate (a.length + b.length - 1) (0 : Int)).getD p 0 = 0 := by
      simp only [List.getD_eq_getElem?_getD, List.getElem?_replicate]
      split <;> rfl
    simp only [allP, this]
    simp
  | succ i ih => exact (rowP_bd _ _ i b _ ih (ha i) hb b.length).mono (by push_cast; omega)
theorem within_get {lo hi : Int} {xs : List Int} (h : within lo hi xs = true) (h0 : lo ≤ 0 ∧ 0 ≤ hi) (j : Nat) : lo ≤ xs.getD j 0 ∧ xs.getD j 0 ≤ hi := by
  by_cases hj : j < xs.length
  · rw [within, List.all_eq_true] at h
    have := h (xs.getD j 0) (by simp [List.getD, hj])
    simpa using this
  · rw [List.getD_eq_getElem?_getD, List.getElem?_eq_none (by omega)]
    exact h0
/-- May a list be multiplied? -/
def facB (xs : List Int) : Bool := inB 1 xs.length 7 && within 0 100000 xs
theorem facB_facts {xs : List Int} (h : facB xs = true) : (1 ≤ xs.length ∧ xs.length ≤ 7) ∧ ∀ j, 0 ≤ xs.getD j 0 ∧ xs.getD j 0 ≤ 100000 := by
  rw [facB, Bool.and_eq_true, inB_iff] at h
  exact ⟨by omega, within_get h.2 (by decide)⟩

/-- Rooks: numbers that are none below 0. -/
def rcnt (xs : List Int) : Nat := (xs.filter (fun x => decide (0 ≤ x))).length
theorem rcnt_le (xs : List Int) : rcnt xs ≤ xs.length := List.length_filter_le _ _
theorem rcnt_succ (xs : List Int) (k : Nat) (h : k < xs.length) : rcnt (xs.take (k + 1)) = rcnt (xs.take k) + if 0 ≤ xs.getD k 0 then 1 else 0 := by
  rw [List.take_succ_eq_append_getElem h, rcnt, List.filter_append, List.length_append]
  have e : xs.getD k 0 = xs[k] := by simp [List.getD, h]
  rw [e]
  unfold rcnt
  by_cases h2 : 0 ≤ xs[k] <;> simp [h2]
end Go.Proofs.Ytakdiiccdkjjcab
end

section
namespace Go.Proofs.Ytakdiiccdkjjcab
open Go.RowKit Go.WideShapes

theorem Has.two {w : World} {b : Nat} {v0 v1 : Value} {t : TypeId} (h : Has w b [v0, v1] t) :
    w.cell? ⟨b, 0, none⟩ = some v0 ∧ w.cell? ⟨b, 1, none⟩ = some v1 ∧ ∀ o, w.frozen? ⟨b, o, none⟩ = false :=
  ⟨h.cell 0, h.cell 1, h.free⟩
/-- The block of a sum. -/
abbrev sumV (F : FuncId) (cap : Array Value) (t : Int) : List Value := [.func (.func F) #[] cap, .int .i64 t]

set_option maxRecDepth 100000 in
set_option maxHeartbeats 3200000 in
theorem add_any (b : Nat) (F : FuncId) (cap : Array Value) (t x v : Int) (w : World)
    (hcall : ∀ (args : Array Value) (w : World), (callFunc F args).run Try.prog w = .ok (.enter F args) w)
    (H : Has w b (sumV F cap t) 120)
    (hF : ∀ w', Below w.heap.size w w' → Calls Try.prog F (#[.int .i64 x] ++ cap) w' fun e w'' => e = .returned (.int .i64 v) ∧ Below w'.heap.size w' w'')
    (hs : IntKind.i64.wrap (t + v) = t + v) :
    Calls Try.prog 135 #[.pointer (some ⟨b, 0, none⟩), .int .i64 x] w fun e w' => e = .returned (.bool true) ∧ Chg (fun k => k = b) w w' ∧ Has w' b (sumV F cap (t + v)) 120 := by
  have hlt := H.lt
  obtain ⟨e0, e1, ef⟩ := (show Has w.drew b (sumV F cap t) 120 from H.drew).two
  have HF := Lib.hid hF
  have HH := Lib.hid H
  clear H hF
  go_enter Try.func135, Try.ntmps135
  go_wp2_with fail
  go_region_with (((refine (HF.out _ (Below.refl _ _).drew).mono ?_); rintro e w1 ⟨rfl, hb⟩; have m0 := cell_later hb e0; have m1 := cell_later hb e1; have mf := (hb.frozen (p := ⟨b, 1, none⟩) hlt).trans (ef 1); have HB := Lib.hid hb; clear hb))
  all_goals
    have HN := Lib.hid (((HH.out.drew).kept HB.out hlt).set 1 (.int .i64 (t + v)))
    have HCg := Lib.hid (show Chg (fun k => k = b) w (w1.setCell ⟨b, 1, none⟩ (.int .i64 (t + v))) from ((Chg.of_below (Below.refl _ _).drew).trans (Chg.of_below HB.out)).trans ⟨rfl, rfl, rfl, by simp [World.setCell], fun k _ hf => Below.heap_setCell w1 ⟨b, 1, none⟩ _ k hf⟩)
    go_wp2_with fail
    go_ret
    exact ⟨rfl, HCg.out, HN.out⟩


set_option maxRecDepth 100000 in
set_option maxHeartbeats 1600000 in
theorem sumOfTerms_any (n : Nat) (F : FuncId) (cap : Array Value) (f : Nat → Int) (w : World) (hn : n ≤ 1048576)
    (hcall : ∀ (args : Array Value) (w : World), (callFunc F args).run Try.prog w = .ok (.enter F args) w)
    (hF : ∀ j, j < n → ∀ w', Below w.heap.size w w' → Calls Try.prog F (#[.int .i64 j] ++ cap) w' fun e w'' => e = .returned (.int .i64 (f j)) ∧ Below w'.heap.size w' w'')
    (hs : ∀ j, j < n → IntKind.i64.wrap (sumT f j + f j) = sumT f j + f j) :
    Calls Try.prog 98 #[.int .i64 n, .func (.func F) #[] cap] w fun e w' => e = .returned (.int .i64 (sumT f n)) ∧ Below w.heap.size w w' := by
  have L0 := (Law.start w).has (sumV F cap 0) 120
  have HL := Lib.hid L0
  have HF := Lib.hid hF
  have HW := Lib.hid hs
  clear L0 hF hs
  go_enter Try.func98, Try.ntmps98
  go_wp2_with fail
  go_loopw [6] (fun v wr => ∃ j : Nat, j ≤ n ∧ v = .int .i64 j ∧ Law w [tHas w.heap.size (sumV F cap (sumT f j)) 120] wr) (fun v _ => n - (intOf v).toNat)
  case atStart => exact ⟨0, Nat.zero_le _, rfl, HL.out⟩
  case round =>
    clear HL
    obtain ⟨j, hj, rfl, L⟩ := hrel
    by_cases hlt : j < n
    · have HA := Lib.hid (add_any w.heap.size F cap (sumT f j) j (f j) wr hcall L.ownHas (fun w' hb => HF.out j hlt w' (below_on L.below hb)) (HW.out j hlt))
      have HL := Lib.hid L
      clear L
      go_wp2_with fail
      refine HA.out.mono ?_
      rintro e w2 ⟨rfl, hc, hh⟩
      have HS := Lib.hid (Law.write (ts := []) (t := tHas w.heap.size (sumV F cap (sumT f j)) 120) HL.out hc (tHas w.heap.size (sumV F cap (sumT f (j + 1))) 120) rfl hh)
      clear hc hh HA HL
      go_wp2_with fail
      go_roundw
      case rel => exact ⟨j + 1, by omega, by go_num, HS.out⟩
      case measure => simp [intOf]; omega
    · obtain rfl : j = n := by omega
      obtain ⟨e0, e1, _⟩ := L.ownHas.two
      have HB := Lib.hid L.below
      clear L
      go_wp2_with fail
      go_ret
      exact ⟨rfl, HB.out⟩

end Go.Proofs.Ytakdiiccdkjjcab
end
