import Derived.Test.YtcacechmgdfckaaFold4
import Derived.Test.YtcacechmgdfckaaFold0
import Derived.ProofKit
import Derived.SizedLaws
import Derived.OpenShut
import Derived.Lib.SmallJoins
import Derived.Test.YtcacechmgdfckaaFold1

section
namespace Go.Proofs.Ytcacechmgdfckaa
open Go.RowKit

theorem Law.sub {w0 w : World} {ts ts' : List Thing} (h : Law w0 ts w) (hs : ts'.Sublist ts) : Law w0 ts' w :=
  ⟨h.below, fun t ht => h.holds t (hs.subset ht), fun t ht => h.range t (hs.subset ht), h.dis.sublist hs⟩
theorem Law.swap {w0 w : World} {a b : Thing} {ts : List Thing} (h : Law w0 (a :: b :: ts) w) : Law w0 (b :: a :: ts) w := by
  have hm : ∀ t, t ∈ b :: a :: ts → t ∈ a :: b :: ts := fun t ht => by
    rcases List.mem_cons.1 ht with rfl | ht
    · simp
    · rcases List.mem_cons.1 ht with rfl | ht
      · simp
      · simp [ht]
  refine ⟨h.below, fun t ht => h.holds t (hm t ht), fun t ht => h.range t (hm t ht), ?_⟩
  have := h.dis
  simp only [List.pairwise_cons] at this ⊢
  obtain ⟨h1, h2, h3⟩ := this
  refine ⟨fun c hc k e => ?_, fun c hc => h1 c (by simp [hc]), h3⟩
  rcases List.mem_cons.1 hc with rfl | hc
  · exact fun e2 => h1 b (by simp) k e2 e
  · exact h2 c hc k e
theorem Law.boxOf {w0 w : World} {n : Nat} {x y z : Value} {ts : List Thing} (h : Law w0 ts w) (hm : tBox n x y z ∈ ts) : Box w n x y z := h.holds _ hm
theorem Law.ownOf {w0 w : World} {s : Value} {xs : List Int} {ts : List Thing} (h : Law w0 ts w) (hm : tOwn s xs ∈ ts) : Own w 0 s xs := h.holds _ hm
theorem Law.setBox {w0 w : World} {ts ts' : List Thing} {n : Nat} {x y z : Value} (h : Law w0 (ts ++ tBox n x y z :: ts') w) (x' y' z' : Value) :
    Law w0 (ts ++ tBox n x' y' z' :: ts') (((w.setCell ⟨n, 0, none⟩ x').setCell ⟨n, 1, none⟩ y').setCell ⟨n, 2, none⟩ z') := by
  have hb : Box w n x y z := h.holds (tBox n x y z) (by simp)
  have hs : ∀ (w : World) (j : Nat) (v : Value) (k : Nat), k ≠ n → (w.setCell ⟨n, j, none⟩ v).heap[k]? = w.heap[k]? := fun w j v k hk => Below.heap_setCell w ⟨n, j, none⟩ v k (fun e => hk e)
  refine h.write (t := tBox n x y z) (show Chg (tBox n x y z).foot w (((w.setCell ⟨n, 0, none⟩ x').setCell ⟨n, 1, none⟩ y').setCell ⟨n, 2, none⟩ z') from ⟨rfl, rfl, rfl, by simp [World.setCell], fun k _ hf => ?_⟩) (tBox n x' y' z') rfl ?_
  · have hk : k ≠ n := fun e => hf e
    rw [hs _ _ _ k hk, hs _ _ _ k hk, hs _ _ _ k hk]
  · refine ⟨by have := hb.lt; simp [World.setCell]; omega, ?_, ?_, ?_, fun o => by rw [World.frozen?_setCell, World.frozen?_setCell, World.frozen?_setCell]; exact hb.fr o⟩
    · rw [World.cell?_setCell_other _ _ _ _ (by simp), World.cell?_setCell_other _ _ _ _ (by simp)]
      exact World.cell?_setCell_same _ _ _ hb.c0
    · rw [World.cell?_setCell_other _ _ _ _ (by simp)]
      refine World.cell?_setCell_same _ _ _ (u := y) ?_
      rw [World.cell?_setCell_other _ _ _ _ (by simp)]
      exact hb.c1
    · refine World.cell?_setCell_same _ _ _ (u := z) ?_
      rw [World.cell?_setCell_other _ _ _ _ (by simp), World.cell?_setCell_other _ _ _ _ (by simp)]
      exact hb.c2
/-- What is made behind a law's state comes on top of it. -/
theorem Law.join {w0 w w' : World} {ts ts' : List Thing} (h : Law w0 ts w) (k : Law w ts' w') : Law w0 (ts' ++ ts) w' := by
  have hk := h.kept k.below
  refine ⟨hk.below, fun t ht => ?_, fun t ht i hi => ?_, ?_⟩
  · rcases List.mem_append.1 ht with ht | ht
    · exact k.holds t ht
    · exact hk.holds t ht
  · rcases List.mem_append.1 ht with ht | ht
    · have := k.range t ht i hi
      have := h.below.size
      omega
    · exact hk.range t ht i hi
  · rw [List.pairwise_append]
    refine ⟨k.dis, h.dis, fun a ha b hb i e1 e2 => ?_⟩
    have := (k.range a ha i e1).1
    have := (h.range b hb i e2).2
    omega

end Go.Proofs.Ytcacechmgdfckaa
end

section
namespace Go.Proofs.Ytcacechmgdfckaa
open Go.ChangeShapes Go.WideShapes Go.ChangeAt Go.RowKit Go.Joins

set_option maxRecDepth 100000 in
theorem Try.own : ownKnob Try.prog.godebug = none := by kernel_rfl
set_option maxRecDepth 100000 in
theorem Try.laidOut : laidOutB Try.prog = true := by kernel_rfl
set_option maxRecDepth 100000 in
theorem Try.cellsI : Try.prog.cellsOf 3 = 1 := by kernel_rfl
set_option maxRecDepth 100000 in
theorem Try.cellsLB : Try.prog.cellsOf 24 = 3 := by kernel_rfl

set_option maxRecDepth 100000 in
/-- A slice of ints that came in. -/
theorem reads_of {H : Type} {enc : TypeId × Value → H} {W : World} {a0 : Option Addr} {len cap fuel : Nat} {x : DataW H × List MemPlace}
    (hf : DataW.trod enc Try.prog W 0 (fun _ => true) true fuel 22 [.slice a0 len cap] = some x) : len ≤ 9223372036854775807 ∧ ∃ zs, Reads W a0 len zs := by
  rcases open_ints Try.underlying22 Try.underlying3 Try.cellsI hf with ⟨hcs, hx⟩ | ⟨a, len', cap', zs, hcs, _, hl, hm, hz, hx, hcell, hwz⟩
  · simp at hcs
    obtain ⟨rfl, rfl, rfl⟩ := hcs
    exact ⟨by omega, [], rfl, .inl rfl⟩
  · simp at hcs
    obtain ⟨rfl, rfl, rfl⟩ := hcs
    simp only [if_true] at hz
    unfold maxLen at hm
    refine ⟨by omega, zs.take len, by simp; omega, ?_⟩
    by_cases h0 : len = 0
    · exact .inl h0
    · obtain ⟨b, off, spot⟩ := a
      have hspot : spot = none := by simpa [Addr.add] using World.cell?_spot (hcell 0 (by omega))
      subst hspot
      refine .inr ⟨b, off, rfl, World.block_lt_of_cell? _ _ (by have := hcell 0 (by omega); simpa [Addr.add] using this), fun j hj => ?_⟩
      have := hcell j (by omega)
      rw [add_plain] at this
      rw [this]
      simp [List.getD, hj]

set_option maxRecDepth 100000 in
theorem open_board {H : Type} {enc : TypeId × Value → H} {W : World} {base : Nat} {v : Value} {d : DataW H} {p : List MemPlace}
    (hv : Value.okWide Try.prog W .any base 24 v) (h : DataW.Trod enc Try.prog W 0 (fun _ => true) true 24 v d p) :
    ∃ (r c : Int) (a : Option Addr) (len cap : Nat) (zs : List Int), v = .agg #[.int .i64 r, .int .i64 c, .slice a len cap] ∧ len ≤ 9223372036854775807 ∧ Reads W a len zs := by
  obtain ⟨c0, c1, c2, y0, y1, y2, m, rfl, rfl, rfl, hy0, hy1, hy2⟩ := open_agg3 Try.underlying24 (by kernel_rfl) Try.cellsLB hv h
  obtain ⟨r, e0, rfl, w0⟩ := DataW.trod_int Try.underlying3 hy0
  obtain ⟨c, e1, rfl, w1⟩ := DataW.trod_int Try.underlying3 hy1
  obtain ⟨a, len, cap, e2⟩ := slice_form Try.underlying22 hy2
  simp at e0 e1 e2
  subst e0 e1 e2
  obtain ⟨hl, zs, hr⟩ := reads_of hy2
  exact ⟨r, c, a, len, cap, zs, rfl, hl, hr⟩

end Go.Proofs.Ytcacechmgdfckaa
end

section
namespace Go.Proofs.Ytcacechmgdfckaa
open Go.RowKit

def plusAt (l : List Int) (p : Nat) (v : Int) : List Int := l.set p (l.getD p 0 + v)
theorem plusAt_len (l : List Int) (p : Nat) (v : Int) : (plusAt l p v).length = l.length := by simp [plusAt]
def Bd (K : Int) (l : List Int) : Prop := ∀ p, 0 ≤ l.getD p 0 ∧ l.getD p 0 ≤ K
theorem Bd.plus {K V : Int} {l : List Int} (h : Bd K l) (p : Nat) (v : Int) (h0 : 0 ≤ v) (h1 : v ≤ V) : Bd (K + V) (plusAt l p v) := by
  intro q
  have hq := h q
  have hp := h p
  unfold plusAt
  by_cases e : p = q
  · subst e
    by_cases hl : p < l.length
    · rw [List.getD_eq_getElem?_getD, List.getElem?_set_self (by exact hl)]
      simp only [Option.getD_some]
      omega
    · rw [List.set_eq_of_length_le (by omega)]
      omega
  · have : (l.set p (l.getD p 0 + v)).getD q 0 = l.getD q 0 := by
      rw [List.getD_eq_getElem?_getD, List.getElem?_set_ne e, ← List.getD_eq_getElem?_getD]
    rw [this]
    omega
theorem Bd.mono {K K' : Int} {l : List Int} (h : Bd K l) (hk : K ≤ K') : Bd K' l := fun p => ⟨(h p).1, by have := (h p).2; omega⟩
/-- One row of the product. -/
def rowP (z : List Int) (x : Int) (i : Nat) (b : List Int) : Nat → List Int
  | 0 => z
  | j + 1 => plusAt (rowP z x i b j) (i + j) (x * b.getD j 0)
theorem rowP_len (z : List Int) (x : Int) (i : Nat) (b : List Int) (j : Nat) : (rowP z x i b j).length = z.length := by
  induction j with
  | zero => rfl
  | succ j ih => rw [rowP, plusAt_len, ih]
/-- The first rows of the product. -/
def allP (a b : List Int) : Nat → List Int
  | 0 => List.replicate (a.length + b.length - 1) 0
  | i + 1 => rowP (allP a b i) (a.getD i 0) i b b.length
theorem allP_len (a b : List Int) (i : Nat) : (allP a b i).length = a.length + b.length - 1 := by
  induction i with
  | zero => simp [allP]
  | succ i ih => rw [allP, rowP_len, ih]
theorem mul_bd (x y : Int) (hx : 0 ≤ x ∧ x ≤ 100000) (hy : 0 ≤ y ∧ y ≤ 100000) : 0 ≤ x * y ∧ x * y ≤ 10000000000 := by
  refine ⟨Int.mul_nonneg hx.1 hy.1, ?_⟩
  have := Int.mul_le_mul hx.2 hy.2 hy.1 (by decide)
  omega
theorem rowP_bd (z : List Int) (x : Int) (i : Nat) (b : List Int) (K : Int) (hz : Bd K z) (hx : 0 ≤ x ∧ x ≤ 100000) (hb : ∀ j, 0 ≤ b.getD j 0 ∧ b.getD j 0 ≤ 100000) (j : Nat) : Bd (K + j * 10000000000) (rowP z x i b j) := by
  induction j with
  | zero => exact hz.mono (by simp)
  | succ j ih =>
    have h := mul_bd x _ hx (hb j)
    exact (ih.plus (i + j) _ h.1 h.2).mono (by push_cast; omega)
theorem allP_bd (a b : List Int) (hb7 : b.length ≤ 7) (ha : ∀ j, 0 ≤ a.getD j 0 ∧ a.getD j 0 ≤ 100000) (hb : ∀ j, 0 ≤ b.getD j 0 ∧ b.getD j 0 ≤ 100000) (i : Nat) : Bd (i * 70000000000) (allP a b i) := by
  induction i with
  | zero =>
    intro p
    have : (List.replicate (a.length + b.length - 1) (0 : Int)).getD p 0 = 0 := by
      simp only [List.getD_eq_getElem?_getD, List.getElem?_replicate]
      split <;> rfl
    simp only [allP, this]
    simp
  | succ i ih => exact (rowP_bd _ _ i b _ ih (ha i) hb b.length).mono (by push_cast; omega)
theorem within_get {lo hi : Int} {xs : List Int} (h : within lo hi xs = true) (h0 : lo ≤ 0 ∧ 0 ≤ hi) (j : Nat) : lo ≤ xs.getD j 0 ∧ xs.getD j 0 ≤ hi := by
  by_cases hj : j < xs.length
  · rw [within, List.all_eq_true] at h
    have := h (xs.getD j 0) (by simp [List.getD, hj])
    simpa using this
  · rw [List.getD_eq_getElem?_getD, List.getElem?_eq_none (by omega)]
    exact h0
/-- May a list be multiplied? -/
def facB (xs : List Int) : Bool := inB 1 xs.length 7 && within 0 100000 xs
theorem facB_facts {xs : List Int} (h : facB xs = true) : (1 ≤ xs.length ∧ xs.length ≤ 7) ∧ ∀ j, 0 ≤ xs.getD j 0 ∧ xs.getD j 0 ≤ 100000 := by
  rw [facB, Bool.and_eq_true, inB_iff] at h
  exact ⟨by omega, within_get h.2 (by decide)⟩

/-- Rooks: numbers that are none below 0. -/
def rcnt (xs : List Int) : Nat := (xs.filter (fun x => decide (0 ≤ x))).length
theorem rcnt_le (xs : List Int) : rcnt xs ≤ xs.length := List.length_filter_le _ _
theorem rcnt_succ (xs : List Int) (k : Nat) (h : k < xs.length) : rcnt (xs.take (k + 1)) = rcnt (xs.take k) + if 0 ≤ xs.getD k 0 then 1 else 0 := by
  rw [List.take_succ_eq_append_getElem h, rcnt, List.filter_append, List.length_append]
  have e : xs.getD k 0 = xs[k] := by simp [List.getD, h]
  rw [e]
  unfold rcnt
  by_cases h2 : 0 ≤ xs[k] <;> simp [h2]
end Go.Proofs.Ytcacechmgdfckaa
end
