import Derived.Test.YtabfiafjcnilnaaFold2
import Derived.Test.YtabfiafjcnilnaaFold1
import Derived.Test.YtabfiafjcnilnaaFold0
import Derived.ProofKit
import Derived.SizedLaws
import Derived.OpenShut
import Derived.Lib.SmallJoins

section
namespace Go.Proofs.Ytabfiafjcnilnaa
open Go.RowKit

/-- Of the blocks that were there, those on the foot alone may have turned. -/
structure Chg (foot : Nat → Prop) (w w' : World) : Prop where
  os : w'.os = w.os
  tape : w'.tape = w.tape
  output : w'.output = w.output
  size : w.heap.size ≤ w'.heap.size
  block : ∀ k, k < w.heap.size → ¬ foot k → w'.heap[k]? = w.heap[k]?

theorem Chg.refl (foot : Nat → Prop) (w : World) : Chg foot w w := ⟨rfl, rfl, rfl, Nat.le_refl _, fun _ _ _ => rfl⟩
theorem Chg.trans {foot : Nat → Prop} {w w1 w2 : World} (h : Chg foot w w1) (k : Chg foot w1 w2) : Chg foot w w2 :=
  ⟨k.os.trans h.os, k.tape.trans h.tape, k.output.trans h.output, Nat.le_trans h.size k.size, fun i hi hf => (k.block i (Nat.lt_of_lt_of_le hi h.size) hf).trans (h.block i hi hf)⟩
theorem Chg.of_below {foot : Nat → Prop} {w w' : World} (h : Below w.heap.size w w') : Chg foot w w' := ⟨h.os, h.tape, h.output, h.size, fun k hk _ => h.block k hk⟩
theorem Chg.of_grown {foot : Nat → Prop} {w w' : World} {row : Option Nat} (h : w.grownBy w' row) (hr : ∀ k, row = some k → foot k) : Chg foot w w' :=
  ⟨h.os, h.tape, h.output, h.size, fun k hk hf => h.block k hk (fun e => hf (hr k e.symm))⟩
theorem Chg.mono {foot foot' : Nat → Prop} {w w' : World} (h : Chg foot w w') (hf : ∀ k, foot k → foot' k) : Chg foot' w w' :=
  ⟨h.os, h.tape, h.output, h.size, fun k hk hn => h.block k hk (fun e => hn (hf k e))⟩

/-- Something that lies on its own blocks. -/
structure Thing where
  foot : Nat → Prop
  holds : World → Prop
  stable : ∀ w w' : World, w.heap.size ≤ w'.heap.size → (∀ k, foot k → w'.heap[k]? = w.heap[k]?) → holds w → holds w'

structure Law (w0 : World) (ts : List Thing) (w : World) : Prop where
  below : Below w0.heap.size w0 w
  holds : ∀ t ∈ ts, t.holds w
  range : ∀ t ∈ ts, ∀ k, t.foot k → w0.heap.size ≤ k ∧ k < w.heap.size
  dis : ts.Pairwise fun a b => ∀ k, a.foot k → ¬ b.foot k

theorem Law.start (w : World) : Law w [] w := ⟨Below.refl _ _, by simp, by simp, by simp⟩

theorem Law.kept {w0 w w' : World} {ts : List Thing} (h : Law w0 ts w) (hb : Below w.heap.size w w') : Law w0 ts w' :=
  ⟨below_on h.below hb, fun t ht => t.stable w w' hb.size (fun k hk => hb.block k (h.range t ht k hk).2) (h.holds t ht), fun t ht k hk => ⟨(h.range t ht k hk).1, Nat.lt_of_lt_of_le (h.range t ht k hk).2 hb.size⟩, h.dis⟩

theorem Law.add {w0 w w' : World} {ts : List Thing} (h : Law w0 ts w) (hb : Below w.heap.size w w') (t : Thing) (ht : t.holds w') (hr : ∀ k, t.foot k → w.heap.size ≤ k ∧ k < w'.heap.size) : Law w0 (t :: ts) w' := by
  have hk := h.kept hb
  refine ⟨hk.below, ?_, ?_, ?_⟩
  · intro t' hm
    rcases List.mem_cons.1 hm with rfl | hm
    · exact ht
    · exact hk.holds t' hm
  · intro t' hm k hf
    rcases List.mem_cons.1 hm with rfl | hm
    · have := hr k hf
      have := h.below.size
      omega
    · exact hk.range t' hm k hf
  · refine List.pairwise_cons.2 ⟨fun t' hm k e1 e2 => ?_, h.dis⟩
    have := (hr k e1).1
    have := (h.range t' hm k e2).2
    omega

theorem Law.write {w0 w w' : World} {ts ts' : List Thing} {t : Thing} (h : Law w0 (ts ++ t :: ts') w) (hc : Chg t.foot w w') (t' : Thing) (hf : t'.foot = t.foot) (ht : t'.holds w') : Law w0 (ts ++ t' :: ts') w' := by
  have hd := h.dis
  rw [List.pairwise_append, List.pairwise_cons] at hd
  obtain ⟨d1, ⟨d2, d3⟩, d4⟩ := hd
  have hrt := h.range t (by simp)
  have keep : ∀ x, x ∈ ts ++ t :: ts' → (∀ k, x.foot k → ¬ t.foot k) → x.holds w' := fun x hm hn => x.stable w w' hc.size (fun k hk => hc.block k (h.range x hm k hk).2 (hn k hk)) (h.holds x hm)
  refine ⟨?_, ?_, ?_, ?_⟩
  · exact h.below.trans ⟨hc.os, hc.tape, hc.output, hc.size, fun k hk => hc.block k (by have := h.below.size; omega) (fun e => by have := (hrt k e).1; omega)⟩
  · intro x hm
    rcases List.mem_append.1 hm with hm | hm
    · exact keep x (by simp [hm]) (fun k hk e => d4 x hm t (by simp) k hk e)
    · rcases List.mem_cons.1 hm with rfl | hm
      · exact ht
      · exact keep x (by simp [hm]) (fun k hk e => d2 x hm k e hk)
  · intro x hm k hk
    rcases List.mem_append.1 hm with hm | hm
    · exact ⟨(h.range x (by simp [hm]) k hk).1, Nat.lt_of_lt_of_le (h.range x (by simp [hm]) k hk).2 hc.size⟩
    · rcases List.mem_cons.1 hm with rfl | hm
      · rw [hf] at hk
        exact ⟨(hrt k hk).1, Nat.lt_of_lt_of_le (hrt k hk).2 hc.size⟩
      · exact ⟨(h.range x (by simp [hm]) k hk).1, Nat.lt_of_lt_of_le (h.range x (by simp [hm]) k hk).2 hc.size⟩
  · rw [List.pairwise_append, List.pairwise_cons, hf]
    refine ⟨d1, ⟨d2, d3⟩, fun a ha b hb k e => ?_⟩
    rcases List.mem_cons.1 hb with rfl | hb
    · rw [hf]; exact d4 a ha t (by simp) k e
    · exact d4 a ha b (by simp [hb]) k e

theorem Law.hd {w0 w : World} {t : Thing} {ts : List Thing} (h : Law w0 (t :: ts) w) : t.holds w := h.holds t (by simp)
theorem Law.tl {w0 w : World} {t : Thing} {ts : List Thing} (h : Law w0 (t :: ts) w) : Law w0 ts w :=
  ⟨h.below, fun c hc => h.holds c (List.mem_cons_of_mem _ hc), fun c hc => h.range c (List.mem_cons_of_mem _ hc), (List.pairwise_cons.1 h.dis).2⟩
theorem Law.reads {w0 w : World} {ts : List Thing} (h : Law w0 ts w) {a : Option Addr} {len : Nat} {zs : List Int} (hr : Reads w0 a len zs) : Reads w a len zs := hr.kept h.below

theorem cell_of_block {w w' : World} {b o : Nat} (h : w'.heap[b]? = w.heap[b]?) : w'.cell? ⟨b, o, none⟩ = w.cell? ⟨b, o, none⟩ := World.cell?_of_block (w := w) h
theorem frozen_of_block {w w' : World} {b o : Nat} (h : w'.heap[b]? = w.heap[b]?) : w'.frozen? ⟨b, o, none⟩ = w.frozen? ⟨b, o, none⟩ := World.frozen?_of_block (w := w) h

/-- A block that is known whole. -/
def Has (w : World) (b : Nat) (cs : List Value) (t : TypeId) : Prop := w.heap[b]? = some (.cells cs.toArray t (0, 0))
theorem Has.row {w : World} {b : Nat} {cs : List Value} {t : TypeId} (h : Has w b cs t) : w.heap[b]? = some (.cells cs.toArray t (0, 0)) := h
theorem Has.cell {w : World} {b : Nat} {cs : List Value} {t : TypeId} (h : Has w b cs t) (j : Nat) : w.cell? ⟨b, j, none⟩ = cs[j]? := by
  rw [cell_of_row w b j cs.toArray t (0, 0) h]; simp
theorem Has.free {w : World} {b : Nat} {cs : List Value} {t : TypeId} (h : Has w b cs t) (j : Nat) : w.frozen? ⟨b, j, none⟩ = false := frozen_of_row w b j cs.toArray t h
theorem Has.lt {w : World} {b : Nat} {cs : List Value} {t : TypeId} (h : Has w b cs t) : b < w.heap.size := (Array.getElem?_eq_some_iff.1 h).1
theorem Has.kept {w w' : World} {b : Nat} {cs : List Value} {t : TypeId} (h : Has w b cs t) {B : Nat} (hb : Below B w w') (hB : b < B) : Has w' b cs t := (hb.block b hB).trans h
theorem Has.new (w : World) (cs : List Value) (t : TypeId) : Has (w.alloc (.cells cs.toArray t)) w.heap.size cs t := heap_alloc_new w _

theorem Has.eight {w : World} {b : Nat} {v0 v1 v2 v3 v4 v5 v6 v7 : Value} {t : TypeId} (h : Has w b [v0, v1, v2, v3, v4, v5, v6, v7] t) :
    w.cell? ⟨b, 0, none⟩ = some v0 ∧ w.cell? ⟨b, 1, none⟩ = some v1 ∧ w.cell? ⟨b, 2, none⟩ = some v2 ∧ w.cell? ⟨b, 3, none⟩ = some v3 ∧ w.cell? ⟨b, 4, none⟩ = some v4 ∧ w.cell? ⟨b, 5, none⟩ = some v5 ∧ w.cell? ⟨b, 6, none⟩ = some v6 ∧ w.cell? ⟨b, 7, none⟩ = some v7 ∧ ∀ o, w.frozen? ⟨b, o, none⟩ = false :=
  ⟨h.cell 0, h.cell 1, h.cell 2, h.cell 3, h.cell 4, h.cell 5, h.cell 6, h.cell 7, h.free⟩
theorem Has.three {w : World} {b : Nat} {v0 v1 v2 : Value} {t : TypeId} (h : Has w b [v0, v1, v2] t) :
    w.cell? ⟨b, 0, none⟩ = some v0 ∧ w.cell? ⟨b, 1, none⟩ = some v1 ∧ w.cell? ⟨b, 2, none⟩ = some v2 ∧ ∀ o, w.frozen? ⟨b, o, none⟩ = false :=
  ⟨h.cell 0, h.cell 1, h.cell 2, h.free⟩

theorem Has.set {w : World} {b : Nat} {cs : List Value} {t : TypeId} (h : Has w b cs t) (j : Nat) (v : Value) : Has (w.setCell ⟨b, j, none⟩ v) b (cs.set j v) t := by
  have := heap_setCell_same w b j cs.toArray t v h
  unfold Has
  rw [this]
  simp
theorem Has.other {w : World} {b : Nat} {cs : List Value} {t : TypeId} (h : Has w b cs t) (a : Addr) (ha : a.block ≠ b) (v : Value) : Has (w.setCell a v) b cs t := by
  unfold Has
  rw [heap_setCell_other w a b v (fun e => ha e.symm)]
  exact h
theorem Has.drew {w : World} {b : Nat} {cs : List Value} {t : TypeId} (h : Has w b cs t) : Has w.drew b cs t := h

/-- A block that is known whole, as a thing. -/
def tHas (n : Nat) (cs : List Value) (t : TypeId) : Thing :=
  ⟨fun k => k = n, fun w => Has w n cs t, fun _ _ _ hk h => (hk n rfl).trans h⟩

/-- A block of three cells. -/
def tBox (n : Nat) (x y z : Value) : Thing :=
  ⟨fun k => k = n, fun w => Box w n x y z, fun _ _ hs hk h => ⟨Nat.lt_of_lt_of_le h.lt hs, (cell_of_block (hk n rfl)).trans h.c0, (cell_of_block (hk n rfl)).trans h.c1, (cell_of_block (hk n rfl)).trans h.c2, fun o => (frozen_of_block (hk n rfl)).trans (h.fr o)⟩⟩

/-- A slice of ints. -/
def tOwn (s : Value) (xs : List Int) : Thing :=
  ⟨fun k => s.ownBlock = some k, fun w => Own w 0 s xs, fun _ _ _ hk h => by
    refine ⟨h.1, ?_⟩
    rcases h.2 with h2 | ⟨g, cap, cur, hv, hg, hh, r⟩
    · exact .inl h2
    · exact .inr ⟨g, cap, cur, hv, hg, by rw [hk g (by rw [hv]; rfl)]; exact hh, r⟩⟩

theorem Law.box {w0 w : World} {ts : List Thing} (h : Law w0 ts w) (x y z : Value) (t : TypeId) : Law w0 (tBox w.heap.size x y z :: ts) (w.alloc (.cells #[x, y, z] t)) :=
  h.add (below_new _) (tBox w.heap.size x y z) (Box.new w x y z t) (fun k hk => by
    have hk : k = w.heap.size := hk
    subst hk
    simp)

theorem Law.has {w0 w : World} {ts : List Thing} (h : Law w0 ts w) (cs : List Value) (t : TypeId) : Law w0 (tHas w.heap.size cs t :: ts) (w.alloc (.cells cs.toArray t)) :=
  h.add (below_new _) (tHas w.heap.size cs t) (Has.new w cs t) (fun k hk => by
    have hk : k = w.heap.size := hk
    subst hk
    simp)
theorem Law.ownHas {w0 w : World} {n : Nat} {cs : List Value} {t : TypeId} {ts : List Thing} (h : Law w0 (tHas n cs t :: ts) w) : Has w n cs t := h.hd
theorem Law.setHas {w0 w : World} {ts ts' : List Thing} {n : Nat} {cs : List Value} {t : TypeId} (h : Law w0 (ts ++ tHas n cs t :: ts') w) (j : Nat) (v : Value) : Law w0 (ts ++ tHas n (cs.set j v) t :: ts') (w.setCell ⟨n, j, none⟩ v) := by
  have hh : Has w n cs t := h.holds (tHas n cs t) (by simp)
  exact h.write (t := tHas n cs t) (show Chg (tHas n cs t).foot w (w.setCell ⟨n, j, none⟩ v) from ⟨rfl, rfl, rfl, by simp [World.setCell], fun k _ hf => Below.heap_setCell w ⟨n, j, none⟩ v k (fun e => hf e)⟩) (tHas n (cs.set j v) t) rfl (hh.set j v)

theorem own_lt {w : World} {lo : Nat} {v : Value} {xs : List Int} (h : Own w lo v xs) : ∀ k, v.ownBlock = some k → lo ≤ k ∧ k < w.heap.size := World.ownsRow.lt h

theorem Law.own {w0 w w' : World} {ts : List Thing} (h : Law w0 ts w) (hb : Below w.heap.size w w') {s : Value} {xs : List Int} (hs : Own w' w.heap.size s xs) : Law w0 (tOwn s xs :: ts) w' :=
  h.add hb (tOwn s xs) (hs.lower (Nat.zero_le _)) (fun k hk => own_lt hs k hk)

theorem Law.own' {w0 w w' : World} {ts : List Thing} (h : Law w0 ts w) (hb : Below w.heap.size w w') {s : Value} {xs ys : List Int} (hs : Own w' w.heap.size s xs) (he : ys = xs) : Law w0 (tOwn s ys :: ts) w' := by
  subst he
  exact h.own hb hs

theorem Law.ownBox {w0 w : World} {n : Nat} {x y z : Value} {ts : List Thing} (h : Law w0 (tBox n x y z :: ts) w) : Box w n x y z := h.hd
theorem Law.ownInts {w0 w : World} {s : Value} {xs : List Int} {ts : List Thing} (h : Law w0 (tOwn s xs :: ts) w) : Own w 0 s xs := h.hd

theorem Law.ne_box {w0 w : World} {s : Value} {xs : List Int} {n : Nat} {x y z : Value} {ts : List Thing} (h : Law w0 (tOwn s xs :: ts) w) (hm : tBox n x y z ∈ ts) : s.ownBlock ≠ some n :=
  fun e => (List.pairwise_cons.1 h.dis).1 _ hm n e rfl
theorem Law.ownLo {w0 w : World} {s : Value} {xs : List Int} {ts : List Thing} (h : Law w0 (tOwn s xs :: ts) w) : Own w w0.heap.size s xs := by
  have hO := h.ownInts
  have hr := h.range _ (List.mem_cons_self ..)
  refine ⟨hO.1, ?_⟩
  rcases hO.2 with h1 | ⟨g, cap, cur, e, hb, r⟩
  · exact .inl h1
  · exact .inr ⟨g, cap, cur, e, (hr g (show s.ownBlock = some g by rw [e]; rfl)).1, r⟩
/-- A board is laid in its result's block, and handed back. -/
theorem Law.fin3 {w0 w : World} {s : Value} {xs : List Int} {n : Nat} {x y z : Value} {ts : List Thing} (h : Law w0 (tOwn s xs :: ts) w) (hm : tBox n x y z ∈ ts) (u0 u1 u2 : Value) :
    Own (((w.setCell ⟨n, 0, none⟩ u0).setCell ⟨n, 1, none⟩ u1).setCell ⟨n, 2, none⟩ u2) w0.heap.size s xs ∧ Below w0.heap.size w0 (((w.setCell ⟨n, 0, none⟩ u0).setCell ⟨n, 1, none⟩ u1).setCell ⟨n, 2, none⟩ u2) := by
  have hne := h.ne_box hm
  have hr := (h.range _ (List.mem_cons_of_mem _ hm) n rfl).1
  exact ⟨((h.ownLo.off hne _).off hne _).off hne _, ((h.below.setCell hr _).setCell hr _).setCell hr _⟩

/-- One of the slices is marked. -/
theorem Law.mark {w0 w w' : World} {ts ts' : List Thing} {s : Value} {xs ys : List Int} (h : Law w0 (ts ++ tOwn s xs :: ts') w) (hg : w.grownBy w' s.ownBlock) {lo : Nat} (hs : Own w' lo s ys) : Law w0 (ts ++ tOwn s ys :: ts') w' :=
  h.write (Chg.of_grown hg (fun _ e => e)) (tOwn s ys) rfl (hs.lower (Nat.zero_le _))

/-- One number of one of the slices is written. -/
theorem Law.store {w0 w : World} {ts ts' : List Thing} {g n cap : Nat} {xs : List Int} (h : Law w0 (ts ++ tOwn (.slice (some ⟨g, 0, none⟩) n cap) xs :: ts') w)
    (hn : xs.length = n) (j : Nat) (x : Int) : Law w0 (ts ++ tOwn (.slice (some ⟨g, 0, none⟩) n cap) (xs.set j x) :: ts') (w.setCell ⟨g, j, none⟩ (.int .i64 x)) := by
  have hO : Own w 0 (.slice (some ⟨g, 0, none⟩) n cap) xs := h.holds (tOwn _ xs) (by simp)
  refine h.mark ?_ (own_store hO hn j x)
  subst hn
  exact (World.ownsRow.stored hO j (.int .i64 x)).2
theorem Law.drew {w0 w : World} {ts : List Thing} (h : Law w0 ts w) : Law w0 ts w.drew := h.kept (Below.refl _ _).drew

/-- Two slices at once. -/
theorem Law.own2 {w0 w w' : World} {ts : List Thing} (h : Law w0 ts w) (hb : Below w.heap.size w w') {s s2 : Value} {xs ys : List Int} (hs : Own w' w.heap.size s xs) (hs2 : Own w' w.heap.size s2 ys)
    (hd : ∀ k, s.ownBlock = some k → s2.ownBlock ≠ some k) : Law w0 (tOwn s xs :: tOwn s2 ys :: ts) w' := by
  have h2 := h.own hb hs2
  refine ⟨h2.below, ?_, ?_, List.pairwise_cons.2 ⟨?_, h2.dis⟩⟩
  · intro t hm
    rcases List.mem_cons.1 hm with rfl | hm
    · exact hs.lower (Nat.zero_le _)
    · exact h2.holds t hm
  · intro t hm k hk
    rcases List.mem_cons.1 hm with rfl | hm
    · have := own_lt hs k hk
      have := h.below.size
      omega
    · exact h2.range t hm k hk
  · intro t hm k e1 e2
    rcases List.mem_cons.1 hm with rfl | hm
    · exact hd k e1 e2
    · have := (own_lt hs k e1).1
      have := (h.range t hm k e2).2
      omega

theorem eqIntS_same (xs : List Int) (lo lo' : Nat) (s s' : Value) (w : World) (hx : xs.length ≤ 1048576) (h1 : Own w lo s xs) (h2 : Own w lo' s' xs) :
    Calls Try.prog 13 #[s, s'] w fun e w' => e = .returned (.bool true) ∧ Below w.heap.size w w' := by
  obtain ⟨a, p, rfl, r1⟩ := h1.reads
  obtain ⟨a', p', rfl, r2⟩ := h2.reads
  refine (eqIntS_any a a' p p' xs xs w hx hx r1 r2).mono fun e w' ⟨he, hd⟩ => ⟨?_, hd.below⟩
  rw [he]
  simp

theorem heldIntS_below (lo : Nat) (v : Value) (n : Nat) (m : Int) (w : World) (hn : n ≤ 1048576) (h0 : 0 ≤ m) (h1 : m ≤ 4294967296) (hO : Own w lo v (run m n)) :
    Calls Try.prog 24 #[v, .int .i64 m] w fun e w' => e = .returned (.int .i64 (m + n)) ∧ Below w.heap.size w w' :=
  (heldIntS_any lo v n m w hn h0 h1 hO).mono fun _ _ h => ⟨h.1, h.2.below⟩

/-- What is there behind k stores, one behind the other: the new numbers up to k, the old ones from there on. -/
def over (ys xs : List Int) (k : Nat) : List Int := ys.take k ++ xs.drop k
theorem over_zero (ys xs : List Int) : over ys xs 0 = xs := by simp [over]
theorem over_full (ys xs : List Int) (n : Nat) (hy : ys.length = n) (hx : xs.length = n) : over ys xs n = ys := by
  subst hy
  simp only [over, List.take_length]
  rw [List.drop_eq_nil_of_le (by omega), List.append_nil]
theorem over_len (ys xs : List Int) (k n : Nat) (hy : ys.length = n) (hx : xs.length = n) (hk : k ≤ n) : (over ys xs k).length = n := by simp [over]; omega
theorem over_set (ys xs : List Int) (k n : Nat) (hy : ys.length = n) (hx : xs.length = n) (hk : k < n) (y : Int) (he : ys.getD k 0 = y) : (over ys xs k).set k y = over ys xs (k + 1) := by
  subst he
  unfold over
  have l : (ys.take k).length = k := by simp; omega
  rw [List.set_append, if_neg (by omega), l, Nat.sub_self, List.drop_eq_getElem_cons (by omega : k < xs.length), List.set_cons_zero, List.take_succ_eq_append_getElem (by omega : k < ys.length), List.append_assoc]
  simp [List.getD, show k < ys.length by omega]
theorem over_get (ys xs : List Int) (k n : Nat) (hy : ys.length = n) (hx : xs.length = n) (hk : k < n) : (over ys xs k).getD k 0 = xs.getD k 0 := by
  unfold over
  rw [List.getD_eq_getElem?_getD, List.getElem?_append_right (by simp; omega), List.getElem?_drop, List.getD_eq_getElem?_getD]
  congr 2
  simp
  omega

end Go.Proofs.Ytabfiafjcnilnaa
end

section
namespace Go.Proofs.Ytabfiafjcnilnaa
open Go.RowKit

theorem Law.sub {w0 w : World} {ts ts' : List Thing} (h : Law w0 ts w) (hs : ts'.Sublist ts) : Law w0 ts' w :=
  ⟨h.below, fun t ht => h.holds t (hs.subset ht), fun t ht => h.range t (hs.subset ht), h.dis.sublist hs⟩
theorem Law.swap {w0 w : World} {a b : Thing} {ts : List Thing} (h : Law w0 (a :: b :: ts) w) : Law w0 (b :: a :: ts) w := by
  have hm : ∀ t, t ∈ b :: a :: ts → t ∈ a :: b :: ts := fun t ht => by
    rcases List.mem_cons.1 ht with rfl | ht
    · simp
    · rcases List.mem_cons.1 ht with rfl | ht
      · simp
      · simp [ht]
  refine ⟨h.below, fun t ht => h.holds t (hm t ht), fun t ht => h.range t (hm t ht), ?_⟩
  have := h.dis
  simp only [List.pairwise_cons] at this ⊢
  obtain ⟨h1, h2, h3⟩ := this
  refine ⟨fun c hc k e => ?_, fun c hc => h1 c (by simp [hc]), h3⟩
  rcases List.mem_cons.1 hc with rfl | hc
  · exact fun e2 => h1 b (by simp) k e2 e
  · exact h2 c hc k e
theorem Law.boxOf {w0 w : World} {n : Nat} {x y z : Value} {ts : List Thing} (h : Law w0 ts w) (hm : tBox n x y z ∈ ts) : Box w n x y z := h.holds _ hm
theorem Law.ownOf {w0 w : World} {s : Value} {xs : List Int} {ts : List Thing} (h : Law w0 ts w) (hm : tOwn s xs ∈ ts) : Own w 0 s xs := h.holds _ hm
theorem Law.setBox {w0 w : World} {ts ts' : List Thing} {n : Nat} {x y z : Value} (h : Law w0 (ts ++ tBox n x y z :: ts') w) (x' y' z' : Value) :
    Law w0 (ts ++ tBox n x' y' z' :: ts') (((w.setCell ⟨n, 0, none⟩ x').setCell ⟨n, 1, none⟩ y').setCell ⟨n, 2, none⟩ z') := by
  have hb : Box w n x y z := h.holds (tBox n x y z) (by simp)
  have hs : ∀ (w : World) (j : Nat) (v : Value) (k : Nat), k ≠ n → (w.setCell ⟨n, j, none⟩ v).heap[k]? = w.heap[k]? := fun w j v k hk => Below.heap_setCell w ⟨n, j, none⟩ v k (fun e => hk e)
  refine h.write (t := tBox n x y z) (show Chg (tBox n x y z).foot w (((w.setCell ⟨n, 0, none⟩ x').setCell ⟨n, 1, none⟩ y').setCell ⟨n, 2, none⟩ z') from ⟨rfl, rfl, rfl, by simp [World.setCell], fun k _ hf => ?_⟩) (tBox n x' y' z') rfl ?_
  · have hk : k ≠ n := fun e => hf e
    rw [hs _ _ _ k hk, hs _ _ _ k hk, hs _ _ _ k hk]
  · refine ⟨by have := hb.lt; simp [World.setCell]; omega, ?_, ?_, ?_, fun o => by rw [World.frozen?_setCell, World.frozen?_setCell, World.frozen?_setCell]; exact hb.fr o⟩
    · rw [World.cell?_setCell_other _ _ _ _ (by simp), World.cell?_setCell_other _ _ _ _ (by simp)]
      exact World.cell?_setCell_same _ _ _ hb.c0
    · rw [World.cell?_setCell_other _ _ _ _ (by simp)]
      refine World.cell?_setCell_same _ _ _ (u := y) ?_
      rw [World.cell?_setCell_other _ _ _ _ (by simp)]
      exact hb.c1
    · refine World.cell?_setCell_same _ _ _ (u := z) ?_
      rw [World.cell?_setCell_other _ _ _ _ (by simp), World.cell?_setCell_other _ _ _ _ (by simp)]
      exact hb.c2
/-- What is made behind a law's state comes on top of it. -/
theorem Law.join {w0 w w' : World} {ts ts' : List Thing} (h : Law w0 ts w) (k : Law w ts' w') : Law w0 (ts' ++ ts) w' := by
  have hk := h.kept k.below
  refine ⟨hk.below, fun t ht => ?_, fun t ht i hi => ?_, ?_⟩
  · rcases List.mem_append.1 ht with ht | ht
    · exact k.holds t ht
    · exact hk.holds t ht
  · rcases List.mem_append.1 ht with ht | ht
    · have := k.range t ht i hi
      have := h.below.size
      omega
    · exact hk.range t ht i hi
  · rw [List.pairwise_append]
    refine ⟨k.dis, h.dis, fun a ha b hb i e1 e2 => ?_⟩
    have := (k.range a ha i e1).1
    have := (h.range b hb i e2).2
    omega

end Go.Proofs.Ytabfiafjcnilnaa
end

section
namespace Go.Proofs.Ytabfiafjcnilnaa
open Go.ChangeShapes Go.WideShapes Go.ChangeAt Go.RowKit Go.Joins

set_option maxRecDepth 100000 in
theorem Try.own : ownKnob Try.prog.godebug = none := by kernel_rfl
set_option maxRecDepth 100000 in
theorem Try.laidOut : laidOutB Try.prog = true := by kernel_rfl
set_option maxRecDepth 100000 in
theorem Try.cellsI : Try.prog.cellsOf 3 = 1 := by kernel_rfl
set_option maxRecDepth 100000 in
/-- A slice of ints that came in. -/
theorem reads_of {H : Type} {enc : TypeId × Value → H} {W : World} {a0 : Option Addr} {len cap fuel : Nat} {x : DataW H × List MemPlace}
    (hf : DataW.trod enc Try.prog W 0 (fun _ => true) true fuel 22 [.slice a0 len cap] = some x) : len ≤ 9223372036854775807 ∧ ∃ zs, Reads W a0 len zs := by
  rcases open_ints Try.underlying22 Try.underlying3 Try.cellsI hf with ⟨hcs, hx⟩ | ⟨a, len', cap', zs, hcs, _, hl, hm, hz, hx, hcell, hwz⟩
  · simp at hcs
    obtain ⟨rfl, rfl, rfl⟩ := hcs
    exact ⟨by omega, [], rfl, .inl rfl⟩
  · simp at hcs
    obtain ⟨rfl, rfl, rfl⟩ := hcs
    simp only [if_true] at hz
    unfold maxLen at hm
    refine ⟨by omega, zs.take len, by simp; omega, ?_⟩
    by_cases h0 : len = 0
    · exact .inl h0
    · obtain ⟨b, off, spot⟩ := a
      have hspot : spot = none := by simpa [Addr.add] using World.cell?_spot (hcell 0 (by omega))
      subst hspot
      refine .inr ⟨b, off, rfl, World.block_lt_of_cell? _ _ (by have := hcell 0 (by omega); simpa [Addr.add] using this), fun j hj => ?_⟩
      have := hcell j (by omega)
      rw [add_plain] at this
      rw [this]
      simp [List.getD, hj]

end Go.Proofs.Ytabfiafjcnilnaa
end
