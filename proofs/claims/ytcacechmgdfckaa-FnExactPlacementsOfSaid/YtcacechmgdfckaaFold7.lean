import Derived.Test.YtcacechmgdfckaaFold6
import Derived.Test.YtcacechmgdfckaaFold4

section
namespace Go.Proofs.Ytcacechmgdfckaa
open Go.RowKit Go.WideShapes

theorem own_of_has {w : World} {lo g n : Nat} {xs : List Int} (h : Has w g (xs.map (Value.int .i64)) 3) (hl : lo ≤ g) (hn : xs.length = n) (hm : n ≤ maxLen) : Own w lo (.slice (some ⟨g, 0, none⟩) n n) xs := by
  subst hn
  refine ⟨by simp, .inr ⟨g, xs.length, _, rfl, hl, h, Nat.le_refl _, hm, by simp, by simp [List.take_of_length_le]⟩⟩

theorem splice_all (n : Nat) (cs : List Value) (h : cs.length = n) (z : Value) : splice (List.replicate n z) 0 cs = cs := by
  simp [splice, h]

theorem made_eq (n : Nat) (z : Value) : madeCells #[z] n = (List.replicate n z).toArray := by
  rw [← toList_madeCells_one]

theorem own_made (W : World) (n g lo : Nat) (hg : g = W.heap.size) (hl : lo ≤ g) (hn : n ≤ 1048576) : Own (W.alloc (.cells (madeCells #[.int .i64 0] n) 3)) lo (.slice (some ⟨g, 0, none⟩) n n) (List.replicate n 0) := by
  subst hg
  refine own_of_has ?_ hl (by simp) (by unfold maxLen; omega)
  rw [made_eq, List.map_replicate]
  exact Has.new W _ _

theorem board_facts (n : Nat) (c m0 m1 m2 m3 m4 m5 : Int) (w w3 : World) (hw : w3 = (((w.alloc (.cells #[.int .i64 n, .int .i64 c, .int .i64 m0, .int .i64 m1, .int .i64 m2, .int .i64 m3, .int .i64 m4, .int .i64 m5] 48)).alloc (.cells #[.int .i64 0, .int .i64 0, .slice none 0 0] 29)).alloc (.cells (madeCells #[.int .i64 0] n) 3))) :
    Has w3 (w.heap.size + 1 + 1) (List.replicate n (.int .i64 0)) 3 ∧ Has w3 w.heap.size [.int .i64 n, .int .i64 c, .int .i64 m0, .int .i64 m1, .int .i64 m2, .int .i64 m3, .int .i64 m4, .int .i64 m5] 48 ∧ Has w3 (w.heap.size + 1) [.int .i64 0, .int .i64 0, .slice none 0 0] 29 ∧ Below w.heap.size w w3 ∧
    (∀ j v, (([m0, m1, m2, m3, m4, m5].take n).map (Value.int .i64))[j]? = some v → w3.cell? ((⟨w.heap.size, 2, none⟩ : Addr).add j) = some v) := by
  have H1 := Has.new w [.int .i64 n, .int .i64 c, .int .i64 m0, .int .i64 m1, .int .i64 m2, .int .i64 m3, .int .i64 m4, .int .i64 m5] 48
  have b1 := below_new (w := w) (.cells #[.int .i64 n, .int .i64 c, .int .i64 m0, .int .i64 m1, .int .i64 m2, .int .i64 m3, .int .i64 m4, .int .i64 m5] 48)
  generalize hw1 : w.alloc (.cells #[.int .i64 n, .int .i64 c, .int .i64 m0, .int .i64 m1, .int .i64 m2, .int .i64 m3, .int .i64 m4, .int .i64 m5] 48) = w1 at *
  have H2 := Has.new w1 [.int .i64 0, .int .i64 0, .slice none 0 0] 29
  have b2 := below_new (w := w1) (.cells #[.int .i64 0, .int .i64 0, .slice none 0 0] 29)
  have H12 := H1.kept b2 H1.lt
  generalize hw2 : w1.alloc (.cells #[.int .i64 0, .int .i64 0, .slice none 0 0] 29) = w2 at *
  have H3 : Has (w2.alloc (.cells (madeCells #[.int .i64 0] n) 3)) w2.heap.size (List.replicate n (.int .i64 0)) 3 := by rw [made_eq]; exact Has.new w2 _ _
  have b3 := below_new (w := w2) (.cells (madeCells #[.int .i64 0] n) 3)
  have H13 := H12.kept b3 H12.lt
  have H23 := H2.kept b3 H2.lt
  have hz1 : w1.heap.size = w.heap.size + 1 := by rw [← hw1]; simp
  have hz2 : w2.heap.size = w.heap.size + 1 + 1 := by rw [← hw2, World.size_alloc, hz1]
  rw [← hw] at H3 H13 H23 b3
  rw [hz2] at H3
  rw [hz1] at H23
  refine ⟨H3, H13, H23, below_on (below_on b1 b2) b3, fun j v hj => ?_⟩
  rw [add_plain, H13.cell]
  rw [List.map_take, List.getElem?_take] at hj
  split at hj
  · rw [show 2 + j = j + 2 by omega]; exact hj
  · cases hj

end Go.Proofs.Ytcacechmgdfckaa
end

section
namespace Go.Proofs.Ytcacechmgdfckaa
open Go.RowKit

/-- w0: where the law began; bs: blocks of three cells; os: slices of the law's own, no two in one block. -/
structure Env (w0 : World) (bs : List (Nat × Value × Value × Value)) (os : List (Value × List Int)) (w : World) : Prop where
  below : Below w0.heap.size w0 w
  boxes : ∀ b ∈ bs, w0.heap.size ≤ b.1 ∧ Box w b.1 b.2.1 b.2.2.1 b.2.2.2
  owns : ∀ o ∈ os, Own w w0.heap.size o.1 o.2
  dis : os.Pairwise fun x y => ∀ k, x.1.ownBlock = some k → y.1.ownBlock ≠ some k
  disb : ∀ o ∈ os, ∀ b ∈ bs, o.1.ownBlock ≠ some b.1

theorem Env.start (w : World) : Env w [] [] w := ⟨Below.refl _ _, by simp, by simp, by simp, by simp⟩

theorem Env.kept {w0 w w' : World} {bs : List (Nat × Value × Value × Value)} {os : List (Value × List Int)} (h : Env w0 bs os w) (hb : Below w.heap.size w w') : Env w0 bs os w' :=
  ⟨below_on h.below hb, fun b hm => ⟨(h.boxes b hm).1, (h.boxes b hm).2.kept hb⟩, fun o hm => (h.owns o hm).kept hb, h.dis, h.disb⟩

theorem Env.own {w0 w w' : World} {bs : List (Nat × Value × Value × Value)} {os : List (Value × List Int)} (h : Env w0 bs os w) (hb : Below w.heap.size w w') {s : Value} {xs : List Int}
    (hs : Own w' w.heap.size s xs) : Env w0 bs ((s, xs) :: os) w' := by
  have hk := h.kept hb
  refine ⟨hk.below, hk.boxes, ?_, ?_, ?_⟩
  · intro o hm
    rcases List.mem_cons.1 hm with rfl | hm
    · exact hs.lower h.below.size
    · exact hk.owns o hm
  · refine List.pairwise_cons.2 ⟨fun o hm k e1 e2 => ?_, h.dis⟩
    have := (own_lt hs k e1).1
    have := (own_lt (h.owns o hm) k e2).2
    omega
  · intro o hm b hb2 e
    rcases List.mem_cons.1 hm with rfl | hm
    · have := (own_lt hs b.1 e).1
      have := (h.boxes b hb2).2.lt
      omega
    · exact h.disb o hm b hb2 e

theorem Env.box {w0 w : World} {bs : List (Nat × Value × Value × Value)} {os : List (Value × List Int)} (h : Env w0 bs os w) (x y z : Value) (t : TypeId) :
    Env w0 ((w.heap.size, x, y, z) :: bs) os (w.alloc (.cells #[x, y, z] t)) := by
  have hk := h.kept (below_new (.cells #[x, y, z] t))
  refine ⟨hk.below, ?_, hk.owns, h.dis, ?_⟩
  · intro b hm
    rcases List.mem_cons.1 hm with rfl | hm
    · exact ⟨h.below.size, Box.new w x y z t⟩
    · exact hk.boxes b hm
  · intro o hm b hb e
    rcases List.mem_cons.1 hb with rfl | hb
    · have := (own_lt (h.owns o hm) _ e).2
      omega
    · exact h.disb o hm b hb e

theorem Box.grown {w w' : World} {b : Nat} {x y z : Value} {row : Option Nat} (h : Box w b x y z) (hg : w.grownBy w' row) (hr : row ≠ some b) : Box w' b x y z :=
  ⟨Nat.lt_of_lt_of_le h.lt hg.size, hg.cell h.c0 (fun e => hr e.symm), hg.cell h.c1 (fun e => hr e.symm), hg.cell h.c2 (fun e => hr e.symm), fun o => (World.frozen?_of_block (w := w) (hg.block b h.lt (fun e => hr e.symm))).trans (h.fr o)⟩

/-- One of the law's own slices is written. -/
theorem Env.mark {w0 w w' : World} {bs : List (Nat × Value × Value × Value)} {os os' : List (Value × List Int)} {s : Value} {xs ys : List Int} (h : Env w0 bs (os ++ (s, xs) :: os') w)
    (hg : w.grownBy w' s.ownBlock) {lo : Nat} (hs : Own w' lo s ys) : Env w0 bs (os ++ (s, ys) :: os') w' := by
  have hlt := own_lt (h.owns (s, xs) (by simp))
  have hd := h.dis
  rw [List.pairwise_append, List.pairwise_cons] at hd
  obtain ⟨d1, ⟨d2, d3⟩, d4⟩ := hd
  refine ⟨?_, ?_, ?_, ?_, ?_⟩
  · exact h.below.grown hg h.below.size (fun k e => (hlt k e).1)
  · intro b hm
    exact ⟨(h.boxes b hm).1, (h.boxes b hm).2.grown hg (fun e => h.disb (s, xs) (by simp) b hm e)⟩
  · intro o hm
    have other : ∀ o, o ∈ os ++ (s, xs) :: os' → (o.1.ownBlock = none ∨ o.1.ownBlock ≠ s.ownBlock) → Own w' w0.heap.size o.1 o.2 := fun o hm hne => World.ownsRow.kept (h.owns o hm) hg hne
    rcases List.mem_append.1 hm with hm | hm
    · refine other o (by simp [hm]) ?_
      cases e : o.1.ownBlock with
      | none => exact .inl rfl
      | some k => exact .inr (fun e2 => d4 o hm (s, xs) (by simp) k e e2.symm)
    · rcases List.mem_cons.1 hm with rfl | hm
      · refine ⟨hs.1, ?_⟩
        rcases hs.2 with h1 | ⟨g, cap, cur, e, hb, r⟩
        · exact .inl h1
        · exact .inr ⟨g, cap, cur, e, (hlt g (by rw [e]; rfl)).1, r⟩
      · refine other o (by simp [hm]) ?_
        cases e : o.1.ownBlock with
        | none => exact .inl rfl
        | some k =>
          refine .inr (fun e2 => ?_)
          exact d2 o hm k e2.symm e
  · rw [List.pairwise_append, List.pairwise_cons]
    exact ⟨d1, ⟨d2, d3⟩, fun a ha b hb k e => by
      rcases List.mem_cons.1 hb with rfl | hb
      · exact d4 a ha (s, xs) (by simp) k e
      · exact d4 a ha b (by simp [hb]) k e⟩
  · intro o hm b hb
    rcases List.mem_append.1 hm with hm | hm
    · exact h.disb o (by simp [hm]) b hb
    · rcases List.mem_cons.1 hm with rfl | hm
      · exact h.disb (s, xs) (by simp) b hb
      · exact h.disb o (by simp [hm]) b hb

/-- .. by one store. -/
theorem Env.store {w0 w : World} {bs : List (Nat × Value × Value × Value)} {os os' : List (Value × List Int)} {g n cap : Nat} {xs : List Int} (h : Env w0 bs (os ++ (.slice (some ⟨g, 0, none⟩) n cap, xs) :: os') w)
    (hn : xs.length = n) (j : Nat) (x : Int) : Env w0 bs (os ++ (.slice (some ⟨g, 0, none⟩) n cap, xs.set j x) :: os') (w.setCell ⟨g, j, none⟩ (.int .i64 x)) := by
  have hO : Own w w0.heap.size (.slice (some ⟨g, 0, none⟩) n cap) xs := h.owns (_, xs) (by simp)
  refine h.mark ?_ (own_store hO hn j x)
  subst hn
  exact (World.ownsRow.stored hO j (.int .i64 x)).2
theorem Env.drew {w0 w : World} {bs : List (Nat × Value × Value × Value)} {os : List (Value × List Int)} (h : Env w0 bs os w) : Env w0 bs os w.drew := h.kept (Below.refl _ _).drew

/-- A slice that came in still reads as it did. -/
theorem Env.reads {w0 w : World} {bs : List (Nat × Value × Value × Value)} {os : List (Value × List Int)} (h : Env w0 bs os w) {a : Option Addr} {len : Nat} {zs : List Int} (hr : Reads w0 a len zs) : Reads w a len zs := hr.kept h.below

theorem Env.b1 {w0 w : World} {n : Nat} {x y z : Value} {bs : List (Nat × Value × Value × Value)} {os : List (Value × List Int)} (h : Env w0 ((n, x, y, z) :: bs) os w) : Box w n x y z := (h.boxes (n, x, y, z) (by simp)).2
theorem Env.bt {w0 w : World} {b : Nat × Value × Value × Value} {bs : List (Nat × Value × Value × Value)} {os : List (Value × List Int)} (h : Env w0 (b :: bs) os w) : Env w0 bs os w :=
  ⟨h.below, fun c hc => h.boxes c (List.mem_cons_of_mem _ hc), h.owns, h.dis, fun o ho c hc => h.disb o ho c (List.mem_cons_of_mem _ hc)⟩
theorem Env.o1 {w0 w : World} {s : Value} {xs : List Int} {bs : List (Nat × Value × Value × Value)} {os : List (Value × List Int)} (h : Env w0 bs ((s, xs) :: os) w) : Own w w0.heap.size s xs := h.owns (s, xs) (by simp)
theorem Env.ot {w0 w : World} {o : Value × List Int} {bs : List (Nat × Value × Value × Value)} {os : List (Value × List Int)} (h : Env w0 bs (o :: os) w) : Env w0 bs os w :=
  ⟨h.below, h.boxes, fun c hc => h.owns c (List.mem_cons_of_mem _ hc), (List.pairwise_cons.1 h.dis).2, fun c hc => h.disb c (List.mem_cons_of_mem _ hc)⟩

/-- What a call that answers a board answers. -/
structure BR where
  r : Int
  c : Int
  xs : List Int
  ok : Bool
def BR.zero : BR := ⟨0, 0, [], false⟩

/-- A call that answers a board. -/
def AnsB (R : BR) (w : World) (e : Ending) (w' : World) : Prop :=
  ∃ s, e = .returned (.tuple #[.agg #[.int .i64 R.r, .int .i64 R.c, s], .bool R.ok]) ∧ Own w' w.heap.size s R.xs ∧ Below w.heap.size w w'

end Go.Proofs.Ytcacechmgdfckaa
end

section
namespace Go.Proofs.Ytcacechmgdfckaa
open Go.RowKit Go.WideShapes

/-- Is there a place? -/
def insB (r c i j : Int) : Bool := decide (0 ≤ i ∧ i < r ∧ 0 ≤ j ∧ j < c)
theorem insB_iff {r c i j : Int} : insB r c i j = true ↔ 0 ≤ i ∧ i < r ∧ 0 ≤ j ∧ j < c := by simp [insB]
theorem insB_no {r c i j : Int} (h : ¬ (0 ≤ i ∧ i < r ∧ 0 ≤ j ∧ j < c)) : insB r c i j = false := by simp only [insB, decide_eq_false_iff_not]; exact h

/-- A grid as a value. -/
abbrev gv (r c : Int) (m : Nat → Int) : Value := .agg #[.int .i64 r, .int .i64 c, .int .i64 (m 0), .int .i64 (m 1), .int .i64 (m 2), .int .i64 (m 3), .int .i64 (m 4), .int .i64 (m 5)]

/-- What a good board is. -/
theorem good_facts {r c : Int} {xs : List Int} (h : goodB r c xs = true) : (1 ≤ r ∧ r ≤ 6) ∧ (1 ≤ c ∧ c ≤ 6) ∧ (xs.length : Int) = r ∧ ∀ k, k < xs.length → 0 ≤ xs.getD k 0 ∧ xs.getD k 0 < pw c := by
  simp only [goodB, Bool.and_eq_true, inB_iff, decide_eq_true_eq] at h
  obtain ⟨h1, h2, h3, h4⟩ := h
  refine ⟨h1, h2, h3, fun k hk => ?_⟩
  rw [within, List.all_eq_true] at h4
  have := h4 (xs.getD k 0) (by simp [List.getD, hk])
  simp only [decide_eq_true_eq] at this
  omega
theorem pw_mono64 {c : Int} (h : 1 ≤ c ∧ c ≤ 6) : pw c ≤ 64 := (pw_bd (c := c) (by omega)).2.1
theorem good_cell {r c : Int} {xs : List Int} (h : goodB r c xs = true) (k : Nat) : 0 ≤ xs.getD k 0 ∧ xs.getD k 0 < 64 := by
  obtain ⟨h1, h2, h3, h4⟩ := good_facts h
  by_cases hk : k < xs.length
  · have := h4 k hk
    have := pw_mono64 h2
    omega
  · simp [List.getD, List.getElem?_eq_none (Nat.le_of_not_lt hk)]

/-- The place's bit. -/
def bitB (xs : List Int) (i j : Int) : Bool := (xs.getD i.toNat 0).toNat.testBit j.toNat

/-- What HasCell answers. -/
structure R2 where
  b : Bool
  ok : Bool
def hasB (r c : Int) (xs : List Int) (i j : Int) : R2 := if goodB r c xs && insB r c i j then ⟨bitB xs i j, true⟩ else ⟨false, false⟩
def AnsOO (R : R2) (w : World) (e : Ending) (w' : World) : Prop := e = .returned (.tuple #[.bool R.b, .bool R.ok]) ∧ Below w.heap.size w w'

/-- A contract that answers a Bool, at that Bool, where memory may be made. -/
theorem at_boolB {P : Program} {f : FuncId} {args : Array Value} {b c : Bool} {w : World} (h : Calls P f args w fun e w' => e = .returned (.bool b) ∧ Below w.heap.size w w') (e : b = c) : Calls P f args w fun e w' => e = .returned (.bool c) ∧ Below w.heap.size w w' := by
  subst e
  exact h

def placeB (r c : Int) (xs : List Int) (i j : Int) : Bool := goodB r c xs && insB r c i j

theorem bit_mod (x : Int) (j : Nat) (h : 0 ≤ x ∧ x < 64) (hj : j < 6) : ((x / 2 ^ j).tmod 2 == 1) = x.toNat.testBit j := by
  obtain ⟨n, rfl⟩ := Int.eq_ofNat_of_zero_le h.1
  have hn : n < 64 := by omega
  have key : ∀ n : Fin 64, ∀ j : Fin 6, ((((n : Nat) : Int) / 2 ^ (j : Nat)).tmod 2 == 1) = (n : Nat).testBit j := by decide +kernel
  exact key ⟨n, hn⟩ ⟨j, hj⟩

set_option maxHeartbeats 800000 in
theorem boHas_any (r c : Int) (xs : List Int) (k l : Nat) (w : World) (hk : k < xs.length) (hx : xs.length ≤ 1048576) (hl : l < 6) (hm : 0 ≤ xs.getD k 0 ∧ xs.getD k 0 < 64) (lo : Nat) (s : Value) (hO : Own w lo s xs) :
    Calls Try.prog 45 #[.agg #[.int .i64 r, .int .i64 c, s], .int .i64 k, .int .i64 l] w fun e w' => e = .returned (.bool ((xs.getD k 0).toNat.testBit l)) ∧ Below w.heap.size w w' := by
  rcases hO.cases with ⟨rfl, rfl⟩ | ⟨g, cap, rfl, h1, h2, h3, h4⟩
  · simp at hk
  · have hb0 := below_new (w := w) (.cells #[.int .i64 r, .int .i64 c, .slice (some ⟨g, 0, none⟩) xs.length cap] 29)
    have hc := (hO.kept hb0).cell k hk
    have hbit := bit_mod (xs.getD k 0) l hm hl
    generalize xs.getD k 0 = x at *
    have HB := Lib.hid hb0; clear hb0 hO
    go_enter Try.func45, Try.ntmps45
    go_wp2_with fail
    go_ret
    exact ⟨rfl, HB.out⟩


end Go.Proofs.Ytcacechmgdfckaa
end
