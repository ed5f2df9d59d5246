/- The state of a law: what was handed in reads as it did; the law's own boards and slices lie apart. No condition. -/
import Derived.Test.YtmhlpaenfknofaaT
namespace Go.Proofs.Ytmhlpaenfknofaa
open Go.RowKit

/-- w0: where the law began; bs: blocks of three cells; os: slices of the law's own, no two in one block. -/
structure Env (w0 : World) (bs : List (Nat × Value × Value × Value)) (os : List (Value × List Int)) (w : World) : Prop where
  below : Below w0.heap.size w0 w
  boxes : ∀ b ∈ bs, w0.heap.size ≤ b.1 ∧ Box w b.1 b.2.1 b.2.2.1 b.2.2.2
  owns : ∀ o ∈ os, Own w w0.heap.size o.1 o.2
  dis : os.Pairwise fun x y => ∀ k, x.1.ownBlock = some k → y.1.ownBlock ≠ some k
  disb : ∀ o ∈ os, ∀ b ∈ bs, o.1.ownBlock ≠ some b.1

theorem Env.start (w : World) : Env w [] [] w := ⟨Below.refl _ _, by simp, by simp, by simp, by simp⟩

theorem Env.kept {w0 w w' : World} {bs : List (Nat × Value × Value × Value)} {os : List (Value × List Int)} (h : Env w0 bs os w) (hb : Below w.heap.size w w') : Env w0 bs os w' :=
  ⟨below_on h.below hb, fun b hm => ⟨(h.boxes b hm).1, (h.boxes b hm).2.kept hb⟩, fun o hm => (h.owns o hm).kept hb, h.dis, h.disb⟩

theorem Env.own {w0 w w' : World} {bs : List (Nat × Value × Value × Value)} {os : List (Value × List Int)} (h : Env w0 bs os w) (hb : Below w.heap.size w w') {s : Value} {xs : List Int}
    (hs : Own w' w.heap.size s xs) : Env w0 bs ((s, xs) :: os) w' := by
  have hk := h.kept hb
  refine ⟨hk.below, hk.boxes, ?_, ?_, ?_⟩
  · intro o hm
    rcases List.mem_cons.1 hm with rfl | hm
    · exact hs.lower h.below.size
    · exact hk.owns o hm
  · refine List.pairwise_cons.2 ⟨fun o hm k e1 e2 => ?_, h.dis⟩
    have := (own_lt hs k e1).1
    have := (own_lt (h.owns o hm) k e2).2
    omega
  · intro o hm b hb2 e
    rcases List.mem_cons.1 hm with rfl | hm
    · have := (own_lt hs b.1 e).1
      have := (h.boxes b hb2).2.lt
      omega
    · exact h.disb o hm b hb2 e

theorem Env.box {w0 w : World} {bs : List (Nat × Value × Value × Value)} {os : List (Value × List Int)} (h : Env w0 bs os w) (x y z : Value) (t : TypeId) :
    Env w0 ((w.heap.size, x, y, z) :: bs) os (w.alloc (.cells #[x, y, z] t)) := by
  have hk := h.kept (below_new (.cells #[x, y, z] t))
  refine ⟨hk.below, ?_, hk.owns, h.dis, ?_⟩
  · intro b hm
    rcases List.mem_cons.1 hm with rfl | hm
    · exact ⟨h.below.size, Box.new w x y z t⟩
    · exact hk.boxes b hm
  · intro o hm b hb e
    rcases List.mem_cons.1 hb with rfl | hb
    · have := (own_lt (h.owns o hm) _ e).2
      omega
    · exact h.disb o hm b hb e

theorem Box.grown {w w' : World} {b : Nat} {x y z : Value} {row : Option Nat} (h : Box w b x y z) (hg : w.grownBy w' row) (hr : row ≠ some b) : Box w' b x y z :=
  ⟨Nat.lt_of_lt_of_le h.lt hg.size, hg.cell h.c0 (fun e => hr e.symm), hg.cell h.c1 (fun e => hr e.symm), hg.cell h.c2 (fun e => hr e.symm), fun o => (World.frozen?_of_block (w := w) (hg.block b h.lt (fun e => hr e.symm))).trans (h.fr o)⟩

/-- One of the law's own slices is written. -/
theorem Env.mark {w0 w w' : World} {bs : List (Nat × Value × Value × Value)} {os os' : List (Value × List Int)} {s : Value} {xs ys : List Int} (h : Env w0 bs (os ++ (s, xs) :: os') w)
    (hg : w.grownBy w' s.ownBlock) {lo : Nat} (hs : Own w' lo s ys) : Env w0 bs (os ++ (s, ys) :: os') w' := by
  have hlt := own_lt (h.owns (s, xs) (by simp))
  have hd := h.dis
  rw [List.pairwise_append, List.pairwise_cons] at hd
  obtain ⟨d1, ⟨d2, d3⟩, d4⟩ := hd
  refine ⟨?_, ?_, ?_, ?_, ?_⟩
  · exact h.below.grown hg h.below.size (fun k e => (hlt k e).1)
  · intro b hm
    exact ⟨(h.boxes b hm).1, (h.boxes b hm).2.grown hg (fun e => h.disb (s, xs) (by simp) b hm e)⟩
  · intro o hm
    have other : ∀ o, o ∈ os ++ (s, xs) :: os' → (o.1.ownBlock = none ∨ o.1.ownBlock ≠ s.ownBlock) → Own w' w0.heap.size o.1 o.2 := fun o hm hne => World.ownsRow.kept (h.owns o hm) hg hne
    rcases List.mem_append.1 hm with hm | hm
    · refine other o (by simp [hm]) ?_
      cases e : o.1.ownBlock with
      | none => exact .inl rfl
      | some k => exact .inr (fun e2 => d4 o hm (s, xs) (by simp) k e e2.symm)
    · rcases List.mem_cons.1 hm with rfl | hm
      · refine ⟨hs.1, ?_⟩
        rcases hs.2 with h1 | ⟨g, cap, cur, e, hb, r⟩
        · exact .inl h1
        · exact .inr ⟨g, cap, cur, e, (hlt g (by rw [e]; rfl)).1, r⟩
      · refine other o (by simp [hm]) ?_
        cases e : o.1.ownBlock with
        | none => exact .inl rfl
        | some k =>
          refine .inr (fun e2 => ?_)
          exact d2 o hm k e2.symm e
  · rw [List.pairwise_append, List.pairwise_cons]
    exact ⟨d1, ⟨d2, d3⟩, fun a ha b hb k e => by
      rcases List.mem_cons.1 hb with rfl | hb
      · exact d4 a ha (s, xs) (by simp) k e
      · exact d4 a ha b (by simp [hb]) k e⟩
  · intro o hm b hb
    rcases List.mem_append.1 hm with hm | hm
    · exact h.disb o (by simp [hm]) b hb
    · rcases List.mem_cons.1 hm with rfl | hm
      · exact h.disb (s, xs) (by simp) b hb
      · exact h.disb o (by simp [hm]) b hb

/-- .. by one store. -/
theorem Env.store {w0 w : World} {bs : List (Nat × Value × Value × Value)} {os os' : List (Value × List Int)} {g n cap : Nat} {xs : List Int} (h : Env w0 bs (os ++ (.slice (some ⟨g, 0, none⟩) n cap, xs) :: os') w)
    (hn : xs.length = n) (j : Nat) (x : Int) : Env w0 bs (os ++ (.slice (some ⟨g, 0, none⟩) n cap, xs.set j x) :: os') (w.setCell ⟨g, j, none⟩ (.int .i64 x)) := by
  have hO : Own w w0.heap.size (.slice (some ⟨g, 0, none⟩) n cap) xs := h.owns (_, xs) (by simp)
  refine h.mark ?_ (own_store hO hn j x)
  subst hn
  exact (World.ownsRow.stored hO j (.int .i64 x)).2
theorem Env.drew {w0 w : World} {bs : List (Nat × Value × Value × Value)} {os : List (Value × List Int)} (h : Env w0 bs os w) : Env w0 bs os w.drew := h.kept (Below.refl _ _).drew

/-- A slice that came in still reads as it did. -/
theorem Env.reads {w0 w : World} {bs : List (Nat × Value × Value × Value)} {os : List (Value × List Int)} (h : Env w0 bs os w) {a : Option Addr} {len : Nat} {zs : List Int} (hr : Reads w0 a len zs) : Reads w a len zs := hr.kept h.below

theorem Env.b1 {w0 w : World} {n : Nat} {x y z : Value} {bs : List (Nat × Value × Value × Value)} {os : List (Value × List Int)} (h : Env w0 ((n, x, y, z) :: bs) os w) : Box w n x y z := (h.boxes (n, x, y, z) (by simp)).2
theorem Env.bt {w0 w : World} {b : Nat × Value × Value × Value} {bs : List (Nat × Value × Value × Value)} {os : List (Value × List Int)} (h : Env w0 (b :: bs) os w) : Env w0 bs os w :=
  ⟨h.below, fun c hc => h.boxes c (List.mem_cons_of_mem _ hc), h.owns, h.dis, fun o ho c hc => h.disb o ho c (List.mem_cons_of_mem _ hc)⟩
theorem Env.o1 {w0 w : World} {s : Value} {xs : List Int} {bs : List (Nat × Value × Value × Value)} {os : List (Value × List Int)} (h : Env w0 bs ((s, xs) :: os) w) : Own w w0.heap.size s xs := h.owns (s, xs) (by simp)
theorem Env.ot {w0 w : World} {o : Value × List Int} {bs : List (Nat × Value × Value × Value)} {os : List (Value × List Int)} (h : Env w0 bs (o :: os) w) : Env w0 bs os w :=
  ⟨h.below, h.boxes, fun c hc => h.owns c (List.mem_cons_of_mem _ hc), (List.pairwise_cons.1 h.dis).2, fun c hc => h.disb c (List.mem_cons_of_mem _ hc)⟩

/-- What a call that answers a board answers. -/
structure BR where
  r : Int
  c : Int
  xs : List Int
  ok : Bool
def BR.zero : BR := ⟨0, 0, [], false⟩

/-- A call that answers a board. -/
def AnsB (R : BR) (w : World) (e : Ending) (w' : World) : Prop :=
  ∃ s, e = .returned (.tuple #[.agg #[.int .i64 R.r, .int .i64 R.c, s], .bool R.ok]) ∧ Own w' w.heap.size s R.xs ∧ Below w.heap.size w w'

end Go.Proofs.Ytmhlpaenfknofaa
