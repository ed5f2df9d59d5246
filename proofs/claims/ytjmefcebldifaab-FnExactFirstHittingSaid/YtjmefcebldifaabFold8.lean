import Derived.Test.YtjmefcebldifaabFold4
import Derived.Test.YtjmefcebldifaabFold7

section
namespace Go.Proofs.Ytjmefcebldifaab
open Go.RowKit

/-- w0: where the law began; bs: blocks of three cells; os: slices of the law's own, no two in one block. -/
structure Env (w0 : World) (bs : List (Nat × Value × Value × Value)) (os : List (Value × List Int)) (w : World) : Prop where
  below : Below w0.heap.size w0 w
  boxes : ∀ b ∈ bs, w0.heap.size ≤ b.1 ∧ Box w b.1 b.2.1 b.2.2.1 b.2.2.2
  owns : ∀ o ∈ os, Own w w0.heap.size o.1 o.2
  dis : os.Pairwise fun x y => ∀ k, x.1.ownBlock = some k → y.1.ownBlock ≠ some k
  disb : ∀ o ∈ os, ∀ b ∈ bs, o.1.ownBlock ≠ some b.1

theorem Env.start (w : World) : Env w [] [] w := ⟨Below.refl _ _, by simp, by simp, by simp, by simp⟩

theorem Env.kept {w0 w w' : World} {bs : List (Nat × Value × Value × Value)} {os : List (Value × List Int)} (h : Env w0 bs os w) (hb : Below w.heap.size w w') : Env w0 bs os w' :=
  ⟨below_on h.below hb, fun b hm => ⟨(h.boxes b hm).1, (h.boxes b hm).2.kept hb⟩, fun o hm => (h.owns o hm).kept hb, h.dis, h.disb⟩

theorem Env.own {w0 w w' : World} {bs : List (Nat × Value × Value × Value)} {os : List (Value × List Int)} (h : Env w0 bs os w) (hb : Below w.heap.size w w') {s : Value} {xs : List Int}
    (hs : Own w' w.heap.size s xs) : Env w0 bs ((s, xs) :: os) w' := by
  have hk := h.kept hb
  refine ⟨hk.below, hk.boxes, ?_, ?_, ?_⟩
  · intro o hm
    rcases List.mem_cons.1 hm with rfl | hm
    · exact hs.lower h.below.size
    · exact hk.owns o hm
  · refine List.pairwise_cons.2 ⟨fun o hm k e1 e2 => ?_, h.dis⟩
    have := (own_lt hs k e1).1
    have := (own_lt (h.owns o hm) k e2).2
    omega
  · intro o hm b hb2 e
    rcases List.mem_cons.1 hm with rfl | hm
    · have := (own_lt hs b.1 e).1
      have := (h.boxes b hb2).2.lt
      omega
    · exact h.disb o hm b hb2 e

theorem Env.box {w0 w : World} {bs : List (Nat × Value × Value × Value)} {os : List (Value × List Int)} (h : Env w0 bs os w) (x y z : Value) (t : TypeId) :
    Env w0 ((w.heap.size, x, y, z) :: bs) os (w.alloc (.cells #[x, y, z] t)) := by
  have hk := h.kept (below_new (.cells #[x, y, z] t))
  refine ⟨hk.below, ?_, hk.owns, h.dis, ?_⟩
  · intro b hm
    rcases List.mem_cons.1 hm with rfl | hm
    · exact ⟨h.below.size, Box.new w x y z t⟩
    · exact hk.boxes b hm
  · intro o hm b hb e
    rcases List.mem_cons.1 hb with rfl | hb
    · have := (own_lt (h.owns o hm) _ e).2
      omega
    · exact h.disb o hm b hb e

theorem Box.grown {w w' : World} {b : Nat} {x y z : Value} {row : Option Nat} (h : Box w b x y z) (hg : w.grownBy w' row) (hr : row ≠ some b) : Box w' b x y z :=
  ⟨Nat.lt_of_lt_of_le h.lt hg.size, hg.cell h.c0 (fun e => hr e.symm), hg.cell h.c1 (fun e => hr e.symm), hg.cell h.c2 (fun e => hr e.symm), fun o => (World.frozen?_of_block (w := w) (hg.block b h.lt (fun e => hr e.symm))).trans (h.fr o)⟩

/-- One of the law's own slices is written. -/
theorem Env.mark {w0 w w' : World} {bs : List (Nat × Value × Value × Value)} {os os' : List (Value × List Int)} {s : Value} {xs ys : List Int} (h : Env w0 bs (os ++ (s, xs) :: os') w)
    (hg : w.grownBy w' s.ownBlock) {lo : Nat} (hs : Own w' lo s ys) : Env w0 bs (os ++ (s, ys) :: os') w' := by
  have hlt := own_lt (h.owns (s, xs) (by simp))
  have hd := h.dis
  rw [List.pairwise_append, List.pairwise_cons] at hd
  obtain ⟨d1, ⟨d2, d3⟩, d4⟩ := hd
  refine ⟨?_, ?_, ?_, ?_, ?_⟩
  · exact h.below.grown hg h.below.size (fun k e => (hlt k e).1)
  · intro b hm
    exact ⟨(h.boxes b hm).1, (h.boxes b hm).2.grown hg (fun e => h.disb (s, xs) (by simp) b hm e)⟩
  · intro o hm
    have other : ∀ o, o ∈ os ++ (s, xs) :: os' → (o.1.ownBlock = none ∨ o.1.ownBlock ≠ s.ownBlock) → Own w' w0.heap.size o.1 o.2 := fun o hm hne => World.ownsRow.kept (h.owns o hm) hg hne
    rcases List.mem_append.1 hm with hm | hm
    · refine other o (by simp [hm]) ?_
      cases e : o.1.ownBlock with
      | none => exact .inl rfl
      | some k => exact .inr (fun e2 => d4 o hm (s, xs) (by simp) k e e2.symm)
    · rcases List.mem_cons.1 hm with rfl | hm
      · refine ⟨hs.1, ?_⟩
        rcases hs.2 with h1 | ⟨g, cap, cur, e, hb, r⟩
        · exact .inl h1
        · exact .inr ⟨g, cap, cur, e, (hlt g (by rw [e]; rfl)).1, r⟩
      · refine other o (by simp [hm]) ?_
        cases e : o.1.ownBlock with
        | none => exact .inl rfl
        | some k =>
          refine .inr (fun e2 => ?_)
          exact d2 o hm k e2.symm e
  · rw [List.pairwise_append, List.pairwise_cons]
    exact ⟨d1, ⟨d2, d3⟩, fun a ha b hb k e => by
      rcases List.mem_cons.1 hb with rfl | hb
      · exact d4 a ha (s, xs) (by simp) k e
      · exact d4 a ha b (by simp [hb]) k e⟩
  · intro o hm b hb
    rcases List.mem_append.1 hm with hm | hm
    · exact h.disb o (by simp [hm]) b hb
    · rcases List.mem_cons.1 hm with rfl | hm
      · exact h.disb (s, xs) (by simp) b hb
      · exact h.disb o (by simp [hm]) b hb

/-- .. by one store. -/
theorem Env.store {w0 w : World} {bs : List (Nat × Value × Value × Value)} {os os' : List (Value × List Int)} {g n cap : Nat} {xs : List Int} (h : Env w0 bs (os ++ (.slice (some ⟨g, 0, none⟩) n cap, xs) :: os') w)
    (hn : xs.length = n) (j : Nat) (x : Int) : Env w0 bs (os ++ (.slice (some ⟨g, 0, none⟩) n cap, xs.set j x) :: os') (w.setCell ⟨g, j, none⟩ (.int .i64 x)) := by
  have hO : Own w w0.heap.size (.slice (some ⟨g, 0, none⟩) n cap) xs := h.owns (_, xs) (by simp)
  refine h.mark ?_ (own_store hO hn j x)
  subst hn
  exact (World.ownsRow.stored hO j (.int .i64 x)).2
theorem Env.drew {w0 w : World} {bs : List (Nat × Value × Value × Value)} {os : List (Value × List Int)} (h : Env w0 bs os w) : Env w0 bs os w.drew := h.kept (Below.refl _ _).drew

/-- A slice that came in still reads as it did. -/
theorem Env.reads {w0 w : World} {bs : List (Nat × Value × Value × Value)} {os : List (Value × List Int)} (h : Env w0 bs os w) {a : Option Addr} {len : Nat} {zs : List Int} (hr : Reads w0 a len zs) : Reads w a len zs := hr.kept h.below

theorem Env.b1 {w0 w : World} {n : Nat} {x y z : Value} {bs : List (Nat × Value × Value × Value)} {os : List (Value × List Int)} (h : Env w0 ((n, x, y, z) :: bs) os w) : Box w n x y z := (h.boxes (n, x, y, z) (by simp)).2
theorem Env.bt {w0 w : World} {b : Nat × Value × Value × Value} {bs : List (Nat × Value × Value × Value)} {os : List (Value × List Int)} (h : Env w0 (b :: bs) os w) : Env w0 bs os w :=
  ⟨h.below, fun c hc => h.boxes c (List.mem_cons_of_mem _ hc), h.owns, h.dis, fun o ho c hc => h.disb o ho c (List.mem_cons_of_mem _ hc)⟩
theorem Env.o1 {w0 w : World} {s : Value} {xs : List Int} {bs : List (Nat × Value × Value × Value)} {os : List (Value × List Int)} (h : Env w0 bs ((s, xs) :: os) w) : Own w w0.heap.size s xs := h.owns (s, xs) (by simp)
theorem Env.ot {w0 w : World} {o : Value × List Int} {bs : List (Nat × Value × Value × Value)} {os : List (Value × List Int)} (h : Env w0 bs (o :: os) w) : Env w0 bs os w :=
  ⟨h.below, h.boxes, fun c hc => h.owns c (List.mem_cons_of_mem _ hc), (List.pairwise_cons.1 h.dis).2, fun c hc => h.disb c (List.mem_cons_of_mem _ hc)⟩

/-- What a call that answers a board answers. -/
structure BR where
  r : Int
  c : Int
  xs : List Int
  ok : Bool
def BR.zero : BR := ⟨0, 0, [], false⟩

/-- A call that answers a board. -/
def AnsB (R : BR) (w : World) (e : Ending) (w' : World) : Prop :=
  ∃ s, e = .returned (.tuple #[.agg #[.int .i64 R.r, .int .i64 R.c, s], .bool R.ok]) ∧ Own w' w.heap.size s R.xs ∧ Below w.heap.size w w'

end Go.Proofs.Ytjmefcebldifaab
end

section
namespace Go.Proofs.Ytjmefcebldifaab
open Go.RowKit Go.WideShapes

/-- Is there a place? -/
def insB (r c i j : Int) : Bool := decide (0 ≤ i ∧ i < r ∧ 0 ≤ j ∧ j < c)
theorem insB_iff {r c i j : Int} : insB r c i j = true ↔ 0 ≤ i ∧ i < r ∧ 0 ≤ j ∧ j < c := by simp [insB]
theorem insB_no {r c i j : Int} (h : ¬ (0 ≤ i ∧ i < r ∧ 0 ≤ j ∧ j < c)) : insB r c i j = false := by simp only [insB, decide_eq_false_iff_not]; exact h

/-- A grid as a value. -/
abbrev gv (r c : Int) (m : Nat → Int) : Value := .agg #[.int .i64 r, .int .i64 c, .int .i64 (m 0), .int .i64 (m 1), .int .i64 (m 2), .int .i64 (m 3), .int .i64 (m 4), .int .i64 (m 5)]

/-- What a good board is. -/
theorem good_facts {r c : Int} {xs : List Int} (h : goodB r c xs = true) : (1 ≤ r ∧ r ≤ 6) ∧ (1 ≤ c ∧ c ≤ 6) ∧ (xs.length : Int) = r ∧ ∀ k, k < xs.length → 0 ≤ xs.getD k 0 ∧ xs.getD k 0 < pw c := by
  simp only [goodB, Bool.and_eq_true, inB_iff, decide_eq_true_eq] at h
  obtain ⟨h1, h2, h3, h4⟩ := h
  refine ⟨h1, h2, h3, fun k hk => ?_⟩
  rw [within, List.all_eq_true] at h4
  have := h4 (xs.getD k 0) (by simp [List.getD, hk])
  simp only [decide_eq_true_eq] at this
  omega
theorem pw_mono64 {c : Int} (h : 1 ≤ c ∧ c ≤ 6) : pw c ≤ 64 := (pw_bd (c := c) (by omega)).2.1
theorem good_cell {r c : Int} {xs : List Int} (h : goodB r c xs = true) (k : Nat) : 0 ≤ xs.getD k 0 ∧ xs.getD k 0 < 64 := by
  obtain ⟨h1, h2, h3, h4⟩ := good_facts h
  by_cases hk : k < xs.length
  · have := h4 k hk
    have := pw_mono64 h2
    omega
  · simp [List.getD, List.getElem?_eq_none (Nat.le_of_not_lt hk)]

/-- The place's bit. -/
def bitB (xs : List Int) (i j : Int) : Bool := (xs.getD i.toNat 0).toNat.testBit j.toNat

/-- What HasCell answers. -/
structure R2 where
  b : Bool
  ok : Bool
def hasB (r c : Int) (xs : List Int) (i j : Int) : R2 := if goodB r c xs && insB r c i j then ⟨bitB xs i j, true⟩ else ⟨false, false⟩
def AnsOO (R : R2) (w : World) (e : Ending) (w' : World) : Prop := e = .returned (.tuple #[.bool R.b, .bool R.ok]) ∧ Below w.heap.size w w'

/-- A contract that answers a Bool, at that Bool, where memory may be made. -/
theorem at_boolB {P : Program} {f : FuncId} {args : Array Value} {b c : Bool} {w : World} (h : Calls P f args w fun e w' => e = .returned (.bool b) ∧ Below w.heap.size w w') (e : b = c) : Calls P f args w fun e w' => e = .returned (.bool c) ∧ Below w.heap.size w w' := by
  subst e
  exact h

def placeB (r c : Int) (xs : List Int) (i j : Int) : Bool := goodB r c xs && insB r c i j

theorem bit_mod (x : Int) (j : Nat) (h : 0 ≤ x ∧ x < 64) (hj : j < 6) : ((x / 2 ^ j).tmod 2 == 1) = x.toNat.testBit j := by
  obtain ⟨n, rfl⟩ := Int.eq_ofNat_of_zero_le h.1
  have hn : n < 64 := by omega
  have key : ∀ n : Fin 64, ∀ j : Fin 6, ((((n : Nat) : Int) / 2 ^ (j : Nat)).tmod 2 == 1) = (n : Nat).testBit j := by decide +kernel
  exact key ⟨n, hn⟩ ⟨j, hj⟩

set_option maxHeartbeats 800000 in
theorem boHas_any (r c : Int) (xs : List Int) (k l : Nat) (w : World) (hk : k < xs.length) (hx : xs.length ≤ 1048576) (hl : l < 6) (hm : 0 ≤ xs.getD k 0 ∧ xs.getD k 0 < 64) (lo : Nat) (s : Value) (hO : Own w lo s xs) :
    Calls Try.prog 73 #[.agg #[.int .i64 r, .int .i64 c, s], .int .i64 k, .int .i64 l] w fun e w' => e = .returned (.bool ((xs.getD k 0).toNat.testBit l)) ∧ Below w.heap.size w w' := by
  rcases hO.cases with ⟨rfl, rfl⟩ | ⟨g, cap, rfl, h1, h2, h3, h4⟩
  · simp at hk
  · have hb0 := below_new (w := w) (.cells #[.int .i64 r, .int .i64 c, .slice (some ⟨g, 0, none⟩) xs.length cap] 28)
    have hc := (hO.kept hb0).cell k hk
    have hbit := bit_mod (xs.getD k 0) l hm hl
    generalize xs.getD k 0 = x at *
    have HB := Lib.hid hb0; clear hb0 hO
    go_enter Try.func73, Try.ntmps73
    go_wp2_with fail
    go_ret
    exact ⟨rfl, HB.out⟩


end Go.Proofs.Ytjmefcebldifaab
end

section
namespace Go.Proofs.Ytjmefcebldifaab
open Go.RowKit Go.WideShapes

/-- What a call answers that tells a number. -/
structure R1 where
  y : Int
  ok : Bool
def AnsIO (R : R1) (w : World) (e : Ending) (w' : World) : Prop := e = .returned (.tuple #[.int .i64 R.y, .bool R.ok]) ∧ Below w.heap.size w w'
/-- What a call answers that tells a list. -/
structure LR where
  ys : List Int
  ok : Bool
def AnsL (R : LR) (w : World) (e : Ending) (w' : World) : Prop := ∃ s, e = .returned (.tuple #[s, .bool R.ok]) ∧ Own w' w.heap.size s R.ys ∧ Below w.heap.size w w'

/-- How many bits a mask has. -/
def pop (x : Int) : Int := (((List.range 6).filter (fun b => x.toNat.testBit b)).length : Int)
def oc1 (n : Int) : Int := IntKind.u64.wrap (bits .and .u64 (n / 2) 6148914691236517205 + bits .and .u64 n 6148914691236517205)
def oc2 (n : Int) : Int := IntKind.u64.wrap (bits .and .u64 (oc1 n / 4) 3689348814741910323 + bits .and .u64 (oc1 n) 3689348814741910323)
def oc3 (n : Int) : Int := bits .and .u64 (IntKind.u64.wrap (oc2 n / 16 + oc2 n)) 1085102592571150095
def oc4 (n : Int) : Int := IntKind.u64.wrap (oc3 n + oc3 n / 256)
def oc5 (n : Int) : Int := IntKind.u64.wrap (oc4 n + oc4 n / 65536)
def oc6 (n : Int) : Int := IntKind.u64.wrap (oc5 n + oc5 n / 4294967296)
def oc (n : Int) : Int := bits .and .i64 (wrap64 (oc6 n)) 127
theorem oc_eq (n : Nat) (h : n < 64) : oc n = pop n := by
  have key : ∀ n : Fin 64, oc ((n : Nat) : Int) = pop ((n : Nat) : Int) := by decide +kernel
  exact key ⟨n, h⟩

set_option maxHeartbeats 1600000 in
theorem ones64_any (n : Nat) (w : World) (hn : n < 64) :
    Calls Try.prog 99 #[.int .u64 n] w fun e w' => e = .returned (.int .i64 (pop n)) ∧ w = w' := by
  have h0 : 0 ≤ (n : Int) := by omega
  have h1 : (n : Int) < 64 := by omega
  go_enter Try.func99, Try.ntmps99
  go_wp2
  go_ret
  exact ⟨ret_int (oc_eq n hn), rfl⟩
set_option maxHeartbeats 800000 in
theorem ones_any (n : Nat) (w : World) (hn : n < 64) :
    Calls Try.prog 92 #[.int .u64 n] w fun e w' => e = .returned (.int .i64 (pop n)) ∧ w = w' := by
  go_enter Try.func92, Try.ntmps92
  go_wp2_with fail
  refine (ones64_any n w hn).mono ?_
  rintro e w' ⟨rfl, rfl⟩
  go_wp2_with fail
  go_ret
  exact ⟨rfl, rfl⟩
theorem pop_bd (x : Int) : 0 ≤ pop x ∧ pop x ≤ 6 := by
  unfold pop
  have := List.length_filter_le (fun b => x.toNat.testBit b) (List.range 6)
  simp only [List.length_range] at this
  omega
theorem ix6a (x0 x1 x2 x3 x4 x5 : Int) (W : World) : (Instr.index 54 (.agg #[.int .i64 x0, .int .i64 x1, .int .i64 x2, .int .i64 x3, .int .i64 x4, .int .i64 x5]) (.int .i64 0)).run Try.prog W = .ok (.int .i64 x0) W := by kernel_rfl
theorem ix6b (x0 x1 x2 x3 x4 x5 : Int) (W : World) : (Instr.index 54 (.agg #[.int .i64 x0, .int .i64 x1, .int .i64 x2, .int .i64 x3, .int .i64 x4, .int .i64 x5]) (.int .i64 1)).run Try.prog W = .ok (.int .i64 x1) W := by kernel_rfl
theorem ix6c (x0 x1 x2 x3 x4 x5 : Int) (W : World) : (Instr.index 54 (.agg #[.int .i64 x0, .int .i64 x1, .int .i64 x2, .int .i64 x3, .int .i64 x4, .int .i64 x5]) (.int .i64 2)).run Try.prog W = .ok (.int .i64 x2) W := by kernel_rfl
theorem ix6d (x0 x1 x2 x3 x4 x5 : Int) (W : World) : (Instr.index 54 (.agg #[.int .i64 x0, .int .i64 x1, .int .i64 x2, .int .i64 x3, .int .i64 x4, .int .i64 x5]) (.int .i64 3)).run Try.prog W = .ok (.int .i64 x3) W := by kernel_rfl
theorem ix6e (x0 x1 x2 x3 x4 x5 : Int) (W : World) : (Instr.index 54 (.agg #[.int .i64 x0, .int .i64 x1, .int .i64 x2, .int .i64 x3, .int .i64 x4, .int .i64 x5]) (.int .i64 4)).run Try.prog W = .ok (.int .i64 x4) W := by kernel_rfl
theorem ix6f (x0 x1 x2 x3 x4 x5 : Int) (W : World) : (Instr.index 54 (.agg #[.int .i64 x0, .int .i64 x1, .int .i64 x2, .int .i64 x3, .int .i64 x4, .int .i64 x5]) (.int .i64 5)).run Try.prog W = .ok (.int .i64 x5) W := by kernel_rfl
/-- The value at an index of an array of six. -/
theorem ix6 (M : Nat → Int) (k : Nat) (hk : k < 6) (W : World) : (Instr.index 54 (.agg #[.int .i64 (M 0), .int .i64 (M 1), .int .i64 (M 2), .int .i64 (M 3), .int .i64 (M 4), .int .i64 (M 5)]) (.int .i64 k)).run Try.prog W = .ok (.int .i64 (M k)) W := by
  match k, hk with
  | 0, _ => exact ix6a _ _ _ _ _ _ W
  | 1, _ => exact ix6b _ _ _ _ _ _ W
  | 2, _ => exact ix6c _ _ _ _ _ _ W
  | 3, _ => exact ix6d _ _ _ _ _ _ W
  | 4, _ => exact ix6e _ _ _ _ _ _ W
  | 5, _ => exact ix6f _ _ _ _ _ _ W

end Go.Proofs.Ytjmefcebldifaab
end
