import Derived.Test.YtdimbnkgomfojabFold4
import Derived.Test.YtdimbnkgomfojabFold6
import Derived.Test.YtdimbnkgomfojabFold5
import Derived.Deep.RegionWith
import Derived.Deep.RegionHeld3
import Derived.Deep.DeepCutAuto

section
namespace Go.Proofs.Ytdimbnkgomfojab
open Go.RowKit

/-- w0: where the law began; bs: blocks of three cells; os: slices of the law's own, no two in one block. -/
structure Env (w0 : World) (bs : List (Nat × Value × Value × Value)) (os : List (Value × List Int)) (w : World) : Prop where
  below : Below w0.heap.size w0 w
  boxes : ∀ b ∈ bs, w0.heap.size ≤ b.1 ∧ Box w b.1 b.2.1 b.2.2.1 b.2.2.2
  owns : ∀ o ∈ os, Own w w0.heap.size o.1 o.2
  dis : os.Pairwise fun x y => ∀ k, x.1.ownBlock = some k → y.1.ownBlock ≠ some k
  disb : ∀ o ∈ os, ∀ b ∈ bs, o.1.ownBlock ≠ some b.1

theorem Env.start (w : World) : Env w [] [] w := ⟨Below.refl _ _, by simp, by simp, by simp, by simp⟩

theorem Env.kept {w0 w w' : World} {bs : List (Nat × Value × Value × Value)} {os : List (Value × List Int)} (h : Env w0 bs os w) (hb : Below w.heap.size w w') : Env w0 bs os w' :=
  ⟨below_on h.below hb, fun b hm => ⟨(h.boxes b hm).1, (h.boxes b hm).2.kept hb⟩, fun o hm => (h.owns o hm).kept hb, h.dis, h.disb⟩

theorem Env.own {w0 w w' : World} {bs : List (Nat × Value × Value × Value)} {os : List (Value × List Int)} (h : Env w0 bs os w) (hb : Below w.heap.size w w') {s : Value} {xs : List Int}
    (hs : Own w' w.heap.size s xs) : Env w0 bs ((s, xs) :: os) w' := by
  have hk := h.kept hb
  refine ⟨hk.below, hk.boxes, ?_, ?_, ?_⟩
  · intro o hm
    rcases List.mem_cons.1 hm with rfl | hm
    · exact hs.lower h.below.size
    · exact hk.owns o hm
  · refine List.pairwise_cons.2 ⟨fun o hm k e1 e2 => ?_, h.dis⟩
    have := (own_lt hs k e1).1
    have := (own_lt (h.owns o hm) k e2).2
    omega
  · intro o hm b hb2 e
    rcases List.mem_cons.1 hm with rfl | hm
    · have := (own_lt hs b.1 e).1
      have := (h.boxes b hb2).2.lt
      omega
    · exact h.disb o hm b hb2 e

theorem Env.box {w0 w : World} {bs : List (Nat × Value × Value × Value)} {os : List (Value × List Int)} (h : Env w0 bs os w) (x y z : Value) (t : TypeId) :
    Env w0 ((w.heap.size, x, y, z) :: bs) os (w.alloc (.cells #[x, y, z] t)) := by
  have hk := h.kept (below_new (.cells #[x, y, z] t))
  refine ⟨hk.below, ?_, hk.owns, h.dis, ?_⟩
  · intro b hm
    rcases List.mem_cons.1 hm with rfl | hm
    · exact ⟨h.below.size, Box.new w x y z t⟩
    · exact hk.boxes b hm
  · intro o hm b hb e
    rcases List.mem_cons.1 hb with rfl | hb
    · have := (own_lt (h.owns o hm) _ e).2
      omega
    · exact h.disb o hm b hb e

theorem Box.grown {w w' : World} {b : Nat} {x y z : Value} {row : Option Nat} (h : Box w b x y z) (hg : w.grownBy w' row) (hr : row ≠ some b) : Box w' b x y z :=
  ⟨Nat.lt_of_lt_of_le h.lt hg.size, hg.cell h.c0 (fun e => hr e.symm), hg.cell h.c1 (fun e => hr e.symm), hg.cell h.c2 (fun e => hr e.symm), fun o => (World.frozen?_of_block (w := w) (hg.block b h.lt (fun e => hr e.symm))).trans (h.fr o)⟩

/-- One of the law's own slices is written. -/
theorem Env.mark {w0 w w' : World} {bs : List (Nat × Value × Value × Value)} {os os' : List (Value × List Int)} {s : Value} {xs ys : List Int} (h : Env w0 bs (os ++ (s, xs) :: os') w)
    (hg : w.grownBy w' s.ownBlock) {lo : Nat} (hs : Own w' lo s ys) : Env w0 bs (os ++ (s, ys) :: os') w' := by
  have hlt := own_lt (h.owns (s, xs) (by simp))
  have hd := h.dis
  rw [List.pairwise_append, List.pairwise_cons] at hd
  obtain ⟨d1, ⟨d2, d3⟩, d4⟩ := hd
  refine ⟨?_, ?_, ?_, ?_, ?_⟩
  · exact h.below.grown hg h.below.size (fun k e => (hlt k e).1)
  · intro b hm
    exact ⟨(h.boxes b hm).1, (h.boxes b hm).2.grown hg (fun e => h.disb (s, xs) (by simp) b hm e)⟩
  · intro o hm
    have other : ∀ o, o ∈ os ++ (s, xs) :: os' → (o.1.ownBlock = none ∨ o.1.ownBlock ≠ s.ownBlock) → Own w' w0.heap.size o.1 o.2 := fun o hm hne => World.ownsRow.kept (h.owns o hm) hg hne
    rcases List.mem_append.1 hm with hm | hm
    · refine other o (by simp [hm]) ?_
      cases e : o.1.ownBlock with
      | none => exact .inl rfl
      | some k => exact .inr (fun e2 => d4 o hm (s, xs) (by simp) k e e2.symm)
    · rcases List.mem_cons.1 hm with rfl | hm
      · refine ⟨hs.1, ?_⟩
        rcases hs.2 with h1 | ⟨g, cap, cur, e, hb, r⟩
        · exact .inl h1
        · exact .inr ⟨g, cap, cur, e, (hlt g (by rw [e]; rfl)).1, r⟩
      · refine other o (by simp [hm]) ?_
        cases e : o.1.ownBlock with
        | none => exact .inl rfl
        | some k =>
          refine .inr (fun e2 => ?_)
          exact d2 o hm k e2.symm e
  · rw [List.pairwise_append, List.pairwise_cons]
    exact ⟨d1, ⟨d2, d3⟩, fun a ha b hb k e => by
      rcases List.mem_cons.1 hb with rfl | hb
      · exact d4 a ha (s, xs) (by simp) k e
      · exact d4 a ha b (by simp [hb]) k e⟩
  · intro o hm b hb
    rcases List.mem_append.1 hm with hm | hm
    · exact h.disb o (by simp [hm]) b hb
    · rcases List.mem_cons.1 hm with rfl | hm
      · exact h.disb (s, xs) (by simp) b hb
      · exact h.disb o (by simp [hm]) b hb

/-- .. by one store. -/
theorem Env.store {w0 w : World} {bs : List (Nat × Value × Value × Value)} {os os' : List (Value × List Int)} {g n cap : Nat} {xs : List Int} (h : Env w0 bs (os ++ (.slice (some ⟨g, 0, none⟩) n cap, xs) :: os') w)
    (hn : xs.length = n) (j : Nat) (x : Int) : Env w0 bs (os ++ (.slice (some ⟨g, 0, none⟩) n cap, xs.set j x) :: os') (w.setCell ⟨g, j, none⟩ (.int .i64 x)) := by
  have hO : Own w w0.heap.size (.slice (some ⟨g, 0, none⟩) n cap) xs := h.owns (_, xs) (by simp)
  refine h.mark ?_ (own_store hO hn j x)
  subst hn
  exact (World.ownsRow.stored hO j (.int .i64 x)).2
theorem Env.drew {w0 w : World} {bs : List (Nat × Value × Value × Value)} {os : List (Value × List Int)} (h : Env w0 bs os w) : Env w0 bs os w.drew := h.kept (Below.refl _ _).drew

/-- A slice that came in still reads as it did. -/
theorem Env.reads {w0 w : World} {bs : List (Nat × Value × Value × Value)} {os : List (Value × List Int)} (h : Env w0 bs os w) {a : Option Addr} {len : Nat} {zs : List Int} (hr : Reads w0 a len zs) : Reads w a len zs := hr.kept h.below

theorem Env.b1 {w0 w : World} {n : Nat} {x y z : Value} {bs : List (Nat × Value × Value × Value)} {os : List (Value × List Int)} (h : Env w0 ((n, x, y, z) :: bs) os w) : Box w n x y z := (h.boxes (n, x, y, z) (by simp)).2
theorem Env.bt {w0 w : World} {b : Nat × Value × Value × Value} {bs : List (Nat × Value × Value × Value)} {os : List (Value × List Int)} (h : Env w0 (b :: bs) os w) : Env w0 bs os w :=
  ⟨h.below, fun c hc => h.boxes c (List.mem_cons_of_mem _ hc), h.owns, h.dis, fun o ho c hc => h.disb o ho c (List.mem_cons_of_mem _ hc)⟩
theorem Env.o1 {w0 w : World} {s : Value} {xs : List Int} {bs : List (Nat × Value × Value × Value)} {os : List (Value × List Int)} (h : Env w0 bs ((s, xs) :: os) w) : Own w w0.heap.size s xs := h.owns (s, xs) (by simp)
theorem Env.ot {w0 w : World} {o : Value × List Int} {bs : List (Nat × Value × Value × Value)} {os : List (Value × List Int)} (h : Env w0 bs (o :: os) w) : Env w0 bs os w :=
  ⟨h.below, h.boxes, fun c hc => h.owns c (List.mem_cons_of_mem _ hc), (List.pairwise_cons.1 h.dis).2, fun c hc => h.disb c (List.mem_cons_of_mem _ hc)⟩

/-- What a call that answers a board answers. -/
structure BR where
  r : Int
  c : Int
  xs : List Int
  ok : Bool
def BR.zero : BR := ⟨0, 0, [], false⟩

/-- A call that answers a board. -/
def AnsB (R : BR) (w : World) (e : Ending) (w' : World) : Prop :=
  ∃ s, e = .returned (.tuple #[.agg #[.int .i64 R.r, .int .i64 R.c, s], .bool R.ok]) ∧ Own w' w.heap.size s R.xs ∧ Below w.heap.size w w'

end Go.Proofs.Ytdimbnkgomfojab
end

section
namespace Go.Proofs.Ytdimbnkgomfojab
open Go.RowKit Go.WideShapes

def fullB (r c : Int) : BR := if inB 1 r 6 && inB 1 c 6 then ⟨r, c, List.replicate r.toNat (pw c - 1), true⟩ else BR.zero

theorem rowM_full (m : Nat) : (rowM (fun _ => true) m : Int) = pw m - 1 := by
  have h : rowM (fun _ => true) m + 1 = 2 ^ m := by
    induction m with
    | zero => rfl
    | succ m ih => rw [rowM, Nat.pow_succ]; simp; omega
  unfold pw
  rw [Int.toNat_natCast]
  have : ((2 ^ m : Nat) : Int) = 2 ^ m := by simp
  omega
theorem full_cells (n m : Nat) (hn : n ≤ 6) : (([0, 1, 2, 3, 4, 5].take n).map fun k => (rowM ((fun _ _ => true : Nat → Nat → Bool) k) m : Int)) = List.replicate n (pw m - 1) := by
  simp only [rowM_full]
  have : n = 0 ∨ n = 1 ∨ n = 2 ∨ n = 3 ∨ n = 4 ∨ n = 5 ∨ n = 6 := by omega
  rcases this with rfl | rfl | rfl | rfl | rfl | rfl | rfl <;> rfl


theorem fullB_len (r c : Int) : (fullB r c).xs.length ≤ 1048576 := by
  unfold fullB
  split
  · rename_i h
    rw [Bool.and_eq_true, inB_iff] at h
    simp; omega
  · simp [BR.zero]

end Go.Proofs.Ytdimbnkgomfojab
end

section
namespace Go.Proofs.Ytdimbnkgomfojab
open Go.RowKit Go.WideShapes

/-- Is there a place? -/
def insB (r c i j : Int) : Bool := decide (0 ≤ i ∧ i < r ∧ 0 ≤ j ∧ j < c)
theorem insB_iff {r c i j : Int} : insB r c i j = true ↔ 0 ≤ i ∧ i < r ∧ 0 ≤ j ∧ j < c := by simp [insB]
theorem insB_no {r c i j : Int} (h : ¬ (0 ≤ i ∧ i < r ∧ 0 ≤ j ∧ j < c)) : insB r c i j = false := by simp only [insB, decide_eq_false_iff_not]; exact h

/-- A grid as a value. -/
abbrev gv (r c : Int) (m : Nat → Int) : Value := .agg #[.int .i64 r, .int .i64 c, .int .i64 (m 0), .int .i64 (m 1), .int .i64 (m 2), .int .i64 (m 3), .int .i64 (m 4), .int .i64 (m 5)]

set_option maxHeartbeats 800000 in
theorem inside_any (r c i j : Int) (m : Nat → Int) (w : World) :
    Calls Try.prog 121 #[gv r c m, .int .i64 i, .int .i64 j] w fun e w' => e = .returned (.bool (insB r c i j)) ∧ Below w.heap.size w w' := by
  have HB := Lib.hid (below_new (w := w) (.cells #[.int .i64 r, .int .i64 c, .int .i64 (m 0), .int .i64 (m 1), .int .i64 (m 2), .int .i64 (m 3), .int .i64 (m 4), .int .i64 (m 5)] 68))
  by_cases h1 : 0 ≤ i
  · by_cases h2 : i < r
    · by_cases h3 : 0 ≤ j
      · by_cases h4 : j < c
        · have HI := Lib.hid (insB_iff.2 ⟨h1, h2, h3, h4⟩)
          go_enter Try.func121, Try.ntmps121
          go_wp2
          go_ret
          exact ⟨ret_bool HI.out.symm, HB.out⟩
        · have HI := Lib.hid (insB_no (r := r) (c := c) (i := i) (j := j) (by omega))
          go_enter Try.func121, Try.ntmps121
          go_wp2
          go_ret
          exact ⟨ret_bool (by rw [HI.out] <;> simp <;> omega), HB.out⟩
      · have HI := Lib.hid (insB_no (r := r) (c := c) (i := i) (j := j) (by omega))
        go_enter Try.func121, Try.ntmps121
        go_wp2
        go_ret
        exact ⟨ret_bool (by rw [HI.out] <;> simp <;> omega), HB.out⟩
    · have HI := Lib.hid (insB_no (r := r) (c := c) (i := i) (j := j) (by omega))
      go_enter Try.func121, Try.ntmps121
      go_wp2
      go_ret
      exact ⟨ret_bool (by rw [HI.out] <;> simp <;> omega), HB.out⟩
  · have HI := Lib.hid (insB_no (r := r) (c := c) (i := i) (j := j) (by omega))
    go_enter Try.func121, Try.ntmps121
    go_wp2
    go_ret
    exact ⟨ret_bool (by rw [HI.out] <;> simp <;> omega), HB.out⟩

/-- What a good board is. -/
theorem good_facts {r c : Int} {xs : List Int} (h : goodB r c xs = true) : (1 ≤ r ∧ r ≤ 6) ∧ (1 ≤ c ∧ c ≤ 6) ∧ (xs.length : Int) = r ∧ ∀ k, k < xs.length → 0 ≤ xs.getD k 0 ∧ xs.getD k 0 < pw c := by
  simp only [goodB, Bool.and_eq_true, inB_iff, decide_eq_true_eq] at h
  obtain ⟨h1, h2, h3, h4⟩ := h
  refine ⟨h1, h2, h3, fun k hk => ?_⟩
  rw [within, List.all_eq_true] at h4
  have := h4 (xs.getD k 0) (by simp [List.getD, hk])
  simp only [decide_eq_true_eq] at this
  omega
theorem pw_mono64 {c : Int} (h : 1 ≤ c ∧ c ≤ 6) : pw c ≤ 64 := (pw_bd (c := c) (by omega)).2.1
theorem good_cell {r c : Int} {xs : List Int} (h : goodB r c xs = true) (k : Nat) : 0 ≤ xs.getD k 0 ∧ xs.getD k 0 < 64 := by
  obtain ⟨h1, h2, h3, h4⟩ := good_facts h
  by_cases hk : k < xs.length
  · have := h4 k hk
    have := pw_mono64 h2
    omega
  · simp [List.getD, List.getElem?_eq_none (Nat.le_of_not_lt hk)]

/-- The place's bit. -/
def bitB (xs : List Int) (i j : Int) : Bool := (xs.getD i.toNat 0).toNat.testBit j.toNat

/-- What HasCell answers. -/
structure R2 where
  b : Bool
  ok : Bool
def hasB (r c : Int) (xs : List Int) (i j : Int) : R2 := if goodB r c xs && insB r c i j then ⟨bitB xs i j, true⟩ else ⟨false, false⟩
def AnsOO (R : R2) (w : World) (e : Ending) (w' : World) : Prop := e = .returned (.tuple #[.bool R.b, .bool R.ok]) ∧ Below w.heap.size w w'

/-- A contract that answers a Bool, at that Bool, where memory may be made. -/
theorem at_boolB {P : Program} {f : FuncId} {args : Array Value} {b c : Bool} {w : World} (h : Calls P f args w fun e w' => e = .returned (.bool b) ∧ Below w.heap.size w w') (e : b = c) : Calls P f args w fun e w' => e = .returned (.bool c) ∧ Below w.heap.size w w' := by
  subst e
  exact h

def placeB (r c : Int) (xs : List Int) (i j : Int) : Bool := goodB r c xs && insB r c i j

theorem bit_mod (x : Int) (j : Nat) (h : 0 ≤ x ∧ x < 64) (hj : j < 6) : ((x / 2 ^ j).tmod 2 == 1) = x.toNat.testBit j := by
  obtain ⟨n, rfl⟩ := Int.eq_ofNat_of_zero_le h.1
  have hn : n < 64 := by omega
  have key : ∀ n : Fin 64, ∀ j : Fin 6, ((((n : Nat) : Int) / 2 ^ (j : Nat)).tmod 2 == 1) = (n : Nat).testBit j := by decide +kernel
  exact key ⟨n, hn⟩ ⟨j, hj⟩

set_option maxHeartbeats 800000 in
theorem boHas_any (r c : Int) (xs : List Int) (k l : Nat) (w : World) (hk : k < xs.length) (hx : xs.length ≤ 1048576) (hl : l < 6) (hm : 0 ≤ xs.getD k 0 ∧ xs.getD k 0 < 64) (lo : Nat) (s : Value) (hO : Own w lo s xs) :
    Calls Try.prog 88 #[.agg #[.int .i64 r, .int .i64 c, s], .int .i64 k, .int .i64 l] w fun e w' => e = .returned (.bool ((xs.getD k 0).toNat.testBit l)) ∧ Below w.heap.size w w' := by
  rcases hO.cases with ⟨rfl, rfl⟩ | ⟨g, cap, rfl, h1, h2, h3, h4⟩
  · simp at hk
  · have hb0 := below_new (w := w) (.cells #[.int .i64 r, .int .i64 c, .slice (some ⟨g, 0, none⟩) xs.length cap] 28)
    have hc := (hO.kept hb0).cell k hk
    have hbit := bit_mod (xs.getD k 0) l hm hl
    generalize xs.getD k 0 = x at *
    have HB := Lib.hid hb0; clear hb0 hO
    go_enter Try.func88, Try.ntmps88
    go_wp2_with fail
    go_ret
    exact ⟨rfl, HB.out⟩


end Go.Proofs.Ytdimbnkgomfojab
end

section
namespace Go.Proofs.Ytdimbnkgomfojab
open Go.RowKit Go.WideShapes


/-- A zero board, and false: a call that fails. -/
theorem ansB_zero (w w' : World) (h : Below w.heap.size w w') : AnsB BR.zero w (.returned (.tuple #[.agg #[.int .i64 0, .int .i64 0, .slice none 0 0], .bool false])) w' := ⟨_, rfl, Own.nil _ _, h⟩

theorem cells_n (n : Nat) (f : Nat → Int) (xs : List Int) (hl : xs.length = n) (hn : n ≤ 6) (hf : ∀ k, k < n → f k = xs.getD k 0) : (([0, 1, 2, 3, 4, 5].take n).map f) = xs := by
  apply List.ext_getElem?
  intro j
  by_cases hj : j < n
  · have h6 : ([0, 1, 2, 3, 4, 5] : List Nat)[j]? = some j := by
      have : j = 0 ∨ j = 1 ∨ j = 2 ∨ j = 3 ∨ j = 4 ∨ j = 5 := by omega
      rcases this with rfl | rfl | rfl | rfl | rfl | rfl <;> rfl
    rw [List.getElem?_map, List.getElem?_take, if_pos hj, h6, Option.map_some, hf j hj]
    simp [List.getD, show j < xs.length by omega]
  · rw [List.getElem?_eq_none (by simp; omega), List.getElem?_eq_none (by omega)]


end Go.Proofs.Ytdimbnkgomfojab
end
