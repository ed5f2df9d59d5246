import Derived.Test.YtdimbnkgomfojabFold4
import Derived.Test.YtdimbnkgomfojabFold5
import Derived.Test.YtdimbnkgomfojabFold8
import Derived.Test.YtdimbnkgomfojabFold13
import Derived.Laws.AppendOwnNone
import Derived.Test.YtdimbnkgomfojabFold6
import Derived.Deep.RegionWith
import Derived.Deep.RegionHeld3
import Derived.Deep.DeepCutAuto

section
namespace Go.Proofs.Ytdimbnkgomfojab
open Go.ChangeShapes Go.WideShapes Go.ChangeAt Go.RowKit Go.Joins

theorem szN_cases (left : Int) (len : Nat) : szN left len = -1 ∨ (0 ≤ szN left len ∧ szN left len = left - len) := by unfold szN; split <;> omega
def szL (left : Int) (a b : Nat) : Int := if szN left a < 0 then -1 else szN (szN left a) b
set_option maxHeartbeats 800000 in
theorem szLines_any (a : Option Addr) (len cap : Nat) (a2 : Option Addr) (len2 cap2 : Nat) (left : Int) (w : World) (hl : len ≤ 9223372036854775807) (hl2 : len2 ≤ 9223372036854775807) (h0 : 0 ≤ left) (h1 : left ≤ 1048576) :
    Calls Try.prog 29 #[.agg #[.slice a len cap, .slice a2 len2 cap2], .int .i64 left] w fun e w' => e = .returned (.int .i64 (szL left len len2)) ∧ Below w.heap.size w w' := by
  have HB := Lib.hid (below_new (w := w) (.cells #[.slice a len cap, .slice a2 len2 cap2] 41))
  have HS := Lib.hid (fun W => szIntS_any a len cap left W hl h0 h1)
  unfold szL
  rcases szN_cases left len with hz | ⟨hz, hz2⟩
  · rw [hz]
    rw [hz] at HS
    rw [if_pos (by decide)]
    clear hz
    go_enter Try.func29, Try.ntmps29
    go_wp2_with fail
    refine (HS.out _).mono ?_
    rintro e w2 ⟨rfl, hw⟩
    subst w2
    go_wp2_with fail
    go_ret
    exact ⟨rfl, HB.out⟩
  · rw [if_neg (by omega)]
    have HS2 := Lib.hid (fun W => szIntS_any a2 len2 cap2 (szN left len) W hl2 hz (by omega))
    have hd : ¬ szN left len < 0 := by omega
    generalize szN left len = y at *
    rcases szN_cases y len2 with hy | ⟨hy, hy2⟩
    · rw [hy]
      rw [hy] at HS2
      clear hy hz2
      go_enter Try.func29, Try.ntmps29
      go_wp2_with fail
      refine (HS.out _).mono ?_
      rintro e w2 ⟨rfl, hw⟩
      subst w2
      go_wp2_with fail
      refine (HS2.out _).mono ?_
      rintro e w2 ⟨rfl, hw⟩
      subst w2
      go_wp2_with fail
      go_ret
      exact ⟨rfl, HB.out⟩
    · have hd2 : ¬ szN y len2 < 0 := by omega
      clear hy2 hz2
      generalize szN y len2 = z at *
      go_enter Try.func29, Try.ntmps29
      go_wp2_with fail
      refine (HS.out _).mono ?_
      rintro e w2 ⟨rfl, hw⟩
      subst w2
      go_wp2_with fail
      refine (HS2.out _).mono ?_
      rintro e w2 ⟨rfl, hw⟩
      subst w2
      go_wp2_with fail
      go_ret
      exact ⟨rfl, HB.out⟩

/-- Lines of the call's own: two slices, apart from each other. -/
def OwnN (w : World) (lo : Nat) (v : Value) (R C : List Int) : Prop := ∃ s s2, v = .agg #[s, s2] ∧ Own w lo s R ∧ Own w lo s2 C ∧ ∀ k, s.ownBlock = some k → s2.ownBlock ≠ some k
set_option maxRecDepth 100000 in
set_option maxHeartbeats 1600000 in
theorem toLines_any (a : Option Addr) (cap : Nat) (a2 : Option Addr) (cap2 : Nat) (R C : List Int) (w : World) (hl : R.length ≤ 1048576) (hl2 : C.length ≤ 1048576) (hr : Reads w a R.length R) (hr2 : Reads w a2 C.length C) :
    Calls Try.prog 31 #[.agg #[.slice a R.length cap, .slice a2 C.length cap2]] w fun e w' => ∃ v, e = .returned v ∧ OwnN w' w.heap.size v R C ∧ Below w.heap.size w w' := by
  have L0 := (((Law.start w).has [.slice a R.length cap, .slice a2 C.length cap2] 41).has [.slice none 0 0, .slice none 0 0] 45).has [.slice none 0 0, .slice none 0 0] 45
  simp only [World.size_alloc] at L0
  have HL := Lib.hid L0
  clear L0
  go_enter Try.func31, Try.ntmps31
  go_wp2_with fail
  refine (toIntS_any a R.length cap R _ hl (HL.out.reads hr)).mono ?_
  rintro e w1 ⟨s, rfl, hO, hb⟩
  obtain ⟨ra, rp, rfl, _⟩ := hO.reads
  have L1 := HL.out.own hb hO
  have ⟨y0, y1, yf⟩ := L1.tl.ownHas.two
  have ⟨x0, x1, xf⟩ := L1.tl.tl.tl.ownHas.two
  have L2 := Law.setHas (ts := [_]) L1 0 (.slice ra R.length rp)
  have HL2 := Lib.hid L2
  clear HL hb hO L1 L2
  go_wp2_with fail
  generalize w1.setCell ⟨w.heap.size + 1 + 1, 0, none⟩ (.slice ra R.length rp) = w2 at *
  refine (toIntS_any a2 C.length cap2 C _ hl2 (HL2.out.reads hr2)).mono ?_
  rintro e w3 ⟨s, rfl, hO, hb⟩
  obtain ⟨ca, cp, rfl, _⟩ := hO.reads
  have L3 := HL2.out.own hb hO
  have ⟨v0, v1, vf⟩ := L3.tl.tl.ownHas.two
  have L4 := Law.setHas (ts := [_, _]) L3 1 (.slice ca C.length cp)
  have HL4 := Lib.hid L4
  clear HL2 hb hO L3 L4 y0 y1 yf x0 x1 xf
  go_upto_region 4 with fail
  generalize w3.setCell ⟨w.heap.size + 1 + 1, 1, none⟩ (.slice ca C.length cp) = w4 at *
  replace HL4 := Lib.hid (show Law w ([tOwn (.slice ca C.length cp) C, tOwn (.slice ra R.length rp) R, tHas (w.heap.size + 1 + 1) [.slice ra R.length rp, .slice ca C.length cp] 45] ++ tHas (w.heap.size + 1) [.slice none 0 0, .slice none 0 0] 45 :: [tHas w.heap.size [.slice a R.length cap, .slice a2 C.length cap2] 41]) w4 from HL4.out)
  have ⟨y0, y1, yf⟩ := HL4.out.tl.tl.ownHas.two
  have ⟨x0, x1, xf⟩ := HL4.out.tl.tl.tl.ownHas.two
  have L5 := Law.setHas (ts := [_, _, _]) (Law.setHas (ts := [_, _, _]) HL4.out 0 (.slice ra R.length rp)) 1 (.slice ca C.length cp)
  have HL5 := Lib.hid L5
  clear L5 HL4 v0 v1 vf
  go_wp2_with fail
  have ⟨u0, u1, uf⟩ := (show Has _ (w.heap.size + 1) [.slice ra R.length rp, .slice ca C.length cp] 45 from HL5.out.tl.tl.tl.ownHas).two
  refine bodyPost_ret (v := .agg #[.slice ra R.length rp, .slice ca C.length cp]) (by simp [results, Try.results31, go_sem, u0, u1]) rfl ⟨_, rfl, ⟨_, _, rfl, HL5.out.tl.ownLo, HL5.out.ownLo, ?_⟩, HL5.out.below⟩
  intro k h1 h2
  exact (List.pairwise_cons.1 HL5.out.dis).1 (tOwn (.slice ra R.length rp) R) (by simp) k h2 h1

set_option maxRecDepth 100000 in
set_option maxHeartbeats 1600000 in
theorem eqLines_same (R C : List Int) (lo lo2 lo3 lo4 : Nat) (s s2 s3 s4 : Value) (w : World) (hx : R.length ≤ 1048576) (hy : C.length ≤ 1048576) (h1 : Own w lo s R) (h2 : Own w lo2 s2 C) (h3 : Own w lo3 s3 R) (h4 : Own w lo4 s4 C) :
    Calls Try.prog 33 #[.agg #[s, s2], .agg #[s3, s4]] w fun e w' => e = .returned (.bool true) ∧ Below w.heap.size w w' := by
  obtain ⟨a, p, rfl, hr⟩ := h1.reads
  obtain ⟨a2, p2, rfl, hr2⟩ := h2.reads
  obtain ⟨a3, p3, rfl, hr3⟩ := h3.reads
  obtain ⟨a4, p4, rfl, hr4⟩ := h4.reads
  have L0 := ((Law.start w).has [.slice a R.length p, .slice a2 C.length p2] 45).has [.slice a3 R.length p3, .slice a4 C.length p4] 45
  simp only [World.size_alloc] at L0
  have ⟨y0, y1, _⟩ := L0.ownHas.two
  have ⟨x0, x1, _⟩ := L0.tl.ownHas.two
  have HL := Lib.hid L0
  have HE := Lib.hid (fun W (h : Reads W a R.length R) (h' : Reads W a3 R.length R) => by have := eqIntS_any a a3 p p3 R R W hx hx h h'; simpa using this)
  have HE2 := Lib.hid (fun W (h : Reads W a2 C.length C) (h' : Reads W a4 C.length C) => by have := eqIntS_any a2 a4 p2 p4 C C W hy hy h h'; simpa using this)
  clear h1 h2 h3 h4 L0
  go_enter Try.func33, Try.ntmps33
  go_wp2_with fail
  refine (HE.out _ (HL.out.reads hr) (HL.out.reads hr3)).mono ?_
  rintro e w1 ⟨rfl, k, rfl⟩
  have HL1 := Lib.hid (HL.out.kept (below_drewN (Below.refl _ _) k))
  clear HL x0 x1 y0 y1
  generalize World.drewN _ k = w5 at *
  have ⟨y0, y1, _⟩ := HL1.out.ownHas.two
  have ⟨x0, x1, _⟩ := HL1.out.tl.ownHas.two
  go_wp2_with fail
  refine (HE2.out _ (HL1.out.reads hr2) (HL1.out.reads hr4)).mono ?_
  rintro e w2 ⟨rfl, k2, rfl⟩
  have HB := Lib.hid (HL1.out.kept (below_drewN (Below.refl _ _) k2)).below
  clear HL1 x0 x1 y0 y1
  go_wp2_with fail
  go_ret
  exact ⟨rfl, HB.out⟩

theorem Try.cellsLN : Try.prog.cellsOf 41 = 2 := by kernel_rfl
set_option maxRecDepth 100000 in
theorem open_lines {H : Type} {enc : TypeId × Value → H} {W : World} {base : Nat} {v : Value} {d : DataW H} {p : List MemPlace}
    (hv : Value.okWide Try.prog W .any base 41 v) (h : DataW.Trod enc Try.prog W 0 (fun _ => true) true 41 v d p) :
    ∃ (a : Option Addr) (len cap : Nat) (zs : List Int) (a2 : Option Addr) (len2 cap2 : Nat) (zs2 : List Int), v = .agg #[.slice a len cap, .slice a2 len2 cap2] ∧ len ≤ 9223372036854775807 ∧ Reads W a len zs ∧ len2 ≤ 9223372036854775807 ∧ Reads W a2 len2 zs2 := by
  obtain ⟨c0, c1, y0, y1, m, rfl, rfl, rfl, hy0, hy1⟩ := open_agg2 Try.underlying41 (by kernel_rfl) Try.cellsLN hv h
  obtain ⟨a, len, cap, e1⟩ := slice_form Try.underlying22 hy0
  obtain ⟨a2, len2, cap2, e2⟩ := slice_form Try.underlying22 hy1
  simp at e1 e2
  subst e1 e2
  obtain ⟨hl, zs, hr⟩ := reads_of hy0
  obtain ⟨hl2, zs2, hr2⟩ := reads_of hy1
  exact ⟨a, len, cap, zs, a2, len2, cap2, zs2, rfl, hl, hr, hl2, hr2⟩

end Go.Proofs.Ytdimbnkgomfojab
end

section
namespace Go.Proofs.Ytdimbnkgomfojab
open Go.RowKit

/-- What is appended: nothing at all, or a row of cells. -/
def Src (w : World) (src : Value) (ys : List Int) : Prop :=
  (src = .slice none 0 0 ∧ ys = []) ∨ ∃ ad cap, src = .slice (some ad) ys.length cap ∧ ∀ j, j < ys.length → w.cell? (ad.add j) = some (.int .i64 (ys.getD j 0))

theorem Own.src {w : World} {lo : Nat} {v : Value} {xs : List Int} (h : Own w lo v xs) : Src w v xs := by
  rcases h.cases with h2 | ⟨g, cap, rfl, h1, h2, h3, h4⟩
  · exact .inl h2
  · refine .inr ⟨_, cap, rfl, fun j hj => ?_⟩
    rw [Addr.add_lit, Nat.zero_add]
    exact h.cell j hj

theorem Src.kept {w w' : World} {v : Value} {ys : List Int} (h : Src w v ys) (hb : Below w.heap.size w w') : Src w' v ys := by
  rcases h with h | ⟨ad, cap, hv, hc⟩
  · exact .inl h
  · refine .inr ⟨ad, cap, hv, fun j hj => ?_⟩
    have := hc j hj
    have hlt := World.block_lt_of_cell? _ _ this
    rw [hb.cell hlt]
    exact this

theorem wp_append {w : World} {ops : Array Oper} {rest : List Oper} {o : Oper} {a : Act} {Q : Exit → Act → World → Prop} (hgd : o.guard = none) (s x : Operand)
    (ho : o.op = .call { callee := .builtin .append, args := #[s, x], argTypes := #[22, 22] }) (lo : Nat) (v : Value) (xs ys : List Int) (src : Value)
    (hs : a.eval s = v) (hx : a.eval x = src) (hown : Own w lo v xs) (hsrc : Src w src ys) (hl : xs.length + ys.length ≤ 1048576) (hlo : lo ≤ w.heap.size)
    (h : ∀ v' w', Own w' lo v' (xs ++ ys) → w.grownBy w' v.ownBlock → wpList Try.prog ops Q rest (a.put o.dst v') w') : wpList Try.prog ops Q (o :: rest) a w := by
  obtain ⟨i0, hi, hz0, hz1, hz2⟩ := info_parts Try.infoI
  rcases hsrc with ⟨rfl, rfl⟩ | ⟨ad, cap, rfl, hc⟩
  · refine wpList_append_own_none hgd s x 22 ho lo 3 i0 1 Try.underlying22 hi v xs.length _ hs hown hx ?_
    exact h v w (by simpa using hown) (World.grownBy.refl _ _)
  · refine wpList_append_own w hgd s x 22 ho lo 3 i0 (.int .i64 0) 1 8 Try.underlying22 hi hz0 hz1 hz2 rfl (by decide) v xs.length _ hs hown ad ys.length cap (ys.map (Value.int .i64)) hx (by simp) ?_ (ints_oneCell _ _) (by unfold maxLen; omega) (by omega) hlo ?_
    · intro j u hu
      obtain ⟨hj, rfl⟩ := List.getElem?_eq_some_iff.1 hu
      simp only [List.length_map] at hj
      rw [hc j hj]
      simp [List.getD, hj]
    · intro v' w' h1 h2 _
      refine h v' w' ?_ h2
      unfold Own
      rw [List.length_append, List.map_append]
      exact h1

/-- A new slice of nothing. -/
theorem own_empty (w : World) : Own (w.alloc (.cells #[] 3)) w.heap.size (.slice (some ⟨w.heap.size, 0, none⟩) 0 0) [] :=
  ⟨by simp, .inr ⟨w.heap.size, 0, #[], rfl, Nat.le_refl _, heap_alloc_new w _, Nat.le_refl _, by unfold maxLen; omega, by simp, by simp⟩⟩

set_option maxHeartbeats 800000 in
theorem l1Own_any (xs : List Int) (w : World) (hx : xs.length ≤ 1048576) (src : Value) (hs : Src w src xs) :
    Calls Try.prog 89 #[src] w fun e w' => ∃ v, e = .returned v ∧ Own w' w.heap.size v xs ∧ Below w.heap.size w w' := by
  have hb := below_new (w := w) (.cells #[] 3)
  have hs1 := hs.kept hb
  have HO := Lib.hid (own_empty w)
  have HS := Lib.hid hs1
  have HB := Lib.hid hb
  clear hs hb hs1
  go_enter Try.func89, Try.ntmps89
  go_wp2_with (at_builtin; refine wp_append rfl _ _ rfl w.heap.size _ [] xs _ rfl rfl HO.out HS.out ?h1 ?h2 ?_)
  case h1 => simp; omega
  case h2 => simp
  intro v w1 hO hg
  have HO1 := Lib.hid hO; clear hO
  have HB1 := Lib.hid (HB.out.grown hg (by simp) (by intro k hk; simp [Value.ownBlock] at hk; omega))
  clear hg
  go_wp2
  go_ret
  exact ⟨_, rfl, by simpa using HO1.out, HB1.out⟩

end Go.Proofs.Ytdimbnkgomfojab
end

section
namespace Go.Proofs.Ytdimbnkgomfojab
open Go.RowKit Go.WideShapes

/-- The mask of the places c < n with p c. -/
def rowM (p : Nat → Bool) : Nat → Nat
  | 0 => 0
  | c + 1 => rowM p c + if p c then 2 ^ c else 0
theorem rowM_lt (p : Nat → Bool) (n : Nat) : rowM p n < 2 ^ n := by
  induction n with
  | zero => simp [rowM]
  | succ n ih => rw [rowM, Nat.pow_succ]; split <;> omega
theorem or_step (x : Nat) (c : Nat) (hc : c < 6) (h : x < 2 ^ c) : bits .or .i64 (x : Int) (wrap64 (2 ^ c)) = ((x + 2 ^ c : Nat) : Int) := by
  have key : ∀ c : Fin 6, ∀ x : Fin 64, (x : Nat) < 2 ^ (c : Nat) → bits .or .i64 ((x : Nat) : Int) (wrap64 (2 ^ (c : Nat))) = (((x : Nat) + 2 ^ (c : Nat) : Nat) : Int) := by decide +kernel
  have h64 : x < 64 := Nat.lt_of_lt_of_le h (by have := Nat.pow_le_pow_right (show 0 < 2 by omega) (show c ≤ 6 by omega); simpa using this)
  exact key ⟨c, hc⟩ ⟨x, h64⟩ h

/-- The masks when the rows before i and of row i the places before j are drawn. -/
def drawn (p : Nat → Nat → Bool) (m i j : Nat) : Nat → Int := fun k => if k < i then (rowM (p k) m : Int) else if k = i then (rowM (p i) j : Int) else 0
theorem drawn_next (p : Nat → Nat → Bool) (m i : Nat) : drawn p m i m = drawn p m (i + 1) 0 := by
  funext k
  unfold drawn
  by_cases h1 : k < i
  · rw [if_pos h1, if_pos (by omega)]
  · by_cases h2 : k = i
    · subst h2; rw [if_neg h1, if_pos rfl, if_pos (by omega)]
    · rw [if_neg h1, if_neg h2, if_neg (by omega)]
      split
      · simp [rowM]
      · rfl
theorem drawn_zero (p : Nat → Nat → Bool) (m : Nat) : drawn p m 0 0 = fun _ => 0 := by
  funext k
  unfold drawn
  rw [if_neg (by omega)]
  split
  · simp [rowM]
  · rfl
theorem drawn_skip (p : Nat → Nat → Bool) (m i j : Nat) (h : p i j = false) : drawn p m i (j + 1) = drawn p m i j := by
  funext k; unfold drawn; rw [rowM, h]; simp
theorem drawn_at (p : Nat → Nat → Bool) (m i j : Nat) : drawn p m i j i = (rowM (p i) j : Int) := by unfold drawn; rw [if_neg (by omega), if_pos rfl]
theorem drawn_put (p : Nat → Nat → Bool) (m i j : Nat) (h : p i j = true) : drawn p m i (j + 1) i = ((rowM (p i) j + 2 ^ j : Nat) : Int) := by rw [drawn_at, rowM, h]; simp
theorem drawn_off (p : Nat → Nat → Bool) (m i j k : Nat) (h : k ≠ i) : drawn p m i (j + 1) k = drawn p m i j k := by
  unfold drawn; rw [if_neg h, if_neg h]

/-- At the head of a round of the drawing: of what was there nothing has turned; the new board's block, and the grid. -/
structure Draw (w : World) (n m : Nat) (p : Nat → Nat → Bool) (i j : Nat) (wr : World) : Prop where
  below : Below w.heap.size w wr
  res : Has wr w.heap.size [.int .i64 0, .int .i64 0, .slice none 0 0] 28
  grid : Has wr (w.heap.size + 1) (gl n m (drawn p m i j)) 68

theorem Draw.kept {w : World} {n m : Nat} {p : Nat → Nat → Bool} {i j : Nat} {wr w' : World} (h : Draw w n m p i j wr) (hb : Below wr.heap.size wr w') : Draw w n m p i j w' :=
  ⟨below_on h.below hb, h.res.kept hb h.res.lt, h.grid.kept hb h.grid.lt⟩

theorem Draw.next {w : World} {n m : Nat} {p : Nat → Nat → Bool} {i : Nat} {wr : World} (h : Draw w n m p i m wr) : Draw w n m p (i + 1) 0 wr :=
  ⟨h.below, h.res, by rw [← drawn_next]; exact h.grid⟩
theorem Draw.skip {w : World} {n m : Nat} {p : Nat → Nat → Bool} {i j : Nat} {wr : World} (h : Draw w n m p i j wr) (hp : p i j = false) : Draw w n m p i (j + 1) wr :=
  ⟨h.below, h.res, by rw [drawn_skip p m i j hp]; exact h.grid⟩
theorem Draw.put {w : World} {n m : Nat} {p : Nat → Nat → Bool} {i j : Nat} {wr : World} (h : Draw w n m p i j wr) (hp : p i j = true) (hi : i < 6) :
    Draw w n m p i (j + 1) (wr.setCell ⟨w.heap.size + 1, 2 + i, none⟩ (.int .i64 ((rowM (p i) j + 2 ^ j : Nat) : Int))).drew := by
  refine ⟨(h.below.setCell (by simp <;> omega) _).drew, (h.res.other _ (by simp <;> omega) _).drew, ?_⟩
  have := h.grid.set (2 + i) (.int .i64 ((rowM (p i) j + 2 ^ j : Nat) : Int))
  rw [gl_set n m (drawn p m i j) (drawn p m i (j + 1)) i hi _ (drawn_put p m i j hp) (fun k hk => drawn_off p m i j k hk)] at this
  exact this.drew

end Go.Proofs.Ytdimbnkgomfojab
end

section
namespace Go.Proofs.Ytdimbnkgomfojab
open Go.RowKit Go.WideShapes

def fullB (r c : Int) : BR := if inB 1 r 6 && inB 1 c 6 then ⟨r, c, List.replicate r.toNat (pw c - 1), true⟩ else BR.zero

theorem rowM_full (m : Nat) : (rowM (fun _ => true) m : Int) = pw m - 1 := by
  have h : rowM (fun _ => true) m + 1 = 2 ^ m := by
    induction m with
    | zero => rfl
    | succ m ih => rw [rowM, Nat.pow_succ]; simp; omega
  unfold pw
  rw [Int.toNat_natCast]
  have : ((2 ^ m : Nat) : Int) = 2 ^ m := by simp
  omega
theorem full_cells (n m : Nat) (hn : n ≤ 6) : (([0, 1, 2, 3, 4, 5].take n).map fun k => (rowM ((fun _ _ => true : Nat → Nat → Bool) k) m : Int)) = List.replicate n (pw m - 1) := by
  simp only [rowM_full]
  have : n = 0 ∨ n = 1 ∨ n = 2 ∨ n = 3 ∨ n = 4 ∨ n = 5 ∨ n = 6 := by omega
  rcases this with rfl | rfl | rfl | rfl | rfl | rfl | rfl <;> rfl


theorem fullB_len (r c : Int) : (fullB r c).xs.length ≤ 1048576 := by
  unfold fullB
  split
  · rename_i h
    rw [Bool.and_eq_true, inB_iff] at h
    simp; omega
  · simp [BR.zero]

end Go.Proofs.Ytdimbnkgomfojab
end

section
namespace Go.Proofs.Ytdimbnkgomfojab
open Go.RowKit Go.WideShapes


/-- A zero board, and false: a call that fails. -/
theorem ansB_zero (w w' : World) (h : Below w.heap.size w w') : AnsB BR.zero w (.returned (.tuple #[.agg #[.int .i64 0, .int .i64 0, .slice none 0 0], .bool false])) w' := ⟨_, rfl, Own.nil _ _, h⟩

theorem cells_n (n : Nat) (f : Nat → Int) (xs : List Int) (hl : xs.length = n) (hn : n ≤ 6) (hf : ∀ k, k < n → f k = xs.getD k 0) : (([0, 1, 2, 3, 4, 5].take n).map f) = xs := by
  apply List.ext_getElem?
  intro j
  by_cases hj : j < n
  · have h6 : ([0, 1, 2, 3, 4, 5] : List Nat)[j]? = some j := by
      have : j = 0 ∨ j = 1 ∨ j = 2 ∨ j = 3 ∨ j = 4 ∨ j = 5 := by omega
      rcases this with rfl | rfl | rfl | rfl | rfl | rfl <;> rfl
    rw [List.getElem?_map, List.getElem?_take, if_pos hj, h6, Option.map_some, hf j hj]
    simp [List.getD, show j < xs.length by omega]
  · rw [List.getElem?_eq_none (by simp; omega), List.getElem?_eq_none (by omega)]


end Go.Proofs.Ytdimbnkgomfojab
end
