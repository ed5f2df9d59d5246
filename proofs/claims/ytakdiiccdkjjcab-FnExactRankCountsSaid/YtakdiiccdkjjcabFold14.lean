import Derived.Test.YtakdiiccdkjjcabFold9
import Derived.Laws.OwnMore
import Derived.Laws.AppendOwnNone
import Derived.Test.YtakdiiccdkjjcabFold7
import Derived.Test.YtakdiiccdkjjcabFold8
import Derived.Lib.AppendZeros

section
namespace Go.Proofs.Ytakdiiccdkjjcab
open Go.RowKit

theorem Law.joinM {w0 w w' : World} {ts : List Thing} {v2 v v' : Value} {vs2 vs : List Value} {rss2 rss : List (List Int)} (h : Law w0 (tM v2 vs2 rss2 :: tM v vs rss :: ts) w)
    (hg : w.grownBy w' v.ownBlock) (ho : w'.ownsRow 0 22 1 v' (vs ++ vs2).length (vs ++ vs2)) (hv : ∀ k, v'.ownBlock = some k → (v.ownBlock = some k ∨ k = w.heap.size) ∧ k < w'.heap.size) :
    Law w0 (tM v' (vs ++ vs2) (rss ++ rss2) :: ts) w' := by
  have hu := h.ownM
  have hM := h.tl.ownM
  have d1 := (List.pairwise_cons.1 h.dis).1
  have d2 := (List.pairwise_cons.1 (List.pairwise_cons.1 h.dis).2).1
  have rM := h.range (tM v vs rss) (by simp)
  have rU := h.range (tM v2 vs2 rss2) (by simp)
  have rT : ∀ t ∈ ts, ∀ k, t.foot k → w0.heap.size ≤ k ∧ k < w.heap.size := fun t ht k hk => h.range t (by simp [ht]) k hk
  have huM : ∀ x ∈ vs2, ∀ k, x.ownBlock = some k → ¬ (tM v vs rss).foot k := fun x hx k hk => d1 (tM v vs rss) (by simp) k (.inr ⟨x, hx, hk⟩)
  have hc : Chg (tM v vs rss).foot w w' := Chg.of_grown hg (fun k e => .inl e)
  have hne : ∀ x : Value, (∀ k, x.ownBlock = some k → v.ownBlock ≠ some k) → x.ownBlock = none ∨ x.ownBlock ≠ v.ownBlock := fun x hx => by
    cases e : x.ownBlock with
    | none => exact .inl rfl
    | some k => exact .inr (fun e2 => hx k e e2.symm)
  have hnew : OwnM w' 0 v' (vs ++ vs2) (rss ++ rss2) := by
    refine ⟨ho, by simp [hM.len, hu.len], ?_, ?_, ?_⟩
    · intro p hp
      rw [List.zip_append hM.len.symm] at hp
      rcases List.mem_append.1 hp with hp | hp
      · exact World.ownsRow.kept (hM.rows p hp) hg (hne p.1 (fun k hk => hM.apart p.1 (List.of_mem_zip hp).1 k hk))
      · exact World.ownsRow.kept (hu.rows p hp) hg (hne p.1 (fun k hk e => huM p.1 (List.of_mem_zip hp).1 k hk (.inl e)))
    · rw [List.pairwise_append]
      refine ⟨hM.dis, hu.dis, fun a ha b hb k hk e => ?_⟩
      exact huM b hb k e (.inr ⟨a, ha, hk⟩)
    · intro x hx k hk e
      have hlt : k < w.heap.size ∧ v.ownBlock ≠ some k := by
        rcases List.mem_append.1 hx with hx | hx
        · exact ⟨(rM k (.inr ⟨x, hx, hk⟩)).2, hM.apart x hx k hk⟩
        · exact ⟨(rU k (.inr ⟨x, hx, hk⟩)).2, fun e => huM x hx k hk (.inl e)⟩
      rcases (hv k e).1 with e | e
      · exact hlt.2 e
      · omega
  have hfoot : ∀ k, (tM v' (vs ++ vs2) (rss ++ rss2)).foot k → (tM v vs rss).foot k ∨ (tM v2 vs2 rss2).foot k ∨ (k = w.heap.size ∧ k < w'.heap.size) := by
    intro k hk
    rcases hk with hk | ⟨x, hx, hk⟩
    · rcases (hv k hk).1 with e | e
      · exact .inl (.inl e)
      · exact .inr (.inr ⟨e, (hv k hk).2⟩)
    · rcases List.mem_append.1 hx with hx | hx
      · exact .inl (.inr ⟨x, hx, hk⟩)
      · exact .inr (.inl (.inr ⟨x, hx, hk⟩))
  refine ⟨?_, ?_, ?_, ?_⟩
  · exact h.below.trans ⟨hc.os, hc.tape, hc.output, hc.size, fun k hk => hc.block k (by have := h.below.size; omega) (fun e => by have := (rM k e).1; omega)⟩
  · intro x hm
    rcases List.mem_cons.1 hm with rfl | hm
    · exact hnew
    · exact x.stable w w' hc.size (fun k hk => hc.block k (rT x hm k hk).2 (fun e => d2 x hm k e hk)) (h.holds x (by simp [hm]))
  · intro x hm k hk
    rcases List.mem_cons.1 hm with rfl | hm
    · rcases hfoot k hk with e | e | e
      · exact ⟨(rM k e).1, Nat.lt_of_lt_of_le (rM k e).2 hc.size⟩
      · exact ⟨(rU k e).1, Nat.lt_of_lt_of_le (rU k e).2 hc.size⟩
      · have := h.below.size
        omega
    · exact ⟨(rT x hm k hk).1, Nat.lt_of_lt_of_le (rT x hm k hk).2 hc.size⟩
  · refine List.pairwise_cons.2 ⟨fun x hm k e1 e2 => ?_, (List.pairwise_cons.1 (List.pairwise_cons.1 h.dis).2).2⟩
    rcases hfoot k e1 with e | e | e
    · exact d2 x hm k e e2
    · exact d1 x (by simp [hm]) k e e2
    · have := (rT x hm k e2).2
      omega

/-- append of all rows of another one, that has some, at a step of a region that draws its order. -/
theorem step_joinM {w0 w : World} {ops : Array Oper} {o : Oper} {a : Act} {K : Act → World → Prop} {Q : Exit → Act → World → Prop} {E : Prop} (hgd : o.guard = none) (s x : Operand)
    (ho : o.op = .call { callee := .builtin .append, args := #[s, x], argTypes := #[37, 37] }) {ts : List Thing} {v : Value} {vs vs2 : List Value} {rss rss2 : List (List Int)} (g0 n0 c0 : Nat)
    (L : Law w0 (tM (.slice (some ⟨g0, 0, none⟩) n0 c0) vs2 rss2 :: tM v vs rss :: ts) w) (hn0 : n0 = vs2.length) (h0 : 0 < n0) (hs : a.eval s = v) (hx : a.eval x = .slice (some ⟨g0, 0, none⟩) n0 c0) (hu1 : ∀ u ∈ vs2, u.oneCell' = true) (hl : vs.length + n0 ≤ 1048576)
    (h : ∀ g cap w', Law w0 (tM (.slice (some ⟨g, 0, none⟩) (vs.length + n0) cap) (vs ++ vs2) (rss ++ rss2) :: ts) w' → K (a.put o.dst (.slice (some ⟨g, 0, none⟩) (vs.length + n0) cap)) w') :
    if Region.wanted o (yielded ops a.tmps) = true then Oper.wp Try.prog o a w K Q else E := by
  subst hn0
  obtain ⟨i0, hi, hz0, hz1, hz2⟩ := info_parts Try.infoL
  refine step_append_lies w hgd s x 37 ho 0 22 i0 (.slice none 0 0) 1 24 Try.underlying37 hi hz0 hz1 hz2 rfl (by decide) v vs.length vs hs L.tl.ownM.outer ⟨g0, 0, none⟩ vs2.length c0 vs2 hx (by omega) ?_ hu1 h0 (by unfold maxLen; omega) (by omega) (Nat.zero_le _) _ rfl ?_
  · intro j y hy
    obtain ⟨hj, rfl⟩ := List.getElem?_eq_some_iff.1 hy
    rw [Addr.add_lit]
    have := L.ownM.cell j hj
    simpa using this
  · intro g cap w' h1 h2 h3 h4
    refine h g cap w' (L.joinM h2 (by simpa using h1) (fun k hk => ?_))
    have e : g = k := by simpa [Value.ownBlock] using hk
    subst e
    exact ⟨h3, h4⟩

end Go.Proofs.Ytakdiiccdkjjcab
end

section
namespace Go.Proofs.Ytakdiiccdkjjcab
open Go.RowKit Go.WideShapes

theorem own_oneCell {w : World} {lo : Nat} {v : Value} {xs : List Int} (h : Own w lo v xs) : v.oneCell' = true := by
  rcases h.cases with ⟨rfl, _⟩ | ⟨g, cap, rfl, _⟩ <;> rfl

theorem OwnM.formR {w : World} {lo : Nat} {v : Value} {vs : List Value} {rss : List (List Int)} (h : OwnM w lo v vs rss) : ∃ a cap, v = .slice a rss.length cap := by
  rcases h.cases with ⟨rfl, rfl⟩ | ⟨g, cap, rfl, _⟩
  · have : rss = [] := by simpa using h.len
    subst this
    exact ⟨none, 0, rfl⟩
  · rw [h.len]
    exact ⟨_, _, rfl⟩

/-- One row alone. -/
theorem OwnM.single {w : World} {lo : Nat} {u : Value} {r : List Int} (hu : Own w lo u r) (hlo : lo ≤ w.heap.size) :
    OwnM (w.alloc (.cells #[u] 22)) lo (.slice (some ⟨w.heap.size, 0, none⟩) 1 1) [u] [r] := by
  refine ⟨?_, rfl, ?_, by simp, ?_⟩
  · exact World.ownsRow_lit w #[u] 1 hlo (by unfold maxLen; omega) rfl
  · intro p hp
    simp at hp
    subst hp
    exact hu.kept (below_new _)
  · intro x hx k hk
    simp at hx
    subst hx
    have := own_lt hu k hk
    intro e
    have : k = w.heap.size := by simpa [Value.ownBlock] using e.symm
    omega

/-- append of all rows of another one, where nothing is drawn; of nothing, too. -/
theorem wp_joinE {w0 w : World} {ops : Array Oper} {rest : List Oper} {o : Oper} {a : Act} {Q : Exit → Act → World → Prop} (hgd : o.guard = none) (s x : Operand)
    (ho : o.op = .call { callee := .builtin .append, args := #[s, x], argTypes := #[37, 37] }) {ts : List Thing} {v v2 : Value} {vs vs2 : List Value} {rss rss2 : List (List Int)}
    (L : Law w0 (tM v2 vs2 rss2 :: tM v vs rss :: ts) w) (h2 : vs2 = [] → v2 = .slice none 0 0) (h1 : vs = [] → v = .slice none 0 0) (hs : a.eval s = v) (hx : a.eval x = v2) (hl : rss.length + rss2.length ≤ 1048576)
    (h : ∀ v' vs' w', Law w0 (tM v' vs' (rss ++ rss2) :: ts) w' → (vs' = [] → v' = .slice none 0 0) → wpList Try.prog ops Q rest (a.put o.dst v') w') : wpList Try.prog ops Q (o :: rest) a w := by
  have e1 := L.tl.ownM.len
  have e2 := L.ownM.len
  obtain ⟨i0, hi, hz0, hz1, hz2⟩ := info_parts Try.infoL
  by_cases hz : vs2 = []
  · have hv := h2 hz
    subst hz hv
    have hr : rss2 = [] := by simpa using e2
    subst hr
    refine wpList_append_own_none hgd s x 37 ho 0 22 i0 1 Try.underlying37 hi v vs.length vs hs L.tl.ownM.outer hx ?_
    refine h v vs w ?_ h1
    rw [List.append_nil]
    exact L.tl
  · rcases L.ownM.cases with ⟨_, h⟩ | ⟨g, cap, rfl, q1, q2, q3, q4⟩
    · exact absurd h hz
    · refine wpList_append_lies w hgd s x 37 ho 0 22 i0 (.slice none 0 0) 1 24 Try.underlying37 hi hz0 hz1 hz2 rfl (by decide) v vs.length vs hs L.tl.ownM.outer ⟨g, 0, none⟩ vs2.length cap vs2 hx (by omega) ?_ (fun u hu => ?_) (List.length_pos_iff.2 hz) (by unfold maxLen; omega) (by omega) (Nat.zero_le _) _ rfl ?_
      · intro j y hy
        obtain ⟨hj, rfl⟩ := List.getElem?_eq_some_iff.1 hy
        rw [Addr.add_lit]
        have := L.ownM.cell j hj
        simpa using this
      · obtain ⟨b, hb⟩ := mem_zip_of vs2 rss2 e2 u hu
        exact own_oneCell (L.ownM.rows _ hb)
      · intro g' cap' w' p1 p2 p3 p4
        refine h _ _ w' (L.joinM p2 (by simpa using p1) (fun k hk => ?_)) (fun e => by simp [hz] at e)
        have e : g' = k := by simpa [Value.ownBlock] using hk
        subst e
        exact ⟨p3, p4⟩

end Go.Proofs.Ytakdiiccdkjjcab
end

section
namespace Go.Proofs.Ytakdiiccdkjjcab
open Go.RowKit Go.WideShapes

set_option maxRecDepth 100000 in
set_option maxHeartbeats 1600000 in
theorem grow_any (n : Nat) (w : World) (h0 : 0 < n) (hn : n ≤ 1048576) :
    Calls Try.prog 146 #[.slice none 0 0, .int .i64 n] w fun e w' => ∃ g cap, e = .returned (.slice (some ⟨g, 0, none⟩) 0 cap) ∧ Own w' w.heap.size (.slice (some ⟨g, 0, none⟩) 0 cap) [] ∧ Below w.heap.size w w' := by
  obtain ⟨i0, hi, hz0, hz1, hz2⟩ := info_parts Try.infoI
  have happ := fun (W : World) => Lib.run_append_nil_zeros (P := Try.prog) W 22 3 22 3 i0 (.int .i64 0) .i64 .i64 Try.underlying22 Try.underlying3 hi hz0 n h0 (by omega) (by omega) (by rw [hz2]; omega)
  have hG := fun (W : World) => grownCap_ge W n 0 3
  have hM := fun (W : World) => grownCap_le_maxLen W n 0 3 (by unfold maxLen; omega)
  have hZ : ∀ (W : World), (Builtin.zeroCells (Value.int .i64 0).cells n ++ Builtin.zeroCells (Value.int .i64 0).cells (grownCap W n 0 3 - n)).size = grownCap W n 0 3 := fun W => by
    have := hG W
    simp [size_zeroCells, Value.cells]
    omega
  have hfin : Own (w.drew.alloc (.cells (Builtin.zeroCells (Value.int .i64 0).cells n ++ Builtin.zeroCells (Value.int .i64 0).cells (grownCap w n 0 3 - n)) 3)) w.heap.size (.slice (some ⟨w.heap.size, 0, none⟩) 0 (grownCap w n 0 3)) [] ∧
      Below w.heap.size w (w.drew.alloc (.cells (Builtin.zeroCells (Value.int .i64 0).cells n ++ Builtin.zeroCells (Value.int .i64 0).cells (grownCap w n 0 3 - n)) 3)) := by
    refine ⟨⟨by simp, .inr ⟨w.heap.size, grownCap w n 0 3, _, rfl, Nat.le_refl _, heap_alloc_new _ _, Nat.zero_le _, hM w, ?_, by simp⟩⟩, ((Below.refl _ _).drew).trans (below_new (w := w.drew) _)⟩
    rw [hZ w, Nat.mul_one]
  have HF := Lib.hid hfin
  have hcap := hG w
  generalize hzz : (Builtin.zeroCells (Value.int .i64 0).cells n ++ Builtin.zeroCells (Value.int .i64 0).cells (grownCap w n 0 3 - n)) = Z at HF
  have happ0 := happ w
  rw [hzz] at happ0
  generalize grownCap w n 0 3 = C at *
  have hn0 : ¬ ((n : Int) < 0) := by omega
  have hn1 : (n : Int) > 0 := by omega
  have hC : (n : Int) ≤ C := by omega
  clear hfin hzz happ hG hM hZ
  go_enter Try.func146, Try.ntmps146
  go_wp2_with (at_builtin; refine Lib.wpList_append_run _ rfl _ _ 22 3 rfl _ _ rfl rfl _ _ happ0 ?_)
  go_wp2_with fail
  go_ret
  exact ⟨_, _, rfl, HF.out.1, HF.out.2⟩

theorem Src.kept' {w w' : World} {v : Value} {ys : List Int} (h : Src w v ys) (hb : Below w.heap.size w w') : Src w' v ys := h.kept hb
/-- The first k lists, one behind the other. -/
def catY (Y : Nat → List Int) : Nat → List Int
  | 0 => []
  | k + 1 => catY Y k ++ Y k
theorem catY_len (Y : Nat → List Int) (L : Nat) (k n : Nat) (hk : k ≤ n) (h : (catY Y n).length ≤ L) : (catY Y k).length ≤ L := by
  induction n with
  | zero => rw [show k = 0 by omega]; exact h
  | succ n ih =>
    by_cases e : k = n + 1
    · rw [e]; exact h
    · refine ih (by omega) ?_
      rw [catY, List.length_append] at h
      omega
theorem src_len {w : World} {v : Value} {ys : List Int} (h : Src w v ys) : ∃ a c, v = .slice a ys.length c := by
  rcases h with ⟨rfl, rfl⟩ | ⟨ad, cap, rfl, _⟩
  · exact ⟨none, 0, rfl⟩
  · exact ⟨_, _, rfl⟩

set_option maxRecDepth 100000 in
set_option maxHeartbeats 3200000 in
theorem concat_any (g0 n c : Nat) (S : Nat → Value) (Y : Nat → List Int) (w : World) (hn : n ≤ 1048576) (hg0 : g0 < w.heap.size) (h0 : 0 < (catY Y n).length) (hl : (catY Y n).length ≤ 1048576)
    (hc : ∀ k, k < n → w.cell? ⟨g0, k, none⟩ = some (S k)) (hs : ∀ k, k < n → Src w (S k) (Y k)) :
    Calls Try.prog 138 #[.slice (some ⟨g0, 0, none⟩) n c] w fun e w' => ∃ v, e = .returned v ∧ Own w' w.heap.size v (catY Y n) ∧ Below w.heap.size w w' := by
  have HC := Lib.hid hc
  have HS := Lib.hid hs
  have HL := Lib.hid (fun k (hk : k ≤ n) => catY_len Y _ k n hk hl)
  have HG := Lib.hid (fun W => grow_any (catY Y n).length W h0 hl)
  obtain ⟨T, hT⟩ : ∃ T, T = (catY Y n).length := ⟨_, rfl⟩
  rw [← hT] at HG
  have HT := Lib.hid hT
  clear hc hs h0 hl hT
  go_enter Try.func138, Try.ntmps138
  go_wp2_with fail
  go_loopw [3, 11] (fun z i wr => ∃ k : Nat, k ≤ n ∧ i = .int .i64 k ∧ z = .int .i64 ((catY Y k).length : Int) ∧ w = wr) (fun _ i _ => n - (intOf i).toNat)
  case atStart => exact ⟨0, Nat.zero_le _, rfl, rfl, rfl⟩
  case round =>
    obtain ⟨k, hk, rfl, rfl, hww⟩ := hrel
    subst hww
    by_cases hlt : k < n
    · have hck := HC.out k hlt
      obtain ⟨a, c1, hv⟩ := src_len (HS.out k hlt)
      rw [hv] at hck
      have hz := HL.out (k + 1) hlt
      have hsum : ((catY Y k).length : Int) + ((Y k).length : Int) = ((catY Y (k + 1)).length : Int) := by rw [catY, List.length_append]; omega
      have hw : wrap64 (((catY Y k).length : Int) + ((Y k).length : Int)) = ((catY Y (k + 1)).length : Int) := by rw [hsum]; exact IntWalk.wrap64_in _ (by omega)
      have hpos : ¬ (((catY Y (k + 1)).length : Int) < 0) := by omega
      have HW := Lib.hid hw
      obtain ⟨z3, hz3⟩ : ∃ z3, z3 = (catY Y (k + 1)).length := ⟨_, rfl⟩
      rw [← hz3] at hw hz hpos HW hsum
      have HZ3 := Lib.hid hz3
      generalize (catY Y k).length = z1 at *
      generalize (Y k).length = z2 at *
      clear hsum hv hz hz3
      go_wp2_with fail
      go_roundw
      case rel => exact ⟨k + 1, by omega, by go_num, by rw [HW.out, HZ3.out], by first | rfl | trivial⟩
      case measure => simp [intOf]; omega
    · obtain rfl : k = n := by omega
      rw [← HT.out]
      go_wp2_with fail
      refine (HG.out _).mono ?_
      rintro e w1 ⟨g, cap, rfl, hO, hb⟩
      have HO1 := Lib.hid (And.intro hO hb)
      clear hO hb
      go_wp2_with fail
      go_loopw [6, 27] (fun v i ws => ∃ j : Nat, j ≤ k ∧ i = .int .i64 j ∧ Hid (Own ws w.heap.size v (catY Y j) ∧ Below w.heap.size w ws)) (fun _ i _ => k - (intOf i).toNat)
      case atStart => exact ⟨0, Nat.zero_le _, rfl, HO1⟩
      case round =>
        clear HO1
        obtain ⟨j, hj, rfl, HO⟩ := hrel
        by_cases hlt2 : j < k
        · have hck := (HO.out.2.cell (p := ⟨g0, j, none⟩) hg0).trans (HC.out j hlt2)
          obtain ⟨a, c1, hv⟩ := src_len (HS.out j hlt2)
          have hsrc := (HS.out j hlt2).kept HO.out.2
          rw [hv] at hck hsrc
          have HSR := Lib.hid hsrc
          have HZ := Lib.hid (HL.out (j + 1) hlt2)
          rw [show (catY Y (j + 1)) = catY Y j ++ Y j from rfl] at HZ
          clear hsrc hv
          go_wp2_with (at_builtin; refine wp_append rfl _ _ rfl w.heap.size _ (catY Y j) (Y j) _ rfl rfl HO.out.1 HSR.out ?h1 ?h2 ?_)
          case h1 => have := HZ.out; rw [List.length_append] at this; exact this
          case h2 => exact HO.out.2.size
          intro v' w' hO hg
          have HO2 : Hid (Own w' w.heap.size v' (catY Y (j + 1)) ∧ Below w.heap.size w w') := Lib.hid ⟨hO, HO.out.2.grown hg HO.out.2.size (fun k hk => (own_lt HO.out.1 k hk).1)⟩
          clear hO hg HO HSR HZ
          go_wp2_with fail
          go_roundw
          case rel => exact ⟨j + 1, by omega, by go_num, HO2⟩
          case measure => simp [intOf]; omega
        · obtain rfl : j = k := by omega
          go_wp2_with fail
          go_ret
          exact ⟨_, rfl, HO.out.1, HO.out.2⟩

end Go.Proofs.Ytakdiiccdkjjcab
end
