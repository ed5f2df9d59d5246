import Derived.Test.YtdimbnkgomfojabFold23
import Derived.Test.YtdimbnkgomfojabFold20
import Derived.Test.YtdimbnkgomfojabFold18
import Derived.Deep.DeepAppendRoom
import Derived.Deep.RegionLaw
import Derived.Test.YtdimbnkgomfojabFold19

section
namespace Go.Proofs.Ytdimbnkgomfojab
open Go.RowKit Go.WideShapes

/-- append of one row where there is room, at a step of a region that draws its order. -/
theorem step_spareM {ops : Array Oper} {o : Oper} {a : Act} {w : World} {K : Act → World → Prop} {Q : Exit → Act → World → Prop} {E : Prop} (hgd : o.guard = none) (s x : Operand)
    (ho : o.op = .call { callee := .builtin .append, args := #[s, x], argTypes := #[35, 35] }) (g n cap : Nat) (vs : List Value) (u : Value) (g0 : Nat)
    (hs : a.eval s = .slice (some ⟨g, 0, none⟩) n cap) (hown : w.ownsRow 0 22 1 (.slice (some ⟨g, 0, none⟩) n cap) n vs) (hx : a.eval x = .slice (some ⟨g0, 0, none⟩) 1 1) (hnew : w.cell? ⟨g0, 0, none⟩ = some u) (hu : u.oneCell' = true) (hroom : n + 1 ≤ cap)
    (h : ∀ w', w'.ownsRow 0 22 1 (.slice (some ⟨g, 0, none⟩) (n + 1) cap) (n + 1) (vs ++ [u]) → w.grownBy w' (some g) → K (a.put o.dst (.slice (some ⟨g, 0, none⟩) (n + 1) cap)) w') :
    if Region.wanted o (yielded ops a.tmps) = true then Oper.wp Try.prog o a w K Q else E := by
  obtain ⟨i0, hi, hz0, hz1, hz2⟩ := info_parts Try.infoL
  have hw : Region.wanted o (yielded ops a.tmps) = true := by simp [Region.wanted, hgd]
  rw [if_pos hw]
  refine wp_append_own_spare w s x 35 ho 0 22 i0 1 Try.underlying35 hi hz1 g n cap vs hs hown ⟨g0, 0, none⟩ 1 1 [u] hx rfl ?_ (by intro y hy; simp at hy; subst hy; exact hu) hroom h
  intro j y hy
  match j, hy with
  | 0, hy =>
    simp at hy
    subst hy
    rw [Addr.add_lit]
    exact hnew

theorem cell_grown {w w' : World} {g b o : Nat} {v : Value} (hg : w.grownBy w' (some g)) (h : w.cell? ⟨b, o, none⟩ = some v) (hb : b ≠ g) : w'.cell? ⟨b, o, none⟩ = some v := by
  have hlt := World.block_lt_of_cell? _ _ h
  rw [cell_of_block (hg.block b hlt (by simpa using hb))]
  exact h

theorem Has.grown {w w' : World} {g b : Nat} {cs : List Value} {t : TypeId} (h : Has w b cs t) (hg : w.grownBy w' (some g)) (hb : b ≠ g) : Has w' b cs t :=
  (hg.block b h.lt (by simpa using hb)).trans h

/-- What the visitor of PlacementsOf keeps behind j placements: z blocks lay before the walk. -/
structure Plk (z g bl bgr cnt n m : Nat) (M : Nat → Int) (LL : List (List Int)) (bp j : Nat) (w : World) : Prop where
  lt : bp < w.heap.size
  rows : ∃ vs, OwnM w 0 (.slice (some ⟨g, 0, none⟩) j cnt) vs (LL.take j) ∧ vs.length = j ∧ ∀ u ∈ vs, ∀ k, u.ownBlock = some k → z ≤ k ∧ k ≠ bp
  box : Has w bl [.slice (some ⟨g, 0, none⟩) j cnt] 35
  grid : Has w bgr (gl n m M) 68
theorem Plk.stay {z g bl bgr cnt n m : Nat} {M : Nat → Int} {LL : List (List Int)} {bp j : Nat} {w w' : World} (h : Plk z g bl bgr cnt n m M LL bp j w) (hz : z ≤ bp) (h1 : g < z) (h2 : bl < z) (h3 : bgr < z) (hc : Chg (fun b => b = bp) w w') : Plk z g bl bgr cnt n m M LL bp j w' := by
  obtain ⟨vs, hM, hl, hk⟩ := h.rows
  refine ⟨Nat.lt_of_lt_of_le h.lt hc.size, ⟨vs, hM.stay (row := some bp) ⟨hc.os, hc.tape, hc.output, hc.size, fun k hk hn => hc.block k hk (fun e => hn (by rw [e]))⟩ (.inr (by simp [Value.ownBlock]; omega)) (fun u hu => ?_), hl, hk⟩, Chg.has hc (by omega) h.box, Chg.has hc (by omega) h.grid⟩
  cases e : u.ownBlock with
  | none => exact .inl rfl
  | some k => exact .inr (by have := (hk u hu k e).2; simpa using this)
theorem OwnM.stayB {w w' : World} {lo : Nat} {v : Value} {vs : List Value} {rss : List (List Int)} (h : OwnM w lo v vs rss) (hb : Below w.heap.size w w') : OwnM w' lo v vs rss :=
  h.stay (row := none) ⟨hb.os, hb.tape, hb.output, hb.size, fun k hk _ => hb.block k hk⟩ (by cases v.ownBlock <;> simp) (fun u _ => by cases u.ownBlock <;> simp)

theorem Law.ofM {w : World} {v : Value} {vs : List Value} {rss : List (List Int)} (h : OwnM w 0 v vs rss) : Law { w with heap := #[] } [tM v vs rss] w := by
  refine ⟨⟨rfl, rfl, rfl, Nat.zero_le _, fun k hk => by simp at hk⟩, ?_, ?_, by simp⟩
  · intro t ht
    simp at ht
    subst ht
    exact h
  · intro t ht k hk
    simp at ht
    subst ht
    rcases hk with hk | ⟨u, hu, hk⟩
    · exact ⟨Nat.zero_le _, (h.lt.1 k hk).2⟩
    · exact ⟨Nat.zero_le _, (h.lt.2 u hu k hk).2⟩
theorem plk_next (z g bl bgr cnt n m : Nat) (M : Nat → Int) (LL : List (List Int)) (bp j : Nat) (vs : List Value) (ga : Nat) (w w5 wA w3 : World) (F : Nat → Int) (P : List Int) (hz : z ≤ bp) (h1 : g < z) (h2 : bl < z) (d1 : bl ≠ g) (d3 : bl ≠ bgr)
    (hbw : bp < w.heap.size) (hb : Below w.heap.size w w5) (hlt : w.heap.size < w5.heap.size) (hM : OwnM (w5.drewN 1) 0 (.slice (some ⟨g, 0, none⟩) j cnt) vs (LL.take j)) (hvl : vs.length = j) (hvk : ∀ u ∈ vs, ∀ k, u.ownBlock = some k → z ≤ k ∧ k ≠ bp)
    (ht : LL.take j ++ [P] = LL.take (j + 1)) (hP : lstI n F = P) (hA : Below w5.drew.heap.size w5.drew wA) (hOA : Own wA w5.drew.heap.size (.slice (some ⟨ga, 0, none⟩) n n) (lstI n F))
    (hO3 : w3.ownsRow 0 22 1 (.slice (some ⟨g, 0, none⟩) (j + 1) cnt) (j + 1) (vs ++ [.slice (some ⟨ga, 0, none⟩) n n])) (hg3 : (wA.alloc (.cells #[.slice (some ⟨ga, 0, none⟩) n n] 22)).grownBy w3 (some g))
    (hB3 : Has w3 bl [.slice (some ⟨g, 0, none⟩) j cnt] 35) (hG3 : Has w3 bgr (gl n m M) 68) :
    Plk z g bl bgr cnt n m M LL bp (j + 1) (w3.setCell ⟨bl, 0, none⟩ (.slice (some ⟨g, 0, none⟩) (j + 1) cnt)) ∧ Chg (fun b => b = g ∨ b = bl) w (w3.setCell ⟨bl, 0, none⟩ (.slice (some ⟨g, 0, none⟩) (j + 1) cnt)) := by
  have s1 := hA.size
  have s2 := hg3.size
  simp only [World.size_alloc] at s2
  have s3 : w5.drew.heap.size = w5.heap.size := rfl
  have hgaB := own_lt hOA ga rfl
  have hl2 : (vs ++ [Value.slice (some ⟨ga, 0, none⟩) n n]).length = j + 1 := by simp [hvl]
  have L1 : Law { w5.drew with heap := #[] } [tM (.slice (some ⟨g, 0, none⟩) j cnt) vs (LL.take j)] w5.drew := Law.ofM (w := w5.drew) hM
  have L2 := (L1.own hA hOA).kept (below_new (w := wA) (.cells #[.slice (some ⟨ga, 0, none⟩) n n] 22))
  have L3 := L2.pushM (v' := .slice (some ⟨g, 0, none⟩) (j + 1) cnt) hg3 (by rw [hl2]; exact hO3) (fun k hk => by
    have e : g = k := by simpa [Value.ownBlock] using hk
    subst e
    exact ⟨.inl rfl, by omega⟩)
  rw [hP, ht] at L3
  have hM3 := L3.ownM
  have hs : (w3.setCell ⟨bl, 0, none⟩ (.slice (some ⟨g, 0, none⟩) (j + 1) cnt)).heap.size = w3.heap.size := by simp [World.setCell]
  have hk2 : ∀ u ∈ vs ++ [Value.slice (some ⟨ga, 0, none⟩) n n], ∀ k, u.ownBlock = some k → z ≤ k ∧ k ≠ bp := fun u hu k hk => by
    rcases List.mem_append.1 hu with hu | hu
    · exact hvk u hu k hk
    · simp at hu
      subst hu
      have e : ga = k := by simpa [Value.ownBlock] using hk
      omega
  have hgr : w3.grownBy (w3.setCell ⟨bl, 0, none⟩ (.slice (some ⟨g, 0, none⟩) (j + 1) cnt)) (some bl) := ⟨rfl, rfl, rfl, by omega, fun k _ hn => Below.heap_setCell w3 ⟨bl, 0, none⟩ _ k (fun e => hn (by rw [e]))⟩
  refine ⟨⟨by omega, ⟨_, hM3.stay hgr (.inr (by simpa [Value.ownBlock] using fun e => d1 e.symm)) (fun u hu => ?_), hl2, hk2⟩, ?_, hG3.setOff bl 0 _ (fun e => d3 e.symm)⟩, ?_⟩
  · cases e : u.ownBlock with
    | none => exact .inl rfl
    | some k => exact .inr (by have := (hk2 u hu k e).1; simp; omega)
  · have := hB3.set 0 (.slice (some ⟨g, 0, none⟩) (j + 1) cnt)
    simpa using this
  · have c1 : Chg (fun b => b = g ∨ b = bl) w wA := (Chg.of_below hb).trans ((Chg.of_below (show Below w5.heap.size w5 w5.drew from (Below.refl _ _).drew)).trans (Chg.of_below hA))
    exact (c1.trans (Chg.of_below (below_new _))).trans ((Chg.of_grown hg3 (fun k e => .inl (by injection e with e; exact e.symm))).trans (Chg.of_set w3 bl 0 _ (.inr rfl)))

theorem OwnM.raise {w : World} {lo : Nat} {v : Value} {vs : List Value} {rss : List (List Int)} (h : OwnM w 0 v vs rss) (hv : ∀ k, v.ownBlock = some k → lo ≤ k) (hu : ∀ u ∈ vs, ∀ k, u.ownBlock = some k → lo ≤ k) : OwnM w lo v vs rss := by
  have up : ∀ (e : TypeId) (n : Nat) (u : Value) (xs : List Value), (∀ k, u.ownBlock = some k → lo ≤ k) → w.ownsRow 0 e 1 u n xs → w.ownsRow lo e 1 u n xs := fun e n u xs hq h => by
    refine ⟨h.1, ?_⟩
    rcases h.2 with h | ⟨g, cap, cur, hv, hg, r⟩
    · exact .inl h
    · exact .inr ⟨g, cap, cur, hv, hq g (by rw [hv]; rfl), r⟩
  exact ⟨up _ _ _ _ hv h.outer, h.len, fun p hp => up _ _ _ _ (hu p.1 (List.of_mem_zip hp).1) (h.rows p hp), h.dis, h.apart⟩
theorem lst_pl (P : List Int) (n : Nat) (h : P.length = n) : lstI n (plF P n) = P := by
  refine List.ext_getElem (by simp [lstI, h]) (fun k h1 h2 => ?_)
  simp only [lstI, List.getElem_map, List.getElem_range]
  unfold plF
  rw [if_pos (by omega)]
  simp [List.getD, h2]

end Go.Proofs.Ytdimbnkgomfojab
end

section
namespace Go.Proofs.Ytdimbnkgomfojab
open Go.RowKit Go.WideShapes

theorem OwnM.form {w : World} {lo : Nat} {v : Value} {vs : List Value} {rss : List (List Int)} (h : OwnM w lo v vs rss) : ∃ a cap, v = .slice a vs.length cap ∧ ∀ k (hk : k < vs.length), ∃ g, a = some ⟨g, 0, none⟩ ∧ w.cell? ⟨g, k, none⟩ = some vs[k] := by
  rcases h.cases with ⟨rfl, rfl⟩ | ⟨g, cp, rfl, _⟩
  · exact ⟨none, 0, rfl, fun k hk => absurd hk (by simp)⟩
  · exact ⟨_, cp, rfl, fun k hk => ⟨g, rfl, h.cell k hk⟩⟩

/-- What a call answers that tells a list of lists. -/
structure MR where
  zz : List (List Int)
  ok : Bool
def AnsM (R : MR) (w : World) (e : Ending) (w' : World) : Prop := ∃ s v, e = .returned (.tuple #[s, .bool R.ok]) ∧ OwnM w' w.heap.size s v R.zz ∧ Below w.heap.size w w'
theorem own_freshM {w : World} {lo n : Nat} (h : w.ownsRow lo 22 1 (.slice (some ⟨lo, 0, none⟩) 0 n) 0 []) : OwnM w lo (.slice (some ⟨lo, 0, none⟩) 0 n) [] [] :=
  ⟨h, rfl, by simp, by simp, by simp⟩

end Go.Proofs.Ytdimbnkgomfojab
end
