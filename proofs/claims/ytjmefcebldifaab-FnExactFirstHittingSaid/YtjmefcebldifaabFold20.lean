import Derived.Test.YtjmefcebldifaabFold16
import Derived.Test.YtjmefcebldifaabFold17
import Derived.Test.YtjmefcebldifaabFold18
import Derived.Test.YtjmefcebldifaabFold19
import Derived.Deep.DeepAppendRoom
import Derived.Deep.RegionLaw
import Derived.Test.YtjmefcebldifaabFold7

section
namespace Go.Proofs.Ytjmefcebldifaab
open Go.RowKit Go.WideShapes

set_option maxRecDepth 100000 in
set_option maxHeartbeats 6400000 in
/-- A walk whose visitor keeps things that are made on the way: of what the walk itself writes, the places alone are named to it. -/
theorem walk_any2 (n m k : Nat) (M : Nat → Int) (V : FuncId) (first cap : Array Value) (foot : Nat → Prop) (I : Nat → Nat → World → Prop) (cont : Nat → Bool) (w : World)
    (hn : n ≤ 6) (hm : m ≤ 6) (hk : k ≤ 6) (hgc : ∀ k, k < 6 → 0 ≤ M k ∧ M k < 64)
    (hfoot : ∀ b, foot b → b < w.heap.size) (hkeep : ∀ bp j w1 w2, w.heap.size ≤ bp → Chg (fun b => b = bp) w1 w2 → I bp j w1 → I bp j w2)
    (hcall : ∀ (args : Array Value) (w : World), (callFunc V args).run Try.prog w = .ok (.enter V args) w)
    (hvis : ∀ bp, w.heap.size ≤ bp → ∀ j P, (pl m (bM M) n 0 0 k)[j]? = some P → ∀ w, I bp j w → Calls Try.prog V (first.push (pv6 (plF P n)) ++ cap) w fun e w' => e = .returned (.bool (cont j)) ∧ I bp (j + 1) w' ∧ Chg foot w w')
    (hI : ∀ bp w', w.heap.size ≤ bp → bp < w'.heap.size → Below w.heap.size w w' → I bp 0 w') :
    Calls Try.prog 79 #[gv n m M, .int .i64 k, .func (.func V) first cap] w fun e w' => e = .returned (.tuple #[]) ∧ ∃ bp, w.heap.size ≤ bp ∧ I bp (runV cont 0 (wR m (bM M) n 0 0 k)).1 w' ∧ Chg foot w w' := by
  have L0 := ((Law.start w).has (gl n m M) 56).has [.func (.func V) first cap] 65
  simp only [World.size_alloc] at L0
  have HL := Lib.hid L0
  have HV := Lib.hid hvis
  have HKP := Lib.hid hkeep
  have HFT := Lib.hid hfoot
  have HIW := Lib.hid hI
  have HGC := Lib.hid hgc
  have HLEN := Lib.hid (pl_len m (bM M) n 0 0 k)
  clear L0 hvis hkeep hfoot hI hgc
  go_enter Try.func79, Try.ntmps79
  go_wp2_with fail
  refine (noPlaces_any _).mono ?_
  rintro e w1 ⟨rfl, hb⟩
  have L1 := ((HL.out.kept hb).has (pl6 (fun _ => -1)) 59).has [.func (.func 88) #[] #[.pointer (some ⟨w.heap.size, 0, none⟩), .pointer (some ⟨w.heap.size + 1, 0, none⟩), .pointer (some ⟨w1.heap.size, 0, none⟩), .pointer (some ⟨w1.heap.size + 1, 0, none⟩)]] 61
  simp only [World.size_alloc] at L1
  rw [show (w1.alloc (.cells (pl6 (fun _ => -1)).toArray 59)) = (w1.alloc (.cells #[.int .i64 (-1), .int .i64 (-1), .int .i64 (-1), .int .i64 (-1), .int .i64 (-1), .int .i64 (-1)] 59)) from rfl] at L1
  have hz1 := hb.size
  simp only [World.size_alloc] at hz1
  have L2 : Law w [tHas (w1.heap.size + 1) [.func (.func 88) #[] #[.pointer (some ⟨w.heap.size, 0, none⟩), .pointer (some ⟨w.heap.size + 1, 0, none⟩), .pointer (some ⟨w1.heap.size, 0, none⟩), .pointer (some ⟨w1.heap.size + 1, 0, none⟩)]] 61, tHas w1.heap.size (pl6 (fun _ => -1)) 59, tHas (w.heap.size + 1) [.func (.func V) first cap] 65, tHas w.heap.size (gl n m M) 56] ((w1.alloc (.cells #[.int .i64 (-1), .int .i64 (-1), .int .i64 (-1), .int .i64 (-1), .int .i64 (-1), .int .i64 (-1)] 59)).alloc (.cells #[.func (.func 88) #[] #[.pointer (some ⟨w.heap.size, 0, none⟩), .pointer (some ⟨w.heap.size + 1, 0, none⟩), .pointer (some ⟨w1.heap.size, 0, none⟩), .pointer (some ⟨w1.heap.size + 1, 0, none⟩)]] 61)) := L1
  have HL1 := Lib.hid L2
  clear L1 L2 hb HL
  go_upto_region 4 with fail
  generalize (w1.alloc (.cells #[.int .i64 (-1), .int .i64 (-1), .int .i64 (-1), .int .i64 (-1), .int .i64 (-1), .int .i64 (-1)] 59)).alloc (.cells #[.func (.func 88) #[] #[.pointer (some ⟨w.heap.size, 0, none⟩), .pointer (some ⟨w.heap.size + 1, 0, none⟩), .pointer (some ⟨w1.heap.size, 0, none⟩), .pointer (some ⟨w1.heap.size + 1, 0, none⟩)]] 61) = w5 at *
  have v0 := HL1.out.ownHas.cell 0
  simp only [List.getElem?_cons_zero] at v0
  have hok : WkOk n V first cap w.heap.size (w.heap.size + 1) w1.heap.size (w1.heap.size + 1) foot (I w1.heap.size) cont (pl m (bM M) n 0 0 k) :=
    ⟨by omega, by omega, by omega, fun h => by have := HFT.out _ h; omega, fun h => by have := HFT.out _ h; omega, fun h => by have := HFT.out _ h; omega, fun h => by have := HFT.out _ h; omega,
      fun j a b hc hi => HKP.out w1.heap.size j a b (by omega) hc hi, hcall, HV.out w1.heap.size (by omega)⟩
  have hwk : Wk n m M V first cap w.heap.size (w.heap.size + 1) w1.heap.size (w1.heap.size + 1) (I w1.heap.size) (plF [] 0) 0 w5 :=
    ⟨HL1.out.tl.tl.tl.ownHas, HL1.out.tl.tl.ownHas, HL1.out.tl.ownHas, HL1.out.ownHas, HIW.out w1.heap.size w5 (by omega) HL1.out.tl.ownHas.lt HL1.out.below⟩
  have hr := walk1_any n m M V first cap w.heap.size (w.heap.size + 1) w1.heap.size (w1.heap.size + 1) foot (I w1.heap.size) cont (pl m (bM M) n 0 0 k) hn hm HGC.out hok n 0 0 k [] (by omega) (by omega) hk rfl 0 [] (by simp) w5 hwk
  rw [show ((0 : Nat) : Int) = 0 from rfl, HLEN.out] at hr
  have HR := Lib.hid hr
  have HB := Lib.hid HL1.out.below
  clear hr hwk hok HL1 hcall
  go_wp2_with fail
  refine HR.out.mono ?_
  rintro e w6 ⟨rfl, hW, hC⟩
  rw [Nat.zero_add] at hW
  have HE := Lib.hid (show ∃ bp, w.heap.size ≤ bp ∧ I bp (runV cont 0 (wR m (bM M) n 0 0 k)).1 w6 ∧ Chg foot w w6 from
    ⟨w1.heap.size, by omega, hW.inv, hC.os.trans HB.out.os, hC.tape.trans HB.out.tape, hC.output.trans HB.out.output, Nat.le_trans HB.out.size hC.size, fun b hb hf => (hC.block b (Nat.lt_of_lt_of_le hb HB.out.size) (fun h => h.elim (fun h2 => by omega) hf)).trans (HB.out.block b hb)⟩)
  clear hW hC HR
  go_wp2_with fail
  go_end0
  exact ⟨rfl, HE.out⟩

/-- append of one row where there is room, at a step of a region that draws its order. -/
theorem step_spareM {ops : Array Oper} {o : Oper} {a : Act} {w : World} {K : Act → World → Prop} {Q : Exit → Act → World → Prop} {E : Prop} (hgd : o.guard = none) (s x : Operand)
    (ho : o.op = .call { callee := .builtin .append, args := #[s, x], argTypes := #[34, 34] }) (g n cap : Nat) (vs : List Value) (u : Value) (g0 : Nat)
    (hs : a.eval s = .slice (some ⟨g, 0, none⟩) n cap) (hown : w.ownsRow 0 22 1 (.slice (some ⟨g, 0, none⟩) n cap) n vs) (hx : a.eval x = .slice (some ⟨g0, 0, none⟩) 1 1) (hnew : w.cell? ⟨g0, 0, none⟩ = some u) (hu : u.oneCell' = true) (hroom : n + 1 ≤ cap)
    (h : ∀ w', w'.ownsRow 0 22 1 (.slice (some ⟨g, 0, none⟩) (n + 1) cap) (n + 1) (vs ++ [u]) → w.grownBy w' (some g) → K (a.put o.dst (.slice (some ⟨g, 0, none⟩) (n + 1) cap)) w') :
    if Region.wanted o (yielded ops a.tmps) = true then Oper.wp Try.prog o a w K Q else E := by
  obtain ⟨i0, hi, hz0, hz1, hz2⟩ := info_parts Try.infoL
  have hw : Region.wanted o (yielded ops a.tmps) = true := by simp [Region.wanted, hgd]
  rw [if_pos hw]
  refine wp_append_own_spare w s x 34 ho 0 22 i0 1 Try.underlying34 hi hz1 g n cap vs hs hown ⟨g0, 0, none⟩ 1 1 [u] hx rfl ?_ (by intro y hy; simp at hy; subst hy; exact hu) hroom h
  intro j y hy
  match j, hy with
  | 0, hy =>
    simp at hy
    subst hy
    rw [Addr.add_lit]
    exact hnew

theorem cell_grown {w w' : World} {g b o : Nat} {v : Value} (hg : w.grownBy w' (some g)) (h : w.cell? ⟨b, o, none⟩ = some v) (hb : b ≠ g) : w'.cell? ⟨b, o, none⟩ = some v := by
  have hlt := World.block_lt_of_cell? _ _ h
  rw [cell_of_block (hg.block b hlt (by simpa using hb))]
  exact h

theorem Has.grown {w w' : World} {g b : Nat} {cs : List Value} {t : TypeId} (h : Has w b cs t) (hg : w.grownBy w' (some g)) (hb : b ≠ g) : Has w' b cs t :=
  (hg.block b h.lt (by simpa using hb)).trans h

/-- What the visitor of PlacementsOf keeps behind j placements: z blocks lay before the walk. -/
structure Plk (z g bl bgr cnt n m : Nat) (M : Nat → Int) (LL : List (List Int)) (bp j : Nat) (w : World) : Prop where
  lt : bp < w.heap.size
  rows : ∃ vs, OwnM w 0 (.slice (some ⟨g, 0, none⟩) j cnt) vs (LL.take j) ∧ vs.length = j ∧ ∀ u ∈ vs, ∀ k, u.ownBlock = some k → z ≤ k ∧ k ≠ bp
  box : Has w bl [.slice (some ⟨g, 0, none⟩) j cnt] 34
  grid : Has w bgr (gl n m M) 56
theorem Plk.stay {z g bl bgr cnt n m : Nat} {M : Nat → Int} {LL : List (List Int)} {bp j : Nat} {w w' : World} (h : Plk z g bl bgr cnt n m M LL bp j w) (hz : z ≤ bp) (h1 : g < z) (h2 : bl < z) (h3 : bgr < z) (hc : Chg (fun b => b = bp) w w') : Plk z g bl bgr cnt n m M LL bp j w' := by
  obtain ⟨vs, hM, hl, hk⟩ := h.rows
  refine ⟨Nat.lt_of_lt_of_le h.lt hc.size, ⟨vs, hM.stay (row := some bp) ⟨hc.os, hc.tape, hc.output, hc.size, fun k hk hn => hc.block k hk (fun e => hn (by rw [e]))⟩ (.inr (by simp [Value.ownBlock]; omega)) (fun u hu => ?_), hl, hk⟩, Chg.has hc (by omega) h.box, Chg.has hc (by omega) h.grid⟩
  cases e : u.ownBlock with
  | none => exact .inl rfl
  | some k => exact .inr (by have := (hk u hu k e).2; simpa using this)
theorem OwnM.stayB {w w' : World} {lo : Nat} {v : Value} {vs : List Value} {rss : List (List Int)} (h : OwnM w lo v vs rss) (hb : Below w.heap.size w w') : OwnM w' lo v vs rss :=
  h.stay (row := none) ⟨hb.os, hb.tape, hb.output, hb.size, fun k hk _ => hb.block k hk⟩ (by cases v.ownBlock <;> simp) (fun u _ => by cases u.ownBlock <;> simp)

theorem Law.ofM {w : World} {v : Value} {vs : List Value} {rss : List (List Int)} (h : OwnM w 0 v vs rss) : Law { w with heap := #[] } [tM v vs rss] w := by
  refine ⟨⟨rfl, rfl, rfl, Nat.zero_le _, fun k hk => by simp at hk⟩, ?_, ?_, by simp⟩
  · intro t ht
    simp at ht
    subst ht
    exact h
  · intro t ht k hk
    simp at ht
    subst ht
    rcases hk with hk | ⟨u, hu, hk⟩
    · exact ⟨Nat.zero_le _, (h.lt.1 k hk).2⟩
    · exact ⟨Nat.zero_le _, (h.lt.2 u hu k hk).2⟩
theorem plk_next (z g bl bgr cnt n m : Nat) (M : Nat → Int) (LL : List (List Int)) (bp j : Nat) (vs : List Value) (ga : Nat) (w w5 wA w3 : World) (F : Nat → Int) (P : List Int) (hz : z ≤ bp) (h1 : g < z) (h2 : bl < z) (d1 : bl ≠ g) (d3 : bl ≠ bgr)
    (hbw : bp < w.heap.size) (hb : Below w.heap.size w w5) (hlt : w.heap.size < w5.heap.size) (hM : OwnM (w5.drewN 1) 0 (.slice (some ⟨g, 0, none⟩) j cnt) vs (LL.take j)) (hvl : vs.length = j) (hvk : ∀ u ∈ vs, ∀ k, u.ownBlock = some k → z ≤ k ∧ k ≠ bp)
    (ht : LL.take j ++ [P] = LL.take (j + 1)) (hP : lstI n F = P) (hA : Below w5.drew.heap.size w5.drew wA) (hOA : Own wA w5.drew.heap.size (.slice (some ⟨ga, 0, none⟩) n n) (lstI n F))
    (hO3 : w3.ownsRow 0 22 1 (.slice (some ⟨g, 0, none⟩) (j + 1) cnt) (j + 1) (vs ++ [.slice (some ⟨ga, 0, none⟩) n n])) (hg3 : (wA.alloc (.cells #[.slice (some ⟨ga, 0, none⟩) n n] 22)).grownBy w3 (some g))
    (hB3 : Has w3 bl [.slice (some ⟨g, 0, none⟩) j cnt] 34) (hG3 : Has w3 bgr (gl n m M) 56) :
    Plk z g bl bgr cnt n m M LL bp (j + 1) (w3.setCell ⟨bl, 0, none⟩ (.slice (some ⟨g, 0, none⟩) (j + 1) cnt)) ∧ Chg (fun b => b = g ∨ b = bl) w (w3.setCell ⟨bl, 0, none⟩ (.slice (some ⟨g, 0, none⟩) (j + 1) cnt)) := by
  have s1 := hA.size
  have s2 := hg3.size
  simp only [World.size_alloc] at s2
  have s3 : w5.drew.heap.size = w5.heap.size := rfl
  have hgaB := own_lt hOA ga rfl
  have hl2 : (vs ++ [Value.slice (some ⟨ga, 0, none⟩) n n]).length = j + 1 := by simp [hvl]
  have L1 : Law { w5.drew with heap := #[] } [tM (.slice (some ⟨g, 0, none⟩) j cnt) vs (LL.take j)] w5.drew := Law.ofM (w := w5.drew) hM
  have L2 := (L1.own hA hOA).kept (below_new (w := wA) (.cells #[.slice (some ⟨ga, 0, none⟩) n n] 22))
  have L3 := L2.pushM (v' := .slice (some ⟨g, 0, none⟩) (j + 1) cnt) hg3 (by rw [hl2]; exact hO3) (fun k hk => by
    have e : g = k := by simpa [Value.ownBlock] using hk
    subst e
    exact ⟨.inl rfl, by omega⟩)
  rw [hP, ht] at L3
  have hM3 := L3.ownM
  have hs : (w3.setCell ⟨bl, 0, none⟩ (.slice (some ⟨g, 0, none⟩) (j + 1) cnt)).heap.size = w3.heap.size := by simp [World.setCell]
  have hk2 : ∀ u ∈ vs ++ [Value.slice (some ⟨ga, 0, none⟩) n n], ∀ k, u.ownBlock = some k → z ≤ k ∧ k ≠ bp := fun u hu k hk => by
    rcases List.mem_append.1 hu with hu | hu
    · exact hvk u hu k hk
    · simp at hu
      subst hu
      have e : ga = k := by simpa [Value.ownBlock] using hk
      omega
  have hgr : w3.grownBy (w3.setCell ⟨bl, 0, none⟩ (.slice (some ⟨g, 0, none⟩) (j + 1) cnt)) (some bl) := ⟨rfl, rfl, rfl, by omega, fun k _ hn => Below.heap_setCell w3 ⟨bl, 0, none⟩ _ k (fun e => hn (by rw [e]))⟩
  refine ⟨⟨by omega, ⟨_, hM3.stay hgr (.inr (by simpa [Value.ownBlock] using fun e => d1 e.symm)) (fun u hu => ?_), hl2, hk2⟩, ?_, hG3.setOff bl 0 _ (fun e => d3 e.symm)⟩, ?_⟩
  · cases e : u.ownBlock with
    | none => exact .inl rfl
    | some k => exact .inr (by have := (hk2 u hu k e).1; simp; omega)
  · have := hB3.set 0 (.slice (some ⟨g, 0, none⟩) (j + 1) cnt)
    simpa using this
  · have c1 : Chg (fun b => b = g ∨ b = bl) w wA := (Chg.of_below hb).trans ((Chg.of_below (show Below w5.heap.size w5 w5.drew from (Below.refl _ _).drew)).trans (Chg.of_below hA))
    exact (c1.trans (Chg.of_below (below_new _))).trans ((Chg.of_grown hg3 (fun k e => .inl (by injection e with e; exact e.symm))).trans (Chg.of_set w3 bl 0 _ (.inr rfl)))


theorem OwnM.raise {w : World} {lo : Nat} {v : Value} {vs : List Value} {rss : List (List Int)} (h : OwnM w 0 v vs rss) (hv : ∀ k, v.ownBlock = some k → lo ≤ k) (hu : ∀ u ∈ vs, ∀ k, u.ownBlock = some k → lo ≤ k) : OwnM w lo v vs rss := by
  have up : ∀ (e : TypeId) (n : Nat) (u : Value) (xs : List Value), (∀ k, u.ownBlock = some k → lo ≤ k) → w.ownsRow 0 e 1 u n xs → w.ownsRow lo e 1 u n xs := fun e n u xs hq h => by
    refine ⟨h.1, ?_⟩
    rcases h.2 with h | ⟨g, cap, cur, hv, hg, r⟩
    · exact .inl h
    · exact .inr ⟨g, cap, cur, hv, hq g (by rw [hv]; rfl), r⟩
  exact ⟨up _ _ _ _ hv h.outer, h.len, fun p hp => up _ _ _ _ (hu p.1 (List.of_mem_zip hp).1) (h.rows p hp), h.dis, h.apart⟩
theorem lst_pl (P : List Int) (n : Nat) (h : P.length = n) : lstI n (plF P n) = P := by
  refine List.ext_getElem (by simp [lstI, h]) (fun k h1 h2 => ?_)
  simp only [lstI, List.getElem_map, List.getElem_range]
  unfold plF
  rw [if_pos (by omega)]
  simp [List.getD, h2]

end Go.Proofs.Ytjmefcebldifaab
end

section
namespace Go.Proofs.Ytjmefcebldifaab
open Go.RowKit

/-- Not farther from 0 than b. -/
def Abs (b : Int) (x : Int) : Prop := -b ≤ x ∧ x ≤ b
theorem Abs.iff {b : Nat} {x : Int} : Abs b x ↔ x.natAbs ≤ b := by unfold Abs; omega
theorem Abs.mul {a b : Nat} {x y : Int} (hx : Abs a x) (hy : Abs b y) : Abs ((a * b : Nat) : Int) (x * y) := by
  rw [Abs.iff] at *
  rw [Int.natAbs_mul]
  exact Nat.mul_le_mul hx hy
theorem Abs.add {a b : Int} {x y : Int} (hx : Abs a x) (hy : Abs b y) : Abs (a + b) (x + y) := by unfold Abs at *; omega
theorem Abs.mono {a b : Int} {x : Int} (hx : Abs a x) (h : a ≤ b) : Abs b x := by unfold Abs at *; omega
theorem Abs.neg {a : Int} {x : Int} (hx : Abs a x) : Abs a (-x) := by unfold Abs at *; omega

theorem pow_abs (x : Int) (hx : Abs 20 x) (k : Nat) (hk : k ≤ 7) : Abs 1280000000 (x ^ k) := by
  have h1 : (x ^ k).natAbs ≤ 20 ^ k := by
    rw [Int.natAbs_pow]
    exact Nat.pow_le_pow_left (by unfold Abs at hx; omega) k
  have h2 : 20 ^ k ≤ 20 ^ 7 := Nat.pow_le_pow_right (by omega) hk
  unfold Abs
  omega

/-- The falling product. -/
def fal (x : Int) : Nat → Int
  | 0 => 1
  | k + 1 => fal x k * (x - k)
theorem fal_abs (x : Int) (hx : Abs 20 x) (k : Nat) (hk : k ≤ 6) : Abs ((26 ^ k : Nat) : Int) (fal x k) := by
  induction k with
  | zero => simp [fal, Abs]
  | succ k ih =>
    rw [fal, Nat.pow_succ]
    exact (ih (by omega)).mul (show Abs ((26 : Nat) : Int) (x - k) by unfold Abs at *; omega)
theorem fal_bd (x : Int) (hx : Abs 20 x) (k : Nat) (hk : k ≤ 6) : Abs 308915776 (fal x k) :=
  (fal_abs x hx k hk).mono (by
    have h2 : 26 ^ k ≤ 26 ^ 6 := Nat.pow_le_pow_right (by omega) hk
    omega)

/-- A sum of the first k terms. -/
def sumT (f : Nat → Int) : Nat → Int
  | 0 => 0
  | k + 1 => sumT f k + f k
theorem sumT_abs (f : Nat → Int) (b : Int) (n : Nat) (h : ∀ k, k < n → Abs b (f k)) : Abs (n * b) (sumT f n) := by
  induction n with
  | zero => simp [sumT, Abs]
  | succ n ih =>
    rw [sumT]
    refine ((ih (fun k hk => h k (by omega))).add (h n (by omega))).mono ?_
    rw [Int.natCast_succ, Int.add_mul, Int.one_mul]
    omega
theorem sumT_congr (f g : Nat → Int) (n : Nat) (h : ∀ k, k < n → f k = g k) : sumT f n = sumT g n := by
  induction n with
  | zero => rfl
  | succ n ih => rw [sumT, sumT, ih (fun k hk => h k (by omega)), h n (by omega)]

def polT (g : Nat → Nat) (x : Int) (k : Nat) : Int := (g k : Int) * x ^ k
theorem polT_abs (g : Nat → Nat) (x : Int) (hx : Abs 20 x) (k : Nat) (hk : k ≤ 7) (hg : g k ≤ 117649) : Abs 150590720000000 (polT g x k) :=
  ((show Abs ((117649 : Nat) : Int) (g k : Int) by unfold Abs; omega).mul (show Abs ((1280000000 : Nat) : Int) (x ^ k) from pow_abs x hx k hk)).mono (by decide)
def falT (g : Nat → Nat) (x : Int) (n k : Nat) : Int := (g k : Int) * fal x (n - k)
theorem falT_abs (g : Nat → Nat) (x : Int) (hx : Abs 20 x) (n k : Nat) (hn : n ≤ 6) (hg : g k ≤ 117649) : Abs 36343632130624 (falT g x n k) :=
  ((show Abs ((117649 : Nat) : Int) (g k : Int) by unfold Abs; omega).mul (show Abs ((308915776 : Nat) : Int) (fal x (n - k)) from fal_bd x hx _ (by omega))).mono (by decide)

/-- Choices of k of n things. -/
def chs : Nat → Nat → Nat
  | _, 0 => 1
  | 0, _ + 1 => 0
  | n + 1, k + 1 => chs n k + chs n (k + 1)
theorem chs_le (n k : Nat) (hn : n ≤ 6) (hk : k ≤ 6) : chs n k ≤ 20 := by
  have key : ∀ n : Fin 7, ∀ k : Fin 7, chs n k ≤ 20 := by decide +kernel
  exact key ⟨n, by omega⟩ ⟨k, by omega⟩
theorem chs_fal (n k : Nat) (hn : n ≤ 6) (hk : k ≤ n) : fal n k / fal k k = chs n k := by
  have key : ∀ n : Fin 7, ∀ k : Fin 7, (k : Nat) ≤ n → fal (n : Nat) (k : Nat) / fal (k : Nat) (k : Nat) = chs n k := by decide +kernel
  exact key ⟨n, by omega⟩ ⟨k, by omega⟩ hk
theorem chs_step (n k i : Nat) (hn : n ≤ 6) (hk : k ≤ n) (hi : i < k) : (chs (n - k + i) i : Int) * ((n : Int) - k + ((i : Int) + 1)) / ((i : Int) + 1) = chs (n - k + (i + 1)) (i + 1) := by
  have key : ∀ n : Fin 7, ∀ k : Fin 7, ∀ i : Fin 6, (k : Nat) ≤ n → (i : Nat) < k → (chs ((n : Nat) - k + i) i : Int) * (((n : Nat) : Int) - (k : Nat) + (((i : Nat) : Int) + 1)) / (((i : Nat) : Int) + 1) = chs ((n : Nat) - k + (i + 1)) (i + 1) := by decide +kernel
  exact key ⟨n, by omega⟩ ⟨k, by omega⟩ ⟨i, by omega⟩ hk hi
def fct (k : Nat) : Int := fal k k
theorem fct_bd (k : Nat) (hk : k ≤ 6) : 1 ≤ fct k ∧ fct k ≤ 720 := by
  have key : ∀ k : Fin 7, 1 ≤ fct k ∧ fct k ≤ 720 := by decide +kernel
  exact key ⟨k, by omega⟩

/-- One term of the alternating sum, without its sign. -/
def cmpT (g : Nat → Nat) (n k j : Nat) : Int := (g j : Int) * chs (n - j) (k - j) * chs (n - j) (k - j) * fct (k - j)
theorem cmpT_abs (g : Nat → Nat) (n k j : Nat) (hn : n ≤ 6) (hk : k ≤ n) (hg : g j ≤ 117649) : Abs 33882912000 (cmpT g n k j) := by
  have h1 := chs_le (n - j) (k - j) (by omega) (by omega)
  have h2 := fct_bd (k - j) (by omega)
  have hc : Abs ((20 : Nat) : Int) (chs (n - j) (k - j) : Int) := by unfold Abs; omega
  exact ((((show Abs ((117649 : Nat) : Int) (g j : Int) by unfold Abs; omega).mul hc).mul hc).mul (show Abs ((720 : Nat) : Int) (fct (k - j)) by unfold Abs; omega)).mono (by decide)
def sgn (j : Nat) : Int := if j % 2 = 1 then -1 else 1
def cmpS (g : Nat → Nat) (n k j : Nat) : Int := sgn j * cmpT g n k j
theorem cmpS_abs (g : Nat → Nat) (n k j : Nat) (hn : n ≤ 6) (hk : k ≤ n) (hg : g j ≤ 117649) : Abs 33882912000 (cmpS g n k j) := by
  have := cmpT_abs g n k j hn hk hg
  unfold cmpS sgn
  split
  · rw [Int.neg_one_mul]; exact this.neg
  · rw [Int.one_mul]; exact this
theorem sgn_succ (j : Nat) : sgn (j + 1) = - sgn j := by
  unfold sgn
  by_cases h : j % 2 = 1
  · rw [if_pos h, if_neg (by omega)]; rfl
  · rw [if_neg h, if_pos (by omega)]

end Go.Proofs.Ytjmefcebldifaab
end
