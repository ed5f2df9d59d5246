/- A walk over all placements in order, in the program. No condition but the sizes. -/
import Derived.Test.YtdimbnkgomfojaaWy
import Derived.Test.YtdimbnkgomfojaaQi
import Derived.Test.YtdimbnkgomfojaaQj
namespace Go.Proofs.Ytdimbnkgomfojaa
open Go.RowKit Go.WideShapes

theorem idx0_cols (m : Nat) : idx0 m = cols m := rfl
theorem plG_len (m : Nat) (B : Nat → Nat → Bool) (n k : Nat) : (plG B (-1 :: cols m) n 0 0 k).length = wR m B n 0 0 k := by rw [plG_first, pl_len]
theorem first_len (m : Nat) : (-1 :: cols m).length = m + 1 := by simp [cols]

theorem concat2 (W : World) (lo g0 g8 gi m : Nat) (hm : m ≤ 6) (h0 : g0 < W.heap.size) (c0 : W.cell? ⟨g0, 0, none⟩ = some (.slice (some ⟨g8, 0, none⟩) 1 1)) (c1 : W.cell? ⟨g0, 1, none⟩ = some (.slice (some ⟨gi, 0, none⟩) m m)) (c8 : W.cell? ⟨g8, 0, none⟩ = some (.int .i64 (-1))) (hO : Own W lo (.slice (some ⟨gi, 0, none⟩) m m) (idx0 m)) :
    Calls Try.prog 108 #[.slice (some ⟨g0, 0, none⟩) 2 2] W fun e w' => ∃ g cp, e = .returned (.slice (some ⟨g, 0, none⟩) (m + 1) cp) ∧ W.heap.size ≤ g ∧ Own w' 0 (.slice (some ⟨g, 0, none⟩) (m + 1) cp) (-1 :: cols m) ∧ Below W.heap.size W w' := by
  let S : Nat → Value := fun k => if k = 0 then .slice (some ⟨g8, 0, none⟩) 1 1 else .slice (some ⟨gi, 0, none⟩) m m
  let Y : Nat → List Int := fun k => if k = 0 then [-1] else idx0 m
  have hY : catY Y 2 = -1 :: cols m := rfl
  have := concat_any g0 2 2 S Y W (by omega) h0 (by rw [hY, first_len]; omega) (by rw [hY, first_len]; omega) (fun k hk => by
    have : k = 0 ∨ k = 1 := by omega
    rcases this with rfl | rfl
    · exact c0
    · exact c1) (fun k hk => by
    have : k = 0 ∨ k = 1 := by omega
    rcases this with rfl | rfl
    · refine .inr ⟨⟨g8, 0, none⟩, 1, rfl, fun j hj => ?_⟩
      have hj0 : j = 0 := by have : ([-1] : List Int).length = 1 := rfl; simp only [Y, if_pos] at hj; simp at hj; omega
      subst hj0
      rw [Addr.add_lit]
      exact c8
    · exact hO.src)
  rw [hY] at this
  refine this.mono (fun e w' h => ?_)
  obtain ⟨v, rfl, hO, hb⟩ := h
  rcases hO.cases with ⟨rfl, h⟩ | ⟨g, cap, rfl, _⟩
  · simp at h
  · have := (own_lt hO g rfl).1
    rw [first_len] at hO ⊢
    exact ⟨g, cap, rfl, this, hO.lower (Nat.zero_le _), hb⟩

set_option maxRecDepth 100000 in
set_option maxHeartbeats 6400000 in
theorem walk_any3 (n m k : Nat) (M : Nat → Int) (V : FuncId) (first cap : Array Value) (foot : Nat → Nat → Prop) (I : Nat → Nat → World → Prop) (cont : Nat → Bool) (w : World)
    (hn : n ≤ 6) (hm : m ≤ 6) (hk : k ≤ 6) (hgc : ∀ k, k < 6 → 0 ≤ M k ∧ M k < 64)
    (hfoot : ∀ bp b, w.heap.size ≤ bp → foot bp b → b < w.heap.size ∨ bp + 1 < b) (hkeep : ∀ bp j w1 w2, w.heap.size ≤ bp → Chg (fun b => b = bp) w1 w2 → I bp j w1 → I bp j w2)
    (hcall : ∀ (args : Array Value) (w : World), (callFunc V args).run Try.prog w = .ok (.enter V args) w)
    (hvis : ∀ bp, w.heap.size ≤ bp → ∀ j P, (pl m (bM M) n 0 0 k)[j]? = some P → ∀ w, I bp j w → Calls Try.prog V (first.push (pv6 (plF P n)) ++ cap) w fun e w' => e = .returned (.bool (cont j)) ∧ I bp (j + 1) w' ∧ Chg (foot bp) w w')
    (hI : ∀ bp w', w.heap.size ≤ bp → bp + 1 < w'.heap.size → Below w.heap.size w w' → I bp 0 w') :
    Calls Try.prog 60 #[gv n m M, .int .i64 k, .func (.func V) first cap] w fun e w' => e = .returned (.tuple #[]) ∧ ∃ bp, w.heap.size ≤ bp ∧ I bp (runV cont 0 (wR m (bM M) n 0 0 k)).1 w' ∧ Chg (fun b => b < w.heap.size ∧ foot bp b) w w' := by
  have hwalk : ∀ (W : World) (gc cp : Nat), Below w.heap.size w W → w.heap.size < W.heap.size → w.heap.size ≤ gc → Own W 0 (.slice (some ⟨gc, 0, none⟩) (m + 1) cp) (-1 :: cols m) →
      Calls Try.prog 107 #[gv n m M, .int .i64 k, .slice (some ⟨gc, 0, none⟩) (m + 1) cp, .func (.func V) first cap] W fun e w' => e = .returned (.tuple #[]) ∧ (∃ bp, w.heap.size ≤ bp ∧ I bp (runV cont 0 (wR m (bM M) n 0 0 k)).1 w' ∧ Chg (fun b => b < w.heap.size ∧ foot bp b) w w') ∧ ∀ o, w'.cell? ⟨w.heap.size, o, none⟩ = W.cell? ⟨w.heap.size, o, none⟩ := by
    intro W gc cp hb hbs hgl hO
    have := walkCh_any n m k M V first cap gc cp (-1 :: cols m) (fun bp b => foot bp b) I cont W hn hm hk hgc (choice_first m hm)
      (fun bp b h1 h2 => by
        have := hfoot bp b (Nat.le_trans hb.size h1) h2
        have := hb.size
        omega)
      (fun bp j w1 w2 h => hkeep bp j w1 w2 (Nat.le_trans hb.size h)) hcall
      (fun bp h j P hj => hvis bp (Nat.le_trans hb.size h) j P (by rw [← plG_first]; exact hj))
      (by rw [first_len]; exact hO)
      (fun bp w' h1 h2 h3 => hI bp w' (Nat.le_trans hb.size h1) h2 (hb.trans (h3.mono hb.size)))
    rw [plG_len, first_len] at this
    refine this.mono (fun e w' h => ⟨h.1, ?_⟩)
    obtain ⟨bp, h1, h2, h3⟩ := h.2
    refine ⟨⟨bp, Nat.le_trans hb.size h1, h2, h3.os.trans hb.os, h3.tape.trans hb.tape, h3.output.trans hb.output, Nat.le_trans hb.size h3.size, fun b hb2 hf => (h3.block b (Nat.lt_of_lt_of_le hb2 hb.size) (fun hh => hf ⟨hb2, hh.2⟩)).trans (hb.block b hb2)⟩, fun o => cell_of_block (h3.block _ hbs (fun hh => by have := hfoot bp _ (Nat.le_trans hb.size h1) hh.2; omega))⟩
  have L0 := (Law.start w).has (gl n m M) 59
  have HL := Lib.hid L0
  have HW := Lib.hid hwalk
  have HIX := Lib.hid (fun W => indices_any m W (by omega))
  have HB0 := Lib.hid HL.out.drew.below
  obtain ⟨e0, e1, e2, e3, e4, e5, e6, e7, _⟩ := HL.out.drew.ownHas.eight
  have hm6 := hm
  clear hvis hkeep hfoot hI hgc hwalk L0 HL hm
  rw [show (gl n m M).toArray = #[.int .i64 n, .int .i64 m, .int .i64 (M 0), .int .i64 (M 1), .int .i64 (M 2), .int .i64 (M 3), .int .i64 (M 4), .int .i64 (M 5)] from rfl] at *
  go_enter Try.func60, Try.ntmps60
  go_upto_region 1 with fail
  generalize w.alloc (.cells #[.int .i64 n, .int .i64 m, .int .i64 (M 0), .int .i64 (M 1), .int .i64 (M 2), .int .i64 (M 3), .int .i64 (M 4), .int .i64 (M 5)] 59) = w5 at *
  go_region_held3 (fun w' => w'.cell? ⟨w.heap.size, 0, none⟩ = some (.int .i64 n) ∧ w'.cell? ⟨w.heap.size, 1, none⟩ = some (.int .i64 m) ∧ w'.cell? ⟨w.heap.size, 2, none⟩ = some (.int .i64 (M 0)) ∧ w'.cell? ⟨w.heap.size, 3, none⟩ = some (.int .i64 (M 1)) ∧ w'.cell? ⟨w.heap.size, 4, none⟩ = some (.int .i64 (M 2)) ∧ w'.cell? ⟨w.heap.size, 5, none⟩ = some (.int .i64 (M 3)) ∧ w'.cell? ⟨w.heap.size, 6, none⟩ = some (.int .i64 (M 4)) ∧ w'.cell? ⟨w.heap.size, 7, none⟩ = some (.int .i64 (M 5))) (first | (repeat' apply And.intro) <;> first | with_reducible assumption | assumption | exact cell_later (below_new _) (by assumption) | exact cell_later (below_new _) (cell_later (below_new _) (by assumption))) ((first
    | (go_at_call 80; ((with_reducible refine (HIX.out _).mono ?_); rintro e wA ⟨gi, rfl, hOI, hbI⟩; have hcell : wA.cell? ⟨w5.heap.size, 0, none⟩ = some (.int .i64 (-1)) := cell_later hbI (show (w5.drew.alloc (.cells #[.int .i64 (-1)] 3)).cell? ⟨w5.drew.heap.size, 0, none⟩ = some (.int .i64 (-1)) by rw [World.cell?_alloc_at _ _ _ _ rfl]; rfl); have hbb := (below_new (w := w5.drew) (.cells #[.int .i64 (-1)] 3)); have HI1 := Lib.hid (And.intro hOI (HB0.out.trans ((below_on hbb hbI).mono HB0.out.size))); replace e0 := cell_later hbb e0; replace e1 := cell_later hbb e1; replace e2 := cell_later hbb e2; replace e3 := cell_later hbb e3; replace e4 := cell_later hbb e4; replace e5 := cell_later hbb e5; replace e6 := cell_later hbb e6; replace e7 := cell_later hbb e7; replace e0 := cell_later hbI e0; replace e1 := cell_later hbI e1; replace e2 := cell_later hbI e2; replace e3 := cell_later hbI e3; replace e4 := cell_later hbI e4; replace e5 := cell_later hbI e5; replace e6 := cell_later hbI e6; replace e7 := cell_later hbI e7; clear hOI hbI hbb))
    | (go_at_call 80; ((with_reducible refine (HIX.out _).mono ?_); rintro e wA ⟨gi, rfl, hOI, hbI⟩; have HI1 := Lib.hid (And.intro hOI (HB0.out.trans (hbI.mono HB0.out.size))); replace e0 := cell_later hbI e0; replace e1 := cell_later hbI e1; replace e2 := cell_later hbI e2; replace e3 := cell_later hbI e3; replace e4 := cell_later hbI e4; replace e5 := cell_later hbI e5; replace e6 := cell_later hbI e6; replace e7 := cell_later hbI e7; clear hOI hbI))
    | (go_at_call 108; ((with_reducible refine (concat2 _ _ wA.heap.size w5.heap.size gi m hm6 (by simp) (by rw [World.cell?_alloc_at _ _ _ _ (by simp)]; simp) (by rw [World.cell?_alloc_at _ _ _ _ (by simp)]; simp) (cell_later (below_new _) hcell) (HI1.out.1.kept (below_new _))).mono ?_); rintro e wB ⟨g, cp, rfl, hgl, hO2, hbB⟩; have hbb := below_on (below_new (w := wA) (.cells #[.slice (some ⟨w5.heap.size, 0, none⟩) 1 1, .slice (some ⟨gi, 0, none⟩) m m] 22)) hbB; have HI2 := Lib.hid (And.intro hO2 (below_on HI1.out.2 hbb)); have hgw := Nat.le_trans (Nat.le_trans HI1.out.2.size (below_new (w := wA) (.cells #[.slice (some ⟨w5.heap.size, 0, none⟩) 1 1, .slice (some ⟨gi, 0, none⟩) m m] 22)).size) hgl; replace e0 := cell_later hbb e0; replace e1 := cell_later hbb e1; replace e2 := cell_later hbb e2; replace e3 := cell_later hbb e3; replace e4 := cell_later hbb e4; replace e5 := cell_later hbb e5; replace e6 := cell_later hbb e6; replace e7 := cell_later hbb e7; clear hO2 hbB hbb hgl hcell))
    | (go_at_call 108; ((with_reducible refine (concat2 _ _ (wA.heap.size + 1) wA.heap.size gi m hm6 (by simp) (by rw [World.cell?_alloc_at _ _ _ _ (by simp)]; simp) (by rw [World.cell?_alloc_at _ _ _ _ (by simp)]; simp) (cell_later (below_new _) (show (wA.alloc (.cells #[.int .i64 (-1)] 3)).cell? ⟨wA.heap.size, 0, none⟩ = some (.int .i64 (-1)) by rw [World.cell?_alloc_at _ _ _ _ (by simp)]; simp)) ((HI1.out.1.kept (below_new _)).kept (below_new _))).mono ?_); rintro e wB ⟨g, cp, rfl, hgl, hO2, hbB⟩; have hba := below_on (below_new (w := wA) (.cells #[.int .i64 (-1)] 3)) (below_new (.cells #[.slice (some ⟨wA.heap.size, 0, none⟩) 1 1, .slice (some ⟨gi, 0, none⟩) m m] 22)); have hbb := below_on hba hbB; have HI2 := Lib.hid (And.intro hO2 (below_on HI1.out.2 hbb)); have hgw := Nat.le_trans (Nat.le_trans HI1.out.2.size hba.size) hgl; replace e0 := cell_later hbb e0; replace e1 := cell_later hbb e1; replace e2 := cell_later hbb e2; replace e3 := cell_later hbb e3; replace e4 := cell_later hbb e4; replace e5 := cell_later hbb e5; replace e6 := cell_later hbb e6; replace e7 := cell_later hbb e7; clear hO2 hbB hba hbb hgl))
    | (go_at_call 107; ((with_reducible refine (HW.out _ g cp HI2.out.2 (World.block_lt_of_cell? _ _ e0) hgw HI2.out.1).mono ?_); rintro e wC ⟨rfl, hfin, hcs⟩; have HFIN := Lib.hid hfin; clear hfin; replace e0 := (hcs 0).trans e0; replace e1 := (hcs 1).trans e1; replace e2 := (hcs 2).trans e2; replace e3 := (hcs 3).trans e3; replace e4 := (hcs 4).trans e4; replace e5 := (hcs 5).trans e5; replace e6 := (hcs 6).trans e6; replace e7 := (hcs 7).trans e7; clear hcs))
    | fail))
  all_goals
    clear e0 e1 e2 e3 e4 e5 e6 e7
    go_wp2_with fail
    go_end0
    exact ⟨rfl, HFIN.out⟩
/-- A walk whose visitor keeps things that are made on the way: of what the walk itself writes, the places alone are named to it. -/
theorem walk_any2 (n m k : Nat) (M : Nat → Int) (V : FuncId) (first cap : Array Value) (foot : Nat → Prop) (I : Nat → Nat → World → Prop) (cont : Nat → Bool) (w : World)
    (hn : n ≤ 6) (hm : m ≤ 6) (hk : k ≤ 6) (hgc : ∀ k, k < 6 → 0 ≤ M k ∧ M k < 64)
    (hfoot : ∀ b, foot b → b < w.heap.size) (hkeep : ∀ bp j w1 w2, w.heap.size ≤ bp → Chg (fun b => b = bp) w1 w2 → I bp j w1 → I bp j w2)
    (hcall : ∀ (args : Array Value) (w : World), (callFunc V args).run Try.prog w = .ok (.enter V args) w)
    (hvis : ∀ bp, w.heap.size ≤ bp → ∀ j P, (pl m (bM M) n 0 0 k)[j]? = some P → ∀ w, I bp j w → Calls Try.prog V (first.push (pv6 (plF P n)) ++ cap) w fun e w' => e = .returned (.bool (cont j)) ∧ I bp (j + 1) w' ∧ Chg foot w w')
    (hI : ∀ bp w', w.heap.size ≤ bp → bp < w'.heap.size → Below w.heap.size w w' → I bp 0 w') :
    Calls Try.prog 60 #[gv n m M, .int .i64 k, .func (.func V) first cap] w fun e w' => e = .returned (.tuple #[]) ∧ ∃ bp, w.heap.size ≤ bp ∧ I bp (runV cont 0 (wR m (bM M) n 0 0 k)).1 w' ∧ Chg foot w w' := by
  refine (walk_any3 n m k M V first cap (fun _ b => foot b) I cont w hn hm hk hgc (fun bp b _ h => .inl (hfoot b h)) hkeep hcall hvis (fun bp w' h1 h2 h3 => hI bp w' h1 (by omega) h3)).mono (fun e w' h => ⟨h.1, ?_⟩)
  obtain ⟨bp, h1, h2, h3⟩ := h.2
  exact ⟨bp, h1, h2, h3.mono (fun b hb => hb.2)⟩
theorem walk_any (n m k : Nat) (M : Nat → Int) (V : FuncId) (first cap : Array Value) (foot : Nat → Prop) (I : Nat → World → Prop) (cont : Nat → Bool) (w : World)
    (hn : n ≤ 6) (hm : m ≤ 6) (hk : k ≤ 6) (hgc : ∀ k, k < 6 → 0 ≤ M k ∧ M k < 64)
    (hfoot : ∀ b, foot b → b < w.heap.size) (hkeep : ∀ j w1 w2, Chg (fun b => w.heap.size ≤ b) w1 w2 → I j w1 → I j w2)
    (hcall : ∀ (args : Array Value) (w : World), (callFunc V args).run Try.prog w = .ok (.enter V args) w)
    (hvis : ∀ j P, (pl m (bM M) n 0 0 k)[j]? = some P → ∀ w, I j w → Calls Try.prog V (first.push (pv6 (plF P n)) ++ cap) w fun e w' => e = .returned (.bool (cont j)) ∧ I (j + 1) w' ∧ Chg foot w w')
    (hI : I 0 w) :
    Calls Try.prog 60 #[gv n m M, .int .i64 k, .func (.func V) first cap] w fun e w' => e = .returned (.tuple #[]) ∧ I (runV cont 0 (wR m (bM M) n 0 0 k)).1 w' ∧ Chg foot w w' := by
  refine (walk_any2 n m k M V first cap foot (fun _ => I) cont w hn hm hk hgc hfoot (fun bp j w1 w2 h hc hi => hkeep j w1 w2 (hc.mono (fun b hb => by omega)) hi) hcall (fun _ _ => hvis) (fun bp w' _ _ hb => hkeep 0 w w' (Chg.of_below hb) hI)).mono (fun e w' h => ⟨h.1, ?_⟩)
  obtain ⟨bp, h1, h2, h3⟩ := h.2
  exact ⟨h2, h3⟩

end Go.Proofs.Ytdimbnkgomfojaa
