import Derived.Test.YtdimbnkgomfojaaFold16
import Derived.Test.YtdimbnkgomfojaaFold14
import Derived.Test.YtdimbnkgomfojaaFold13
import Derived.Test.YtdimbnkgomfojaaFold5

section
namespace Go.Proofs.Ytdimbnkgomfojaa
open Go.RowKit Go.WideShapes

theorem idx0_cols (m : Nat) : idx0 m = cols m := rfl
theorem plG_len (m : Nat) (B : Nat → Nat → Bool) (n k : Nat) : (plG B (-1 :: cols m) n 0 0 k).length = wR m B n 0 0 k := by rw [plG_first, pl_len]
theorem first_len (m : Nat) : (-1 :: cols m).length = m + 1 := by simp [cols]

theorem concat2 (W : World) (lo g0 g8 gi m : Nat) (hm : m ≤ 6) (h0 : g0 < W.heap.size) (c0 : W.cell? ⟨g0, 0, none⟩ = some (.slice (some ⟨g8, 0, none⟩) 1 1)) (c1 : W.cell? ⟨g0, 1, none⟩ = some (.slice (some ⟨gi, 0, none⟩) m m)) (c8 : W.cell? ⟨g8, 0, none⟩ = some (.int .i64 (-1))) (hO : Own W lo (.slice (some ⟨gi, 0, none⟩) m m) (idx0 m)) :
    Calls Try.prog 108 #[.slice (some ⟨g0, 0, none⟩) 2 2] W fun e w' => ∃ g cp, e = .returned (.slice (some ⟨g, 0, none⟩) (m + 1) cp) ∧ W.heap.size ≤ g ∧ Own w' 0 (.slice (some ⟨g, 0, none⟩) (m + 1) cp) (-1 :: cols m) ∧ Below W.heap.size W w' := by
  let S : Nat → Value := fun k => if k = 0 then .slice (some ⟨g8, 0, none⟩) 1 1 else .slice (some ⟨gi, 0, none⟩) m m
  let Y : Nat → List Int := fun k => if k = 0 then [-1] else idx0 m
  have hY : catY Y 2 = -1 :: cols m := rfl
  have := concat_any g0 2 2 S Y W (by omega) h0 (by rw [hY, first_len]; omega) (by rw [hY, first_len]; omega) (fun k hk => by
    have : k = 0 ∨ k = 1 := by omega
    rcases this with rfl | rfl
    · exact c0
    · exact c1) (fun k hk => by
    have : k = 0 ∨ k = 1 := by omega
    rcases this with rfl | rfl
    · refine .inr ⟨⟨g8, 0, none⟩, 1, rfl, fun j hj => ?_⟩
      have hj0 : j = 0 := by have : ([-1] : List Int).length = 1 := rfl; simp only [Y, if_pos] at hj; simp at hj; omega
      subst hj0
      rw [Addr.add_lit]
      exact c8
    · exact hO.src)
  rw [hY] at this
  refine this.mono (fun e w' h => ?_)
  obtain ⟨v, rfl, hO, hb⟩ := h
  rcases hO.cases with ⟨rfl, h⟩ | ⟨g, cap, rfl, _⟩
  · simp at h
  · have := (own_lt hO g rfl).1
    rw [first_len] at hO ⊢
    exact ⟨g, cap, rfl, this, hO.lower (Nat.zero_le _), hb⟩

set_option maxRecDepth 100000 in
set_option maxHeartbeats 6400000 in
theorem walk_any3 (n m k : Nat) (M : Nat → Int) (V : FuncId) (first cap : Array Value) (foot : Nat → Nat → Prop) (I : Nat → Nat → World → Prop) (cont : Nat → Bool) (w : World)
    (hn : n ≤ 6) (hm : m ≤ 6) (hk : k ≤ 6) (hgc : ∀ k, k < 6 → 0 ≤ M k ∧ M k < 64)
    (hfoot : ∀ bp b, w.heap.size ≤ bp → foot bp b → b < w.heap.size ∨ bp + 1 < b) (hkeep : ∀ bp j w1 w2, w.heap.size ≤ bp → Chg (fun b => b = bp) w1 w2 → I bp j w1 → I bp j w2)
    (hcall : ∀ (args : Array Value) (w : World), (callFunc V args).run Try.prog w = .ok (.enter V args) w)
    (hvis : ∀ bp, w.heap.size ≤ bp → ∀ j P, (pl m (bM M) n 0 0 k)[j]? = some P → ∀ w, I bp j w → Calls Try.prog V (first.push (pv6 (plF P n)) ++ cap) w fun e w' => e = .returned (.bool (cont j)) ∧ I bp (j + 1) w' ∧ Chg (foot bp) w w')
    (hI : ∀ bp w', w.heap.size ≤ bp → bp + 1 < w'.heap.size → Below w.heap.size w w' → I bp 0 w') :
    Calls Try.prog 60 #[gv n m M, .int .i64 k, .func (.func V) first cap] w fun e w' => e = .returned (.tuple #[]) ∧ ∃ bp, w.heap.size ≤ bp ∧ I bp (runV cont 0 (wR m (bM M) n 0 0 k)).1 w' ∧ Chg (fun b => b < w.heap.size ∧ foot bp b) w w' := by
  have hwalk : ∀ (W : World) (gc cp : Nat), Below w.heap.size w W → w.heap.size < W.heap.size → w.heap.size ≤ gc → Own W 0 (.slice (some ⟨gc, 0, none⟩) (m + 1) cp) (-1 :: cols m) →
      Calls Try.prog 107 #[gv n m M, .int .i64 k, .slice (some ⟨gc, 0, none⟩) (m + 1) cp, .func (.func V) first cap] W fun e w' => e = .returned (.tuple #[]) ∧ (∃ bp, w.heap.size ≤ bp ∧ I bp (runV cont 0 (wR m (bM M) n 0 0 k)).1 w' ∧ Chg (fun b => b < w.heap.size ∧ foot bp b) w w') ∧ ∀ o, w'.cell? ⟨w.heap.size, o, none⟩ = W.cell? ⟨w.heap.size, o, none⟩ := by
    intro W gc cp hb hbs hgl hO
    have := walkCh_any n m k M V first cap gc cp (-1 :: cols m) (fun bp b => foot bp b) I cont W hn hm hk hgc (choice_first m hm)
      (fun bp b h1 h2 => by
        have := hfoot bp b (Nat.le_trans hb.size h1) h2
        have := hb.size
        omega)
      (fun bp j w1 w2 h => hkeep bp j w1 w2 (Nat.le_trans hb.size h)) hcall
      (fun bp h j P hj => hvis bp (Nat.le_trans hb.size h) j P (by rw [← plG_first]; exact hj))
      (by rw [first_len]; exact hO)
      (fun bp w' h1 h2 h3 => hI bp w' (Nat.le_trans hb.size h1) h2 (hb.trans (h3.mono hb.size)))
    rw [plG_len, first_len] at this
    refine this.mono (fun e w' h => ⟨h.1, ?_⟩)
    obtain ⟨bp, h1, h2, h3⟩ := h.2
    refine ⟨⟨bp, Nat.le_trans hb.size h1, h2, h3.os.trans hb.os, h3.tape.trans hb.tape, h3.output.trans hb.output, Nat.le_trans hb.size h3.size, fun b hb2 hf => (h3.block b (Nat.lt_of_lt_of_le hb2 hb.size) (fun hh => hf ⟨hb2, hh.2⟩)).trans (hb.block b hb2)⟩, fun o => cell_of_block (h3.block _ hbs (fun hh => by have := hfoot bp _ (Nat.le_trans hb.size h1) hh.2; omega))⟩
  have L0 := (Law.start w).has (gl n m M) 59
  have HL := Lib.hid L0
  have HW := Lib.hid hwalk
  have HIX := Lib.hid (fun W => indices_any m W (by omega))
  have HB0 := Lib.hid HL.out.drew.below
  obtain ⟨e0, e1, e2, e3, e4, e5, e6, e7, _⟩ := HL.out.drew.ownHas.eight
  have hm6 := hm
  clear hvis hkeep hfoot hI hgc hwalk L0 HL hm
  rw [show (gl n m M).toArray = #[.int .i64 n, .int .i64 m, .int .i64 (M 0), .int .i64 (M 1), .int .i64 (M 2), .int .i64 (M 3), .int .i64 (M 4), .int .i64 (M 5)] from rfl] at *
  go_enter Try.func60, Try.ntmps60
  go_upto_region 1 with fail
  generalize w.alloc (.cells #[.int .i64 n, .int .i64 m, .int .i64 (M 0), .int .i64 (M 1), .int .i64 (M 2), .int .i64 (M 3), .int .i64 (M 4), .int .i64 (M 5)] 59) = w5 at *
  go_region_held3 (fun w' => w'.cell? ⟨w.heap.size, 0, none⟩ = some (.int .i64 n) ∧ w'.cell? ⟨w.heap.size, 1, none⟩ = some (.int .i64 m) ∧ w'.cell? ⟨w.heap.size, 2, none⟩ = some (.int .i64 (M 0)) ∧ w'.cell? ⟨w.heap.size, 3, none⟩ = some (.int .i64 (M 1)) ∧ w'.cell? ⟨w.heap.size, 4, none⟩ = some (.int .i64 (M 2)) ∧ w'.cell? ⟨w.heap.size, 5, none⟩ = some (.int .i64 (M 3)) ∧ w'.cell? ⟨w.heap.size, 6, none⟩ = some (.int .i64 (M 4)) ∧ w'.cell? ⟨w.heap.size, 7, none⟩ = some (.int .i64 (M 5))) (first | (repeat' apply And.intro) <;> first | with_reducible assumption | assumption | exact cell_later (below_new _) (by assumption) | exact cell_later (below_new _) (cell_later (below_new _) (by assumption))) ((first
    | (go_at_call 80; ((with_reducible refine (HIX.out _).mono ?_); rintro e wA ⟨gi, rfl, hOI, hbI⟩; have hcell : wA.cell? ⟨w5.heap.size, 0, none⟩ = some (.int .i64 (-1)) := cell_later hbI (show (w5.drew.alloc (.cells #[.int .i64 (-1)] 3)).cell? ⟨w5.drew.heap.size, 0, none⟩ = some (.int .i64 (-1)) by rw [World.cell?_alloc_at _ _ _ _ rfl]; rfl); have hbb := (below_new (w := w5.drew) (.cells #[.int .i64 (-1)] 3)); have HI1 := Lib.hid (And.intro hOI (HB0.out.trans ((below_on hbb hbI).mono HB0.out.size))); replace e0 := cell_later hbb e0; replace e1 := cell_later hbb e1; replace e2 := cell_later hbb e2; replace e3 := cell_later hbb e3; replace e4 := cell_later hbb e4; replace e5 := cell_later hbb e5; replace e6 := cell_later hbb e6; replace e7 := cell_later hbb e7; replace e0 := cell_later hbI e0; replace e1 := cell_later hbI e1; replace e2 := cell_later hbI e2; replace e3 := cell_later hbI e3; replace e4 := cell_later hbI e4; replace e5 := cell_later hbI e5; replace e6 := cell_later hbI e6; replace e7 := cell_later hbI e7; clear hOI hbI hbb))
    | (go_at_call 80; ((with_reducible refine (HIX.out _).mono ?_); rintro e wA ⟨gi, rfl, hOI, hbI⟩; have HI1 := Lib.hid (And.intro hOI (HB0.out.trans (hbI.mono HB0.out.size))); replace e0 := cell_later hbI e0; replace e1 := cell_later hbI e1; replace e2 := cell_later hbI e2; replace e3 := cell_later hbI e3; replace e4 := cell_later hbI e4; replace e5 := cell_later hbI e5; replace e6 := cell_later hbI e6; replace e7 := cell_later hbI e7; clear hOI hbI))
    | (go_at_call 108; ((with_reducible refine (concat2 _ _ wA.heap.size w5.heap.size gi m hm6 (by simp) (by rw [World.cell?_alloc_at _ _ _ _ (by simp)]; simp) (by rw [World.cell?_alloc_at _ _ _ _ (by simp)]; simp) (cell_later (below_new _) hcell) (HI1.out.1.kept (below_new _))).mono ?_); rintro e wB ⟨g, cp, rfl, hgl, hO2, hbB⟩; have hbb := below_on (below_new (w := wA) (.cells #[.slice (some ⟨w5.heap.size, 0, none⟩) 1 1, .slice (some ⟨gi, 0, none⟩) m m] 22)) hbB; have HI2 := Lib.hid (And.intro hO2 (below_on HI1.out.2 hbb)); have hgw := Nat.le_trans (Nat.le_trans HI1.out.2.size (below_new (w := wA) (.cells #[.slice (some ⟨w5.heap.size, 0, none⟩) 1 1, .slice (some ⟨gi, 0, none⟩) m m] 22)).size) hgl; replace e0 := cell_later hbb e0; replace e1 := cell_later hbb e1; replace e2 := cell_later hbb e2; replace e3 := cell_later hbb e3; replace e4 := cell_later hbb e4; replace e5 := cell_later hbb e5; replace e6 := cell_later hbb e6; replace e7 := cell_later hbb e7; clear hO2 hbB hbb hgl hcell))
    | (go_at_call 108; ((with_reducible refine (concat2 _ _ (wA.heap.size + 1) wA.heap.size gi m hm6 (by simp) (by rw [World.cell?_alloc_at _ _ _ _ (by simp)]; simp) (by rw [World.cell?_alloc_at _ _ _ _ (by simp)]; simp) (cell_later (below_new _) (show (wA.alloc (.cells #[.int .i64 (-1)] 3)).cell? ⟨wA.heap.size, 0, none⟩ = some (.int .i64 (-1)) by rw [World.cell?_alloc_at _ _ _ _ (by simp)]; simp)) ((HI1.out.1.kept (below_new _)).kept (below_new _))).mono ?_); rintro e wB ⟨g, cp, rfl, hgl, hO2, hbB⟩; have hba := below_on (below_new (w := wA) (.cells #[.int .i64 (-1)] 3)) (below_new (.cells #[.slice (some ⟨wA.heap.size, 0, none⟩) 1 1, .slice (some ⟨gi, 0, none⟩) m m] 22)); have hbb := below_on hba hbB; have HI2 := Lib.hid (And.intro hO2 (below_on HI1.out.2 hbb)); have hgw := Nat.le_trans (Nat.le_trans HI1.out.2.size hba.size) hgl; replace e0 := cell_later hbb e0; replace e1 := cell_later hbb e1; replace e2 := cell_later hbb e2; replace e3 := cell_later hbb e3; replace e4 := cell_later hbb e4; replace e5 := cell_later hbb e5; replace e6 := cell_later hbb e6; replace e7 := cell_later hbb e7; clear hO2 hbB hba hbb hgl))
    | (go_at_call 107; ((with_reducible refine (HW.out _ g cp HI2.out.2 (World.block_lt_of_cell? _ _ e0) hgw HI2.out.1).mono ?_); rintro e wC ⟨rfl, hfin, hcs⟩; have HFIN := Lib.hid hfin; clear hfin; replace e0 := (hcs 0).trans e0; replace e1 := (hcs 1).trans e1; replace e2 := (hcs 2).trans e2; replace e3 := (hcs 3).trans e3; replace e4 := (hcs 4).trans e4; replace e5 := (hcs 5).trans e5; replace e6 := (hcs 6).trans e6; replace e7 := (hcs 7).trans e7; clear hcs))
    | fail))
  all_goals
    clear e0 e1 e2 e3 e4 e5 e6 e7
    go_wp2_with fail
    go_end0
    exact ⟨rfl, HFIN.out⟩
/-- A walk whose visitor keeps things that are made on the way: of what the walk itself writes, the places alone are named to it. -/
theorem walk_any2 (n m k : Nat) (M : Nat → Int) (V : FuncId) (first cap : Array Value) (foot : Nat → Prop) (I : Nat → Nat → World → Prop) (cont : Nat → Bool) (w : World)
    (hn : n ≤ 6) (hm : m ≤ 6) (hk : k ≤ 6) (hgc : ∀ k, k < 6 → 0 ≤ M k ∧ M k < 64)
    (hfoot : ∀ b, foot b → b < w.heap.size) (hkeep : ∀ bp j w1 w2, w.heap.size ≤ bp → Chg (fun b => b = bp) w1 w2 → I bp j w1 → I bp j w2)
    (hcall : ∀ (args : Array Value) (w : World), (callFunc V args).run Try.prog w = .ok (.enter V args) w)
    (hvis : ∀ bp, w.heap.size ≤ bp → ∀ j P, (pl m (bM M) n 0 0 k)[j]? = some P → ∀ w, I bp j w → Calls Try.prog V (first.push (pv6 (plF P n)) ++ cap) w fun e w' => e = .returned (.bool (cont j)) ∧ I bp (j + 1) w' ∧ Chg foot w w')
    (hI : ∀ bp w', w.heap.size ≤ bp → bp < w'.heap.size → Below w.heap.size w w' → I bp 0 w') :
    Calls Try.prog 60 #[gv n m M, .int .i64 k, .func (.func V) first cap] w fun e w' => e = .returned (.tuple #[]) ∧ ∃ bp, w.heap.size ≤ bp ∧ I bp (runV cont 0 (wR m (bM M) n 0 0 k)).1 w' ∧ Chg foot w w' := by
  refine (walk_any3 n m k M V first cap (fun _ b => foot b) I cont w hn hm hk hgc (fun bp b _ h => .inl (hfoot b h)) hkeep hcall hvis (fun bp w' h1 h2 h3 => hI bp w' h1 (by omega) h3)).mono (fun e w' h => ⟨h.1, ?_⟩)
  obtain ⟨bp, h1, h2, h3⟩ := h.2
  exact ⟨bp, h1, h2, h3.mono (fun b hb => hb.2)⟩
theorem walk_any (n m k : Nat) (M : Nat → Int) (V : FuncId) (first cap : Array Value) (foot : Nat → Prop) (I : Nat → World → Prop) (cont : Nat → Bool) (w : World)
    (hn : n ≤ 6) (hm : m ≤ 6) (hk : k ≤ 6) (hgc : ∀ k, k < 6 → 0 ≤ M k ∧ M k < 64)
    (hfoot : ∀ b, foot b → b < w.heap.size) (hkeep : ∀ j w1 w2, Chg (fun b => w.heap.size ≤ b) w1 w2 → I j w1 → I j w2)
    (hcall : ∀ (args : Array Value) (w : World), (callFunc V args).run Try.prog w = .ok (.enter V args) w)
    (hvis : ∀ j P, (pl m (bM M) n 0 0 k)[j]? = some P → ∀ w, I j w → Calls Try.prog V (first.push (pv6 (plF P n)) ++ cap) w fun e w' => e = .returned (.bool (cont j)) ∧ I (j + 1) w' ∧ Chg foot w w')
    (hI : I 0 w) :
    Calls Try.prog 60 #[gv n m M, .int .i64 k, .func (.func V) first cap] w fun e w' => e = .returned (.tuple #[]) ∧ I (runV cont 0 (wR m (bM M) n 0 0 k)).1 w' ∧ Chg foot w w' := by
  refine (walk_any2 n m k M V first cap foot (fun _ => I) cont w hn hm hk hgc hfoot (fun bp j w1 w2 h hc hi => hkeep j w1 w2 (hc.mono (fun b hb => by omega)) hi) hcall (fun _ _ => hvis) (fun bp w' _ _ hb => hkeep 0 w w' (Chg.of_below hb) hI)).mono (fun e w' h => ⟨h.1, ?_⟩)
  obtain ⟨bp, h1, h2, h3⟩ := h.2
  exact ⟨h2, h3⟩

end Go.Proofs.Ytdimbnkgomfojaa
end

section
namespace Go.Proofs.Ytdimbnkgomfojaa
open Go.RowKit Go.WideShapes

/-- What the visitor has kept behind j placements. -/
def visF (L : List (List Int)) (n j : Nat) : Nat → Int := if j = 0 then fun _ => 0 else plF (L.getD (j - 1) []) n
/-- A walk that stops at a rank. -/
theorem runV_stop (cont : Nat → Bool) (rank : Nat) (hc : ∀ j, cont j = decide (j + 1 ≤ rank)) (s : Nat) : ∀ j, j ≤ rank → rank < j + s → runV cont j s = (rank + 1 - j, false) := by
  induction s with
  | zero => intro j h1 h2; omega
  | succ s ih =>
    intro j h1 h2
    rw [runV, hc j]
    by_cases h : j + 1 ≤ rank
    · rw [if_pos (by simpa using h), ih (j + 1) h (by omega)]
      simp only [Prod.mk.injEq, and_true]
      omega
    · rw [if_neg (by simpa using h)]
      simp only [Prod.mk.injEq, and_true]
      omega
theorem Has.setRow6 {w : World} {b : Nat} {G : Nat → Int} {t : TypeId} (h : Has w b (pl6 G) t) (F : Nat → Int) : Has (w.setRow b #[.int .i64 (F 0), .int .i64 (F 1), .int .i64 (F 2), .int .i64 (F 3), .int .i64 (F 4), .int .i64 (F 5)]) b (pl6 F) t :=
  setRow_heap w b _ _ t (0, 0) h
theorem Has.setRowOff {w : World} {b : Nat} {cs : List Value} {t : TypeId} (h : Has w b cs t) (g : Nat) (ds : Array Value) (hg : b ≠ g) : Has (w.setRow g ds) b cs t :=
  (setRow_other w g b ds hg).trans h
theorem Chg.setRow {foot : Nat → Prop} (w : World) (b : Nat) (ds : Array Value) (hf : foot b) : Chg foot w (w.setRow b ds) :=
  ⟨rfl, rfl, rfl, by simp, fun k _ hk => setRow_other w b k ds (fun e => hk (by rw [e]; exact hf))⟩
theorem Has.setOff {w : World} {b : Nat} {cs : List Value} {t : TypeId} (h : Has w b cs t) (g o : Nat) (v : Value) (hg : b ≠ g) : Has (w.setCell ⟨g, o, none⟩ v) b cs t :=
  (Below.heap_setCell w ⟨g, o, none⟩ v b hg).trans h
theorem Chg.of_set {foot : Nat → Prop} (w : World) (b o : Nat) (v : Value) (hf : foot b) : Chg foot w (w.setCell ⟨b, o, none⟩ v) :=
  ⟨rfl, rfl, rfl, by simp [World.setCell], fun k _ hk => Below.heap_setCell w ⟨b, o, none⟩ v k (fun e => hk (by rw [show k = b from e]; exact hf))⟩
theorem Has.one {w : World} {b : Nat} {v0 : Value} {t : TypeId} (h : Has w b [v0] t) : w.cell? ⟨b, 0, none⟩ = some v0 ∧ ∀ o, w.frozen? ⟨b, o, none⟩ = false := ⟨h.cell 0, h.free⟩

set_option maxRecDepth 100000 in
set_option maxHeartbeats 1600000 in
theorem pw1_any (F G : Nat → Int) (bf bb br j rank : Nat) (w : World) (h1 : bf ≠ bb) (h2 : bf ≠ br) (h3 : bb ≠ br) (H : Has w bf (pl6 G) 70) (H1 : Has w bb [.int .i64 j] 3) (H2 : Has w br [.int .i64 rank] 3) (hj : j ≤ 1000000) :
    Calls Try.prog 64 (#[pv6 F] ++ #[.pointer (some ⟨bf, 0, none⟩), .pointer (some ⟨bb, 0, none⟩), .pointer (some ⟨br, 0, none⟩)]) w fun e w' => e = .returned (.bool (decide (j + 1 ≤ rank))) ∧ Chg (fun k => k = bf ∨ k = bb) w w' ∧ Has w' bf (pl6 F) 70 ∧ Has w' bb [.int .i64 ((j + 1 : Nat) : Int)] 3 := by
  have hb := below_new (w := w) (.cells #[.int .i64 (F 0), .int .i64 (F 1), .int .i64 (F 2), .int .i64 (F 3), .int .i64 (F 4), .int .i64 (F 5)] 70)
  have hn : Has (w.alloc (.cells #[.int .i64 (F 0), .int .i64 (F 1), .int .i64 (F 2), .int .i64 (F 3), .int .i64 (F 4), .int .i64 (F 5)] 70)) w.heap.size (pl6 F) 70 := Has.new w (pl6 F) 70
  have K := H.kept hb H.lt
  have K1 := H1.kept hb H1.lt
  have K2 := H2.kept hb H2.lt
  have hs : IntKind.i64.wrap ((j : Int) + 1) = (j : Int) + 1 := IntWalk.i64_in _ (by omega)
  have HB := Lib.hid hb
  clear H H1 H2
  go_enter Try.func64, Try.ntmps64
  go_upto_region 1 with fail
  generalize w.alloc (.cells #[.int .i64 (F 0), .int .i64 (F 1), .int .i64 (F 2), .int .i64 (F 3), .int .i64 (F 4), .int .i64 (F 5)] 70) = w5 at *
  have hrow := hn.row6
  have hrow2 := K.row6
  have HK := Lib.hid K
  have HK1 := Lib.hid K1
  have HK2 := Lib.hid K2
  clear hn K K1 K2
  go_upto_region 2 with (first | refine wpList_load_row rfl 70 _ rfl _ rfl _ _ _ _ hrow Try.underlying70 rfl (by kernel_rfl) ?_ | refine wpList_store_row rfl 70 _ _ rfl _ _ rfl rfl _ _ hrow2 (by kernel_rfl) rfl (by kernel_rfl) ?_)
  have HN := Lib.hid (HK.out.setRow6 F)
  have N1 := HK1.out.setRowOff bf #[.int .i64 (F 0), .int .i64 (F 1), .int .i64 (F 2), .int .i64 (F 3), .int .i64 (F 4), .int .i64 (F 5)] (fun e => h1 e.symm)
  have N2 := HK2.out.setRowOff bf #[.int .i64 (F 0), .int .i64 (F 1), .int .i64 (F 2), .int .i64 (F 3), .int .i64 (F 4), .int .i64 (F 5)] (fun e => h2 e.symm)
  have HC := Lib.hid (show Chg (fun k => k = bf ∨ k = bb) w (w5.setRow bf #[.int .i64 (F 0), .int .i64 (F 1), .int .i64 (F 2), .int .i64 (F 3), .int .i64 (F 4), .int .i64 (F 5)]) from (Chg.of_below HB.out).trans (Chg.setRow _ _ _ (.inl rfl)))
  generalize w5.setRow bf #[.int .i64 (F 0), .int .i64 (F 1), .int .i64 (F 2), .int .i64 (F 3), .int .i64 (F 4), .int .i64 (F 5)] = w6 at *
  obtain ⟨e0, ef⟩ := N1.one
  have HN1 := Lib.hid N1
  have HN2 := Lib.hid N2
  clear hrow hrow2 N1 N2
  go_upto_region 3 with fail
  have M0 := Lib.hid (HN.out.setOff bb 0 (.int .i64 ((j : Int) + 1)) h1)
  have M1 := HN1.out.set 0 (.int .i64 ((j : Int) + 1))
  have M2 := HN2.out.setOff bb 0 (.int .i64 ((j : Int) + 1)) (fun e => h3 e.symm)
  have MC := Lib.hid (HC.out.trans (Chg.of_set w6 bb 0 (.int .i64 ((j : Int) + 1)) (.inr rfl)))
  generalize w6.setCell ⟨bb, 0, none⟩ (.int .i64 ((j : Int) + 1)) = w7 at *
  simp only [List.set_cons_zero] at M1
  obtain ⟨g0, gf⟩ := M1.one
  obtain ⟨f0, ff⟩ := M2.one
  have HM1 := Lib.hid M1
  clear HN HN1 HN2 HC e0 ef M1 M2 HK HK1 HK2 HB
  have hd : decide ((j : Int) + 1 ≤ rank) = decide (j + 1 ≤ rank) := by rw [decide_eq_decide]; omega
  have HD := Lib.hid hd
  clear hd
  by_cases hle : (j : Int) + 1 ≤ rank
  all_goals
    go_wp2_with fail
    go_ret
    exact ⟨ret_bool (by rw [← HD.out]; simp <;> omega), MC.out, M0.out, HM1.out⟩

set_option maxRecDepth 100000 in
set_option maxHeartbeats 1600000 in
theorem pwWalk_any (bf bb br n m q rank : Nat) (M : Nat → Int) (w : World) (hn : n ≤ 6) (hm : m ≤ 6) (hq : q ≤ 6) (hg : ∀ k, k < 6 → 0 ≤ M k ∧ M k < 64) (h1 : bf ≠ bb) (h2 : bf ≠ br) (h3 : bb ≠ br)
    (hr : rank < wR m (bM M) n 0 0 q) (H : Has w bf (pl6 (fun _ => 0)) 70) (H1 : Has w bb [.int .i64 0] 3) (H2 : Has w br [.int .i64 rank] 3) :
    Calls Try.prog 60 #[gv n m M, .int .i64 q, .func (.func 64) #[] #[.pointer (some ⟨bf, 0, none⟩), .pointer (some ⟨bb, 0, none⟩), .pointer (some ⟨br, 0, none⟩)]] w fun e w' => e = .returned (.tuple #[]) ∧ Has w' bf (pl6 (plF ((pl m (bM M) n 0 0 q).getD rank []) n)) 70 ∧ Chg (fun k => k = bf ∨ k = bb) w w' := by
  have h := walk_any n m q M 64 #[] #[.pointer (some ⟨bf, 0, none⟩), .pointer (some ⟨bb, 0, none⟩), .pointer (some ⟨br, 0, none⟩)] (fun k => k = bf ∨ k = bb)
    (fun j wr => Has wr bf (pl6 (visF (pl m (bM M) n 0 0 q) n j)) 70 ∧ Has wr bb [.int .i64 j] 3 ∧ Has wr br [.int .i64 rank] 3)
    (fun j => decide (j + 1 ≤ rank)) w hn hm hq hg (fun b hb => hb.elim (fun e => by rw [e]; exact H.lt) (fun e => by rw [e]; exact H1.lt))
    (fun j w1 w2 hc hi => ⟨Chg.has hc (by have := H.lt; omega) hi.1, Chg.has hc (by have := H1.lt; omega) hi.2.1, Chg.has hc (by have := H2.lt; omega) hi.2.2⟩)
    (fun _ _ => by kernel_rfl)
    (fun j P hj wr hi => by
      have hlt : j < (pl m (bM M) n 0 0 q).length := (List.getElem?_eq_some_iff.1 hj).1
      rw [pl_len] at hlt
      have hle := wR_le m hm (bM M) n 0 0 q
      have h7 : 7 ^ n ≤ 7 ^ 6 := Nat.pow_le_pow_right (by omega) hn
      refine (pw1_any (plF P n) _ bf bb br j rank wr h1 h2 h3 hi.1 hi.2.1 hi.2.2 (by omega)).mono ?_
      rintro e w' ⟨rfl, hc, hf, hh⟩
      refine ⟨rfl, ⟨?_, hh, Chg.has hc (by omega) hi.2.2⟩, hc⟩
      rw [show visF (pl m (bM M) n 0 0 q) n (j + 1) = plF P n by unfold visF; rw [if_neg (by omega), Nat.add_sub_cancel, List.getD_eq_getElem?_getD, hj]; rfl]
      exact hf)
    ⟨H, H1, H2⟩
  refine h.mono ?_
  rintro e w' ⟨rfl, hi, hc⟩
  rw [runV_stop _ rank (fun _ => rfl) _ 0 (by omega) (by omega)] at hi
  refine ⟨rfl, ?_, hc⟩
  have := hi.1
  rw [show visF (pl m (bM M) n 0 0 q) n ((rank + 1 - 0, false) : Nat × Bool).1 = plF ((pl m (bM M) n 0 0 q).getD rank []) n by unfold visF; rw [if_neg (by simp)]; rfl] at this
  exact this
end Go.Proofs.Ytdimbnkgomfojaa
end
