import Derived.Test.YtdimbnkgomfojabFold17
import Derived.Test.YtdimbnkgomfojabFold19
import Derived.Test.YtdimbnkgomfojabFold20
import Derived.Test.YtdimbnkgomfojabFold22
import Derived.Test.YtdimbnkgomfojabFold4
import Derived.Test.YtdimbnkgomfojabFold13
import Derived.Test.YtdimbnkgomfojabFold15

section
namespace Go.Proofs.Ytdimbnkgomfojab
open Go.RowKit Go.WideShapes

theorem mR_cols (n m : Nat) (hm : m ≤ 6) (B : Nat → Nat → Bool) : mR m B n 0 0 ≤ m := by
  have h := (wR_pos m B n 0 0 (mR m B n 0 0)).2 (Nat.le_refl _)
  have := (wR_off m hm B n 0 0 (mR m B n 0 0) (by omega) (cntT_le m 0) (Nat.pos_iff_ne_zero.1 h)).2
  omega
theorem most_eq (n m : Nat) (hm : m ≤ 6) (B : Nat → Nat → Bool) : ((shK (numL n m B) (min n m + 1) : Nat) : Int) - 1 = (mR m B n 0 0 : Nat) := by
  have h1 := mR_le m B n 0 0
  have h2 := mR_cols n m hm B
  rw [shK_eq (numL n m B) (mR m B n 0 0 + 1) (min n m + 1) (by omega) (fun j a b => ?_) (fun _ => ?_)]
  · omega
  · rw [numL_get n m B j b]
    have : ¬ 0 < wR m B n 0 0 j := fun h => by have := (wR_pos m B n 0 0 j).1 h; omega
    omega
  · rw [Nat.add_sub_cancel, numL_get n m B _ (by omega)]
    have := (wR_pos m B n 0 0 (mR m B n 0 0)).2 (Nat.le_refl _)
    omega
theorem idx_last (m : Nat) : idx0 m ++ [-1] = lastC m := rfl
theorem idx_len (m : Nat) : (idx0 m).length = m := lstI_len _ _

theorem cell_new1 (w : World) (v : Value) (t : TypeId) : (w.alloc (.cells #[v] t)).cell? ⟨w.heap.size, 0, none⟩ = some v := by rw [World.cell?_alloc_at _ _ _ _ rfl]; rfl

set_option maxRecDepth 100000 in
set_option maxHeartbeats 6400000 in
theorem walkLargest_any (n m : Nat) (M : Nat → Int) (V : FuncId) (first cap : Array Value) (foot : Nat → Nat → Prop) (I : Nat → Nat → World → Prop) (cont : Nat → Bool) (w : World)
    (hn : n ≤ 6) (hm : m ≤ 6) (hgc : ∀ k, k < 6 → 0 ≤ M k ∧ M k < 64)
    (hfoot : ∀ bp b, w.heap.size ≤ bp → foot bp b → b < w.heap.size ∨ bp + 1 < b) (hkeep : ∀ bp j w1 w2, w.heap.size ≤ bp → Chg (fun b => b = bp) w1 w2 → I bp j w1 → I bp j w2)
    (hcall : ∀ (args : Array Value) (w : World), (callFunc V args).run Try.prog w = .ok (.enter V args) w)
    (hvis : ∀ bp, w.heap.size ≤ bp → ∀ j P, (plG (bM M) (lastC m) n 0 0 (mR m (bM M) n 0 0))[j]? = some P → ∀ w, I bp j w → Calls Try.prog V (first.push (pv6 (plF P n)) ++ cap) w fun e w' => e = .returned (.bool (cont j)) ∧ I bp (j + 1) w' ∧ Chg (foot bp) w w')
    (hI : ∀ bp w', w.heap.size ≤ bp → bp + 1 < w'.heap.size → Below w.heap.size w w' → I bp 0 w') :
    Calls Try.prog 62 #[gv n m M, .func (.func V) first cap] w fun e w' => e = .returned (.tuple #[]) ∧ ∃ bp, w.heap.size ≤ bp ∧ I bp (runV cont 0 (plG (bM M) (lastC m) n 0 0 (mR m (bM M) n 0 0)).length).1 w' ∧ Chg (fun b => b < w.heap.size ∧ foot bp b) w w' := by
  have hmr := mR_le m (bM M) n 0 0
  have hwalk : ∀ (W : World) (gc cp : Nat), Below w.heap.size w W → w.heap.size < W.heap.size → w.heap.size ≤ gc → Own W 0 (.slice (some ⟨gc, 0, none⟩) ((idx0 m).length + 1) cp) (lastC m) →
      Calls Try.prog 105 #[gv n m M, .int .i64 (mR m (bM M) n 0 0 : Nat), .slice (some ⟨gc, 0, none⟩) ((idx0 m).length + 1) cp, .func (.func V) first cap] W fun e w' => e = .returned (.tuple #[]) ∧ (∃ bp, w.heap.size ≤ bp ∧ I bp (runV cont 0 (plG (bM M) (lastC m) n 0 0 (mR m (bM M) n 0 0)).length).1 w' ∧ Chg (fun b => b < w.heap.size ∧ foot bp b) w w') ∧ ∀ o, w'.cell? ⟨w.heap.size, o, none⟩ = W.cell? ⟨w.heap.size, o, none⟩ := by
    intro W gc cp hb hbs hgl hO
    rw [idx_len] at hO ⊢
    have := walkCh_any n m (mR m (bM M) n 0 0) M V first cap gc cp (lastC m) (fun bp b => foot bp b) I cont W hn hm (by omega) hgc (choice_last m hm)
      (fun bp b h1 h2 => by
        have := hfoot bp b (Nat.le_trans hb.size h1) h2
        have := hb.size
        omega)
      (fun bp j w1 w2 h => hkeep bp j w1 w2 (Nat.le_trans hb.size h)) hcall
      (fun bp h j P hj => hvis bp (Nat.le_trans hb.size h) j P hj)
      (by rw [lastC_len]; exact hO)
      (fun bp w' h1 h2 h3 => hI bp w' (Nat.le_trans hb.size h1) h2 (hb.trans (h3.mono hb.size)))
    rw [lastC_len] at this
    refine this.mono (fun e w' h => ⟨h.1, ?_⟩)
    obtain ⟨bp, h1, h2, h3⟩ := h.2
    refine ⟨⟨bp, Nat.le_trans hb.size h1, h2, h3.os.trans hb.os, h3.tape.trans hb.tape, h3.output.trans hb.output, Nat.le_trans hb.size h3.size, fun b hb2 hf => (h3.block b (Nat.lt_of_lt_of_le hb2 hb.size) (fun hh => hf ⟨hb2, hh.2⟩)).trans (hb.block b hb2)⟩, fun o => cell_of_block (h3.block _ hbs (fun hh => by have := hfoot bp _ (Nat.le_trans hb.size h1) hh.2; omega))⟩
  have L0 := (Law.start w).has (gl n m M) 68
  rw [show (gl n m M).toArray = #[.int .i64 n, .int .i64 m, .int .i64 (M 0), .int .i64 (M 1), .int .i64 (M 2), .int .i64 (M 3), .int .i64 (M 4), .int .i64 (M 5)] from rfl] at L0
  have HL := Lib.hid L0
  have HW := Lib.hid hwalk
  have HIX := Lib.hid (fun W => indices_any m W (by omega))
  have hmo := fun W => mostRooks_any n m M W hn hm hgc
  simp only [most_eq n m hm] at hmo
  have HMO := Lib.hid hmo
  clear hvis hkeep hfoot hI hgc hwalk L0 hmo hmr
  obtain ⟨q, hq⟩ : ∃ q, q = mR m (bM M) n 0 0 := ⟨_, rfl⟩
  rw [← hq] at HW HMO ⊢
  have hm6 := hm
  have hl7 : (idx0 m).length + 1 ≤ 1048576 := by rw [idx_len]; omega
  have HI0 := Lib.hid (idx_len m)
  clear hq hm
  go_enter Try.func62, Try.ntmps62
  go_upto_region 1 with fail
  generalize w.alloc (.cells #[.int .i64 n, .int .i64 m, .int .i64 (M 0), .int .i64 (M 1), .int .i64 (M 2), .int .i64 (M 3), .int .i64 (M 4), .int .i64 (M 5)] 68) = w5 at *
  replace HL := Lib.hid HL.out.drew
  obtain ⟨e0, e1, e2, e3, e4, e5, e6, e7, _⟩ := HL.out.ownHas.eight
  go_region_held3 (fun w' => w'.cell? ⟨w.heap.size, 0, none⟩ = some (.int .i64 n) ∧ w'.cell? ⟨w.heap.size, 1, none⟩ = some (.int .i64 m) ∧ w'.cell? ⟨w.heap.size, 2, none⟩ = some (.int .i64 (M 0)) ∧ w'.cell? ⟨w.heap.size, 3, none⟩ = some (.int .i64 (M 1)) ∧ w'.cell? ⟨w.heap.size, 4, none⟩ = some (.int .i64 (M 2)) ∧ w'.cell? ⟨w.heap.size, 5, none⟩ = some (.int .i64 (M 3)) ∧ w'.cell? ⟨w.heap.size, 6, none⟩ = some (.int .i64 (M 4)) ∧ w'.cell? ⟨w.heap.size, 7, none⟩ = some (.int .i64 (M 5))) (first | (repeat' apply And.intro) <;> first | with_reducible assumption | assumption | exact cell_later (below_new _) (by assumption) | exact cell_later (below_new _) (cell_later (below_new _) (by assumption))) ((first
    | (go_at_call 66; ((with_reducible refine (HMO.out _).mono ?_); rintro e wA ⟨rfl, hb⟩; replace HL := Lib.hid (HL.out.kept hb); (try (replace hcell := cell_later hb hcell)); clear hb; clear e0 e1 e2 e3 e4 e5 e6 e7; first | obtain ⟨e0, e1, e2, e3, e4, e5, e6, e7, _⟩ := HL.out.ownHas.eight | obtain ⟨e0, e1, e2, e3, e4, e5, e6, e7, _⟩ := HL.out.tl.ownHas.eight))
    | (go_at_call 66; ((with_reducible refine (HMO.out _).mono ?_); rintro e wA ⟨rfl, hb⟩; have hcell := cell_later hb (cell_new1 _ _ _); replace HL := Lib.hid ((HL.out.kept (below_new (.cells #[.int .i64 (-1)] 3))).kept hb); clear hb; clear e0 e1 e2 e3 e4 e5 e6 e7; first | obtain ⟨e0, e1, e2, e3, e4, e5, e6, e7, _⟩ := HL.out.ownHas.eight | obtain ⟨e0, e1, e2, e3, e4, e5, e6, e7, _⟩ := HL.out.tl.ownHas.eight))
    | (go_at_call 66; ((with_reducible refine (HMO.out _).mono ?_); rintro e wA ⟨rfl, hb⟩; have hcell := cell_later hb (show ((w5.alloc (.cells #[.int .i64 (-1)] 3)).drew).cell? ⟨w5.heap.size, 0, none⟩ = some (.int .i64 (-1)) from cell_new1 w5 _ _); replace HL := Lib.hid ((HL.out.kept (show Below w5.drew.heap.size w5.drew (w5.alloc (.cells #[.int .i64 (-1)] 3)).drew from below_new _)).kept hb); clear hb; clear e0 e1 e2 e3 e4 e5 e6 e7; first | obtain ⟨e0, e1, e2, e3, e4, e5, e6, e7, _⟩ := HL.out.ownHas.eight | obtain ⟨e0, e1, e2, e3, e4, e5, e6, e7, _⟩ := HL.out.tl.ownHas.eight))
    | (go_at_call 106; ((with_reducible refine (HIX.out _).mono ?_); rintro e wA ⟨gi, rfl, hO, hb⟩; replace HL := Lib.hid (HL.out.own hb hO); (try (replace hcell := cell_later hb hcell)); clear hb hO; clear e0 e1 e2 e3 e4 e5 e6 e7; first | obtain ⟨e0, e1, e2, e3, e4, e5, e6, e7, _⟩ := HL.out.ownHas.eight | obtain ⟨e0, e1, e2, e3, e4, e5, e6, e7, _⟩ := HL.out.tl.ownHas.eight))
    | (go_at_call 106; ((with_reducible refine (HIX.out _).mono ?_); rintro e wA ⟨gi, rfl, hO, hb⟩; have hcell := cell_later hb (cell_new1 _ _ _); replace HL := Lib.hid ((HL.out.kept (below_new (.cells #[.int .i64 (-1)] 3))).own hb hO); clear hb hO; clear e0 e1 e2 e3 e4 e5 e6 e7; first | obtain ⟨e0, e1, e2, e3, e4, e5, e6, e7, _⟩ := HL.out.ownHas.eight | obtain ⟨e0, e1, e2, e3, e4, e5, e6, e7, _⟩ := HL.out.tl.ownHas.eight))
    | (go_at_call 106; ((with_reducible refine (HIX.out _).mono ?_); rintro e wA ⟨gi, rfl, hO, hb⟩; have hcell := cell_later hb (show ((w5.alloc (.cells #[.int .i64 (-1)] 3)).drew).cell? ⟨w5.heap.size, 0, none⟩ = some (.int .i64 (-1)) from cell_new1 w5 _ _); replace HL := Lib.hid ((HL.out.kept (show Below w5.drew.heap.size w5.drew (w5.alloc (.cells #[.int .i64 (-1)] 3)).drew from below_new _)).own hb hO); clear hb hO; clear e0 e1 e2 e3 e4 e5 e6 e7; first | obtain ⟨e0, e1, e2, e3, e4, e5, e6, e7, _⟩ := HL.out.ownHas.eight | obtain ⟨e0, e1, e2, e3, e4, e5, e6, e7, _⟩ := HL.out.tl.ownHas.eight))
    | (refine step_appI rfl (.tmp 9) (.tmp 10) rfl (-1) HL.out _ (by simp [Act.eval]) (by simp [Act.eval]) hcell hl7 ?_; intro g1 cap1 w1 L1; replace HL := Lib.hid L1; clear L1 hcell; clear e0 e1 e2 e3 e4 e5 e6 e7; first | obtain ⟨e0, e1, e2, e3, e4, e5, e6, e7, _⟩ := HL.out.ownHas.eight | obtain ⟨e0, e1, e2, e3, e4, e5, e6, e7, _⟩ := HL.out.tl.ownHas.eight)
    | (refine step_appI rfl (.tmp 9) (.tmp 10) rfl (-1) (HL.out.kept (below_new (.cells #[.int .i64 (-1)] 3))) _ (by simp [Act.eval]) (by simp [Act.eval]) (cell_new1 _ _ _) hl7 ?_; intro g1 cap1 w1 L1; replace HL := Lib.hid L1; clear L1; clear e0 e1 e2 e3 e4 e5 e6 e7; first | obtain ⟨e0, e1, e2, e3, e4, e5, e6, e7, _⟩ := HL.out.ownHas.eight | obtain ⟨e0, e1, e2, e3, e4, e5, e6, e7, _⟩ := HL.out.tl.ownHas.eight)
    | (go_at_call 105; (have hOW : Own _ 0 (.slice (some ⟨g1, 0, none⟩) ((idx0 m).length + 1) cap1) (lastC m) := HL.out.ownInts; have hgw := (own_lt HL.out.ownLo g1 rfl).1; have hbl := HL.out.below; have hsz := World.block_lt_of_cell? _ _ e0; (with_reducible refine (HW.out _ g1 cap1 hbl hsz hgw hOW).mono ?_); rintro e wC ⟨rfl, hfin, hcs⟩; have HFIN := Lib.hid hfin; clear hfin; replace e0 := (hcs 0).trans e0; replace e1 := (hcs 1).trans e1; replace e2 := (hcs 2).trans e2; replace e3 := (hcs 3).trans e3; replace e4 := (hcs 4).trans e4; replace e5 := (hcs 5).trans e5; replace e6 := (hcs 6).trans e6; replace e7 := (hcs 7).trans e7; clear hcs))
    | fail))
  all_goals
    clear e0 e1 e2 e3 e4 e5 e6 e7
    go_wp2_with fail
    go_end0
    exact ⟨rfl, HFIN.out⟩

end Go.Proofs.Ytdimbnkgomfojab
end

section
namespace Go.Proofs.Ytdimbnkgomfojab
open Go.RowKit Go.WideShapes

theorem rowM_at {w0 w : World} {ts : List Thing} {g n c : Nat} {vs : List Value} {rss : List (List Int)} (L : Law w0 (tM (.slice (some ⟨g, 0, none⟩) n c) vs rss :: ts) w) (hn : rss.length = n) (k : Nat) (hk : k < n) (ys : List Int) (hy : ∀ h : k < rss.length, rss[k] = ys) :
    ∃ a2 p2, w.cell? ⟨g, k, none⟩ = some (.slice a2 ys.length p2) ∧ Reads w a2 ys.length ys := by
  have hlen := L.ownM.len
  have hrow := L.ownM.row k (by omega)
  rw [hy] at hrow
  obtain ⟨a2, p2, hv, hr⟩ := hrow.reads
  refine ⟨a2, p2, ?_, hr⟩
  rw [← hv, World.ownsRow.cellAt (by have := L.ownM.outer; rw [show vs.length = n by omega] at this; exact this) k (by omega)]
  simp
theorem rowM_own {w0 w : World} {ts : List Thing} {g n c : Nat} {vs : List Value} {rss : List (List Int)} (L : Law w0 (tM (.slice (some ⟨g, 0, none⟩) n c) vs rss :: ts) w) (hn : rss.length = n) (k : Nat) (hk : k < n) (ys : List Int) (hy : ∀ h : k < rss.length, rss[k] = ys) :
    ∃ a2 p2, w.cell? ⟨g, k, none⟩ = some (.slice a2 ys.length p2) ∧ Reads w a2 ys.length ys ∧ Own w w0.heap.size (.slice a2 ys.length p2) ys := by
  have hlen := L.ownM.len
  have hrow := L.ownMLo.row k (by omega)
  rw [hy] at hrow
  obtain ⟨a2, p2, hv, hr⟩ := hrow.reads
  refine ⟨a2, p2, ?_, hr, by rw [← hv]; exact hrow⟩
  rw [← hv, World.ownsRow.cellAt (by have := L.ownM.outer; rw [show vs.length = n by omega] at this; exact this) k (by omega)]
  simp

end Go.Proofs.Ytdimbnkgomfojab
end

section
namespace Go.Proofs.Ytdimbnkgomfojab
open Go.RowKit Go.WideShapes

def isPlB (r c : Int) (xs P : List Int) : R2 := if goodB r c xs then ⟨placeP r.toNat c.toNat xs P, true⟩ else ⟨false, false⟩

theorem own_cap {w : World} {lo : Nat} {a : Option Addr} {n p : Nat} {xs : List Int} (h : Own w lo (.slice a n p) xs) : n ≤ p := by
  rcases h.cases with ⟨h0, _⟩ | ⟨g', p', h0, _, _, h1, _⟩
  · injection h0 with _ h2 h3
    omega
  · injection h0 with _ h2 h3
    omega


end Go.Proofs.Ytdimbnkgomfojab
end

section
namespace Go.Proofs.Ytdimbnkgomfojab
open Go.RowKit Go.WideShapes

theorem pl6_take (F : Nat → Int) (n : Nat) (hn : n ≤ 6) : [F 0, F 1, F 2, F 3, F 4, F 5].take n = lstI n F := by
  have : n = 0 ∨ n = 1 ∨ n = 2 ∨ n = 3 ∨ n = 4 ∨ n = 5 ∨ n = 6 := by omega
  rcases this with rfl | rfl | rfl | rfl | rfl | rfl | rfl <;> rfl

/-- The row of the last rook in the column c, of the first k. -/
def trF (p : Nat → Int) : Nat → Nat → Int
  | 0, _ => -1
  | k + 1, c => if p k = (c : Int) then (k : Int) else trF p k c
theorem trF_skip (p : Nat → Int) (k : Nat) (h : p k = -1) (c : Nat) : trF p (k + 1) c = trF p k c := by
  rw [trF, if_neg (by omega)]
theorem trF_set (p : Nat → Int) (k d : Nat) (h : p k = (d : Int)) : trF p (k + 1) d = k ∧ ∀ c, c ≠ d → trF p (k + 1) c = trF p k c := by
  refine ⟨by rw [trF, if_pos h], fun c hc => ?_⟩
  rw [trF, if_neg (by omega)]
theorem trF_more (P : List Int) (n k c : Nat) (h : n ≤ k) : trF (plF P n) k c = trF (fun j => P.getD j 0) n c := by
  induction k with
  | zero =>
    rw [show n = 0 by omega]
    rfl
  | succ k ih =>
    by_cases e : n = k + 1
    · subst e
      have : ∀ i, i ≤ k + 1 → trF (plF P (k + 1)) i c = trF (fun j => P.getD j 0) i c := by
        intro i
        induction i with
        | zero => intro _; rfl
        | succ i ih2 =>
          intro hi
          rw [trF, trF, ih2 (by omega)]
          have : plF P (k + 1) i = P.getD i 0 := by unfold plF; rw [if_pos (by omega)]
          rw [this]
      exact this _ (Nat.le_refl _)
    · rw [trF, if_neg, ih (by omega)]
      unfold plF
      rw [if_neg (by omega)]
      omega

set_option maxRecDepth 100000 in
set_option maxHeartbeats 1600000 in
theorem list_any (F : Nat → Int) (n : Nat) (w : World) (hn : n ≤ 6) :
    Calls Try.prog 64 #[pv6 F, .int .i64 n] w fun e w' => ∃ g, e = .returned (.slice (some ⟨g, 0, none⟩) n n) ∧ Own w' w.heap.size (.slice (some ⟨g, 0, none⟩) n n) (lstI n F) ∧ Below w.heap.size w w' := by
  have hmk := run_make_row' (P := Try.prog) 22 3 (.int .i64 0) 8 Try.underlying22 Try.infoI rfl .i64 .i64 n (by omega) (by omega)
  have L0 := ((Law.start w).has (pl6 F) 71).own (below_new (.cells (madeCells #[.int .i64 0] n) 3)) (own_made _ n _ _ rfl (Nat.le_refl _) (by omega))
  have H1 : Has ((w.alloc (.cells (pl6 F).toArray 71)).alloc (.cells (madeCells #[.int .i64 0] n) 3)) (w.heap.size + 1) (List.replicate n (.int .i64 0)) 3 := by
    have := Has.new (w.alloc (.cells (pl6 F).toArray 71)) (List.replicate n (.int .i64 0)) 3
    rw [← made_eq] at this
    simpa using this
  have H2 := L0.tl.ownHas
  have hB := L0.below
  have hp6 : (pl6 F).toArray = #[.int .i64 (F 0), .int .i64 (F 1), .int .i64 (F 2), .int .i64 (F 3), .int .i64 (F 4), .int .i64 (F 5)] := rfl
  have hsrc : ∀ j v, (([F 0, F 1, F 2, F 3, F 4, F 5].take n).map (Value.int .i64))[j]? = some v → ((w.alloc (.cells (pl6 F).toArray 71)).alloc (.cells (madeCells #[.int .i64 0] n) 3)).cell? ((⟨w.heap.size, 0, none⟩ : Addr).add j) = some v := by
    intro j v hj
    rw [add_plain, H2.cell]
    rw [List.map_take, List.getElem?_take] at hj
    split at hj
    · rw [show 0 + j = j by omega]; exact hj
    · cases hj
  have hlen : (([F 0, F 1, F 2, F 3, F 4, F 5].take n).map (Value.int .i64)).length = n := by simp; omega
  have HM := Lib.hid (show (([F 0, F 1, F 2, F 3, F 4, F 5].take n).map (Value.int .i64)).length = Nat.min 6 n by rw [hlen]; exact (Nat.min_eq_right hn).symm)
  have HF := Lib.hid (show 0 + (([F 0, F 1, F 2, F 3, F 4, F 5].take n).map (Value.int .i64)).length ≤ (List.replicate n (Value.int .i64 0)).length by rw [hlen, List.length_replicate]; omega)
  have H1' := H1.row
  rw [hp6] at hB hsrc H1'
  have HB := Lib.hid hB
  have G1 := Lib.hid H1'; have G5 := Lib.hid hsrc; have HL := Lib.hid hlen
  clear L0 H1 H2 hsrc hlen hB H1' hp6
  go_enter Try.func64, Try.ntmps64
  go_wp2_with (with_reducible refine wpList_copy_splice rfl (.tmp 8) (.tmp 9) 22 22 rfl 3 Try.underlying22 (by kernel_rfl) _ _ n n 6 6 rfl rfl (w.heap.size + 1) 0 _ 3 G1.out _ HM.out (fun _ => ⟨rfl, _, rfl, G5.out⟩) HF.out (ints_oneCell _ _) (w.heap.size + 1) _ (Below.refl _ _) (Nat.le_refl _) ?_)
  intro w4 hg4 hb4
  have H4 : Has w4 (w.heap.size + 1) (([F 0, F 1, F 2, F 3, F 4, F 5].take n).map (Value.int .i64)) 3 := by
    have h : Has w4 (w.heap.size + 1) _ 3 := hg4.out
    rw [splice_all n _ (by simp <;> omega)] at h
    simpa using h
  rw [pl6_take F n hn] at H4
  have HH := Lib.hid H4
  have HB4 := Lib.hid (HB.out.trans (hb4.mono (by omega)))
  clear hg4 hb4 H4 hmk
  go_wp2_with fail
  go_ret
  exact ⟨_, rfl, (own_of_has (lo := w.heap.size) HH.out (by omega) (lstI_len _ _) (by unfold maxLen; omega)), HB4.out⟩
end Go.Proofs.Ytdimbnkgomfojab
end
