import Derived.Test.YtdimbnkgomfojaaFold22
import Derived.Test.YtdimbnkgomfojaaFold9
import Derived.Lib.AppendZeros
import Derived.Test.YtdimbnkgomfojaaFold24

section
namespace Go.Proofs.Ytdimbnkgomfojaa
open Go.RowKit Go.WideShapes

set_option maxRecDepth 100000 in
set_option maxHeartbeats 1600000 in
theorem grow_any (n : Nat) (w : World) (h0 : 0 < n) (hn : n ≤ 1048576) :
    Calls Try.prog 131 #[.slice none 0 0, .int .i64 n] w fun e w' => ∃ g cap, e = .returned (.slice (some ⟨g, 0, none⟩) 0 cap) ∧ Own w' w.heap.size (.slice (some ⟨g, 0, none⟩) 0 cap) [] ∧ Below w.heap.size w w' := by
  obtain ⟨i0, hi, hz0, hz1, hz2⟩ := info_parts Try.infoI
  have happ := fun (W : World) => Lib.run_append_nil_zeros (P := Try.prog) W 22 3 22 3 i0 (.int .i64 0) .i64 .i64 Try.underlying22 Try.underlying3 hi hz0 n h0 (by omega) (by omega) (by rw [hz2]; omega)
  have hG := fun (W : World) => grownCap_ge W n 0 3
  have hM := fun (W : World) => grownCap_le_maxLen W n 0 3 (by unfold maxLen; omega)
  have hZ : ∀ (W : World), (Builtin.zeroCells (Value.int .i64 0).cells n ++ Builtin.zeroCells (Value.int .i64 0).cells (grownCap W n 0 3 - n)).size = grownCap W n 0 3 := fun W => by
    have := hG W
    simp [size_zeroCells, Value.cells]
    omega
  have hfin : Own (w.drew.alloc (.cells (Builtin.zeroCells (Value.int .i64 0).cells n ++ Builtin.zeroCells (Value.int .i64 0).cells (grownCap w n 0 3 - n)) 3)) w.heap.size (.slice (some ⟨w.heap.size, 0, none⟩) 0 (grownCap w n 0 3)) [] ∧
      Below w.heap.size w (w.drew.alloc (.cells (Builtin.zeroCells (Value.int .i64 0).cells n ++ Builtin.zeroCells (Value.int .i64 0).cells (grownCap w n 0 3 - n)) 3)) := by
    refine ⟨⟨by simp, .inr ⟨w.heap.size, grownCap w n 0 3, _, rfl, Nat.le_refl _, heap_alloc_new _ _, Nat.zero_le _, hM w, ?_, by simp⟩⟩, ((Below.refl _ _).drew).trans (below_new (w := w.drew) _)⟩
    rw [hZ w, Nat.mul_one]
  have HF := Lib.hid hfin
  have hcap := hG w
  generalize hzz : (Builtin.zeroCells (Value.int .i64 0).cells n ++ Builtin.zeroCells (Value.int .i64 0).cells (grownCap w n 0 3 - n)) = Z at HF
  have happ0 := happ w
  rw [hzz] at happ0
  generalize grownCap w n 0 3 = C at *
  have hn0 : ¬ ((n : Int) < 0) := by omega
  have hn1 : (n : Int) > 0 := by omega
  have hC : (n : Int) ≤ C := by omega
  clear hfin hzz happ hG hM hZ
  go_enter Try.func131, Try.ntmps131
  go_wp2_with (at_builtin; refine Lib.wpList_append_run _ rfl _ _ 22 3 rfl _ _ rfl rfl _ _ happ0 ?_)
  go_wp2_with fail
  go_ret
  exact ⟨_, _, rfl, HF.out.1, HF.out.2⟩

theorem Src.kept' {w w' : World} {v : Value} {ys : List Int} (h : Src w v ys) (hb : Below w.heap.size w w') : Src w' v ys := h.kept hb
/-- The first k lists, one behind the other. -/
def catY (Y : Nat → List Int) : Nat → List Int
  | 0 => []
  | k + 1 => catY Y k ++ Y k
theorem catY_len (Y : Nat → List Int) (L : Nat) (k n : Nat) (hk : k ≤ n) (h : (catY Y n).length ≤ L) : (catY Y k).length ≤ L := by
  induction n with
  | zero => rw [show k = 0 by omega]; exact h
  | succ n ih =>
    by_cases e : k = n + 1
    · rw [e]; exact h
    · refine ih (by omega) ?_
      rw [catY, List.length_append] at h
      omega
theorem src_len {w : World} {v : Value} {ys : List Int} (h : Src w v ys) : ∃ a c, v = .slice a ys.length c := by
  rcases h with ⟨rfl, rfl⟩ | ⟨ad, cap, rfl, _⟩
  · exact ⟨none, 0, rfl⟩
  · exact ⟨_, _, rfl⟩

set_option maxRecDepth 100000 in
set_option maxHeartbeats 3200000 in
theorem concat_any (g0 n c : Nat) (S : Nat → Value) (Y : Nat → List Int) (w : World) (hn : n ≤ 1048576) (hg0 : g0 < w.heap.size) (h0 : 0 < (catY Y n).length) (hl : (catY Y n).length ≤ 1048576)
    (hc : ∀ k, k < n → w.cell? ⟨g0, k, none⟩ = some (S k)) (hs : ∀ k, k < n → Src w (S k) (Y k)) :
    Calls Try.prog 108 #[.slice (some ⟨g0, 0, none⟩) n c] w fun e w' => ∃ v, e = .returned v ∧ Own w' w.heap.size v (catY Y n) ∧ Below w.heap.size w w' := by
  have HC := Lib.hid hc
  have HS := Lib.hid hs
  have HL := Lib.hid (fun k (hk : k ≤ n) => catY_len Y _ k n hk hl)
  have HG := Lib.hid (fun W => grow_any (catY Y n).length W h0 hl)
  obtain ⟨T, hT⟩ : ∃ T, T = (catY Y n).length := ⟨_, rfl⟩
  rw [← hT] at HG
  have HT := Lib.hid hT
  clear hc hs h0 hl hT
  go_enter Try.func108, Try.ntmps108
  go_wp2_with fail
  go_loopw [3, 11] (fun z i wr => ∃ k : Nat, k ≤ n ∧ i = .int .i64 k ∧ z = .int .i64 ((catY Y k).length : Int) ∧ w = wr) (fun _ i _ => n - (intOf i).toNat)
  case atStart => exact ⟨0, Nat.zero_le _, rfl, rfl, rfl⟩
  case round =>
    obtain ⟨k, hk, rfl, rfl, hww⟩ := hrel
    subst hww
    by_cases hlt : k < n
    · have hck := HC.out k hlt
      obtain ⟨a, c1, hv⟩ := src_len (HS.out k hlt)
      rw [hv] at hck
      have hz := HL.out (k + 1) hlt
      have hsum : ((catY Y k).length : Int) + ((Y k).length : Int) = ((catY Y (k + 1)).length : Int) := by rw [catY, List.length_append]; omega
      have hw : wrap64 (((catY Y k).length : Int) + ((Y k).length : Int)) = ((catY Y (k + 1)).length : Int) := by rw [hsum]; exact IntWalk.wrap64_in _ (by omega)
      have hpos : ¬ (((catY Y (k + 1)).length : Int) < 0) := by omega
      have HW := Lib.hid hw
      obtain ⟨z3, hz3⟩ : ∃ z3, z3 = (catY Y (k + 1)).length := ⟨_, rfl⟩
      rw [← hz3] at hw hz hpos HW hsum
      have HZ3 := Lib.hid hz3
      generalize (catY Y k).length = z1 at *
      generalize (Y k).length = z2 at *
      clear hsum hv hz hz3
      go_wp2_with fail
      go_roundw
      case rel => exact ⟨k + 1, by omega, by go_num, by rw [HW.out, HZ3.out], by first | rfl | trivial⟩
      case measure => simp [intOf]; omega
    · obtain rfl : k = n := by omega
      rw [← HT.out]
      go_wp2_with fail
      refine (HG.out _).mono ?_
      rintro e w1 ⟨g, cap, rfl, hO, hb⟩
      have HO1 := Lib.hid (And.intro hO hb)
      clear hO hb
      go_wp2_with fail
      go_loopw [6, 27] (fun v i ws => ∃ j : Nat, j ≤ k ∧ i = .int .i64 j ∧ Hid (Own ws w.heap.size v (catY Y j) ∧ Below w.heap.size w ws)) (fun _ i _ => k - (intOf i).toNat)
      case atStart => exact ⟨0, Nat.zero_le _, rfl, HO1⟩
      case round =>
        clear HO1
        obtain ⟨j, hj, rfl, HO⟩ := hrel
        by_cases hlt2 : j < k
        · have hck := (HO.out.2.cell (p := ⟨g0, j, none⟩) hg0).trans (HC.out j hlt2)
          obtain ⟨a, c1, hv⟩ := src_len (HS.out j hlt2)
          have hsrc := (HS.out j hlt2).kept HO.out.2
          rw [hv] at hck hsrc
          have HSR := Lib.hid hsrc
          have HZ := Lib.hid (HL.out (j + 1) hlt2)
          rw [show (catY Y (j + 1)) = catY Y j ++ Y j from rfl] at HZ
          clear hsrc hv
          go_wp2_with (at_builtin; refine wp_append rfl _ _ rfl w.heap.size _ (catY Y j) (Y j) _ rfl rfl HO.out.1 HSR.out ?h1 ?h2 ?_)
          case h1 => have := HZ.out; rw [List.length_append] at this; exact this
          case h2 => exact HO.out.2.size
          intro v' w' hO hg
          have HO2 : Hid (Own w' w.heap.size v' (catY Y (j + 1)) ∧ Below w.heap.size w w') := Lib.hid ⟨hO, HO.out.2.grown hg HO.out.2.size (fun k hk => (own_lt HO.out.1 k hk).1)⟩
          clear hO hg HO HSR HZ
          go_wp2_with fail
          go_roundw
          case rel => exact ⟨j + 1, by omega, by go_num, HO2⟩
          case measure => simp [intOf]; omega
        · obtain rfl : j = k := by omega
          go_wp2_with fail
          go_ret
          exact ⟨_, rfl, HO.out.1, HO.out.2⟩

end Go.Proofs.Ytdimbnkgomfojaa
end

section
namespace Go.Proofs.Ytdimbnkgomfojaa
open Go.RowKit Go.WideShapes

theorem idx0_cols (m : Nat) : idx0 m = cols m := rfl
theorem plG_len (m : Nat) (B : Nat → Nat → Bool) (n k : Nat) : (plG B (-1 :: cols m) n 0 0 k).length = wR m B n 0 0 k := by rw [plG_first, pl_len]
theorem first_len (m : Nat) : (-1 :: cols m).length = m + 1 := by simp [cols]

theorem concat2 (W : World) (lo g0 g8 gi m : Nat) (hm : m ≤ 6) (h0 : g0 < W.heap.size) (c0 : W.cell? ⟨g0, 0, none⟩ = some (.slice (some ⟨g8, 0, none⟩) 1 1)) (c1 : W.cell? ⟨g0, 1, none⟩ = some (.slice (some ⟨gi, 0, none⟩) m m)) (c8 : W.cell? ⟨g8, 0, none⟩ = some (.int .i64 (-1))) (hO : Own W lo (.slice (some ⟨gi, 0, none⟩) m m) (idx0 m)) :
    Calls Try.prog 108 #[.slice (some ⟨g0, 0, none⟩) 2 2] W fun e w' => ∃ g cp, e = .returned (.slice (some ⟨g, 0, none⟩) (m + 1) cp) ∧ W.heap.size ≤ g ∧ Own w' 0 (.slice (some ⟨g, 0, none⟩) (m + 1) cp) (-1 :: cols m) ∧ Below W.heap.size W w' := by
  let S : Nat → Value := fun k => if k = 0 then .slice (some ⟨g8, 0, none⟩) 1 1 else .slice (some ⟨gi, 0, none⟩) m m
  let Y : Nat → List Int := fun k => if k = 0 then [-1] else idx0 m
  have hY : catY Y 2 = -1 :: cols m := rfl
  have := concat_any g0 2 2 S Y W (by omega) h0 (by rw [hY, first_len]; omega) (by rw [hY, first_len]; omega) (fun k hk => by
    have : k = 0 ∨ k = 1 := by omega
    rcases this with rfl | rfl
    · exact c0
    · exact c1) (fun k hk => by
    have : k = 0 ∨ k = 1 := by omega
    rcases this with rfl | rfl
    · refine .inr ⟨⟨g8, 0, none⟩, 1, rfl, fun j hj => ?_⟩
      have hj0 : j = 0 := by have : ([-1] : List Int).length = 1 := rfl; simp only [Y, if_pos] at hj; simp at hj; omega
      subst hj0
      rw [Addr.add_lit]
      exact c8
    · exact hO.src)
  rw [hY] at this
  refine this.mono (fun e w' h => ?_)
  obtain ⟨v, rfl, hO, hb⟩ := h
  rcases hO.cases with ⟨rfl, h⟩ | ⟨g, cap, rfl, _⟩
  · simp at h
  · have := (own_lt hO g rfl).1
    rw [first_len] at hO ⊢
    exact ⟨g, cap, rfl, this, hO.lower (Nat.zero_le _), hb⟩

set_option maxRecDepth 100000 in
set_option maxHeartbeats 6400000 in
theorem walk_any3 (n m k : Nat) (M : Nat → Int) (V : FuncId) (first cap : Array Value) (foot : Nat → Nat → Prop) (I : Nat → Nat → World → Prop) (cont : Nat → Bool) (w : World)
    (hn : n ≤ 6) (hm : m ≤ 6) (hk : k ≤ 6) (hgc : ∀ k, k < 6 → 0 ≤ M k ∧ M k < 64)
    (hfoot : ∀ bp b, w.heap.size ≤ bp → foot bp b → b < w.heap.size ∨ bp + 1 < b) (hkeep : ∀ bp j w1 w2, w.heap.size ≤ bp → Chg (fun b => b = bp) w1 w2 → I bp j w1 → I bp j w2)
    (hcall : ∀ (args : Array Value) (w : World), (callFunc V args).run Try.prog w = .ok (.enter V args) w)
    (hvis : ∀ bp, w.heap.size ≤ bp → ∀ j P, (pl m (bM M) n 0 0 k)[j]? = some P → ∀ w, I bp j w → Calls Try.prog V (first.push (pv6 (plF P n)) ++ cap) w fun e w' => e = .returned (.bool (cont j)) ∧ I bp (j + 1) w' ∧ Chg (foot bp) w w')
    (hI : ∀ bp w', w.heap.size ≤ bp → bp + 1 < w'.heap.size → Below w.heap.size w w' → I bp 0 w') :
    Calls Try.prog 60 #[gv n m M, .int .i64 k, .func (.func V) first cap] w fun e w' => e = .returned (.tuple #[]) ∧ ∃ bp, w.heap.size ≤ bp ∧ I bp (runV cont 0 (wR m (bM M) n 0 0 k)).1 w' ∧ Chg (fun b => b < w.heap.size ∧ foot bp b) w w' := by
  have hwalk : ∀ (W : World) (gc cp : Nat), Below w.heap.size w W → w.heap.size < W.heap.size → w.heap.size ≤ gc → Own W 0 (.slice (some ⟨gc, 0, none⟩) (m + 1) cp) (-1 :: cols m) →
      Calls Try.prog 107 #[gv n m M, .int .i64 k, .slice (some ⟨gc, 0, none⟩) (m + 1) cp, .func (.func V) first cap] W fun e w' => e = .returned (.tuple #[]) ∧ (∃ bp, w.heap.size ≤ bp ∧ I bp (runV cont 0 (wR m (bM M) n 0 0 k)).1 w' ∧ Chg (fun b => b < w.heap.size ∧ foot bp b) w w') ∧ ∀ o, w'.cell? ⟨w.heap.size, o, none⟩ = W.cell? ⟨w.heap.size, o, none⟩ := by
    intro W gc cp hb hbs hgl hO
    have := walkCh_any n m k M V first cap gc cp (-1 :: cols m) (fun bp b => foot bp b) I cont W hn hm hk hgc (choice_first m hm)
      (fun bp b h1 h2 => by
        have := hfoot bp b (Nat.le_trans hb.size h1) h2
        have := hb.size
        omega)
      (fun bp j w1 w2 h => hkeep bp j w1 w2 (Nat.le_trans hb.size h)) hcall
      (fun bp h j P hj => hvis bp (Nat.le_trans hb.size h) j P (by rw [← plG_first]; exact hj))
      (by rw [first_len]; exact hO)
      (fun bp w' h1 h2 h3 => hI bp w' (Nat.le_trans hb.size h1) h2 (hb.trans (h3.mono hb.size)))
    rw [plG_len, first_len] at this
    refine this.mono (fun e w' h => ⟨h.1, ?_⟩)
    obtain ⟨bp, h1, h2, h3⟩ := h.2
    refine ⟨⟨bp, Nat.le_trans hb.size h1, h2, h3.os.trans hb.os, h3.tape.trans hb.tape, h3.output.trans hb.output, Nat.le_trans hb.size h3.size, fun b hb2 hf => (h3.block b (Nat.lt_of_lt_of_le hb2 hb.size) (fun hh => hf ⟨hb2, hh.2⟩)).trans (hb.block b hb2)⟩, fun o => cell_of_block (h3.block _ hbs (fun hh => by have := hfoot bp _ (Nat.le_trans hb.size h1) hh.2; omega))⟩
  have L0 := (Law.start w).has (gl n m M) 59
  have HL := Lib.hid L0
  have HW := Lib.hid hwalk
  have HIX := Lib.hid (fun W => indices_any m W (by omega))
  have HB0 := Lib.hid HL.out.drew.below
  obtain ⟨e0, e1, e2, e3, e4, e5, e6, e7, _⟩ := HL.out.drew.ownHas.eight
  have hm6 := hm
  clear hvis hkeep hfoot hI hgc hwalk L0 HL hm
  rw [show (gl n m M).toArray = #[.int .i64 n, .int .i64 m, .int .i64 (M 0), .int .i64 (M 1), .int .i64 (M 2), .int .i64 (M 3), .int .i64 (M 4), .int .i64 (M 5)] from rfl] at *
  go_enter Try.func60, Try.ntmps60
  go_upto_region 1 with fail
  generalize w.alloc (.cells #[.int .i64 n, .int .i64 m, .int .i64 (M 0), .int .i64 (M 1), .int .i64 (M 2), .int .i64 (M 3), .int .i64 (M 4), .int .i64 (M 5)] 59) = w5 at *
  go_region_held3 (fun w' => w'.cell? ⟨w.heap.size, 0, none⟩ = some (.int .i64 n) ∧ w'.cell? ⟨w.heap.size, 1, none⟩ = some (.int .i64 m) ∧ w'.cell? ⟨w.heap.size, 2, none⟩ = some (.int .i64 (M 0)) ∧ w'.cell? ⟨w.heap.size, 3, none⟩ = some (.int .i64 (M 1)) ∧ w'.cell? ⟨w.heap.size, 4, none⟩ = some (.int .i64 (M 2)) ∧ w'.cell? ⟨w.heap.size, 5, none⟩ = some (.int .i64 (M 3)) ∧ w'.cell? ⟨w.heap.size, 6, none⟩ = some (.int .i64 (M 4)) ∧ w'.cell? ⟨w.heap.size, 7, none⟩ = some (.int .i64 (M 5))) (first | (repeat' apply And.intro) <;> first | with_reducible assumption | assumption | exact cell_later (below_new _) (by assumption) | exact cell_later (below_new _) (cell_later (below_new _) (by assumption))) ((first
    | (go_at_call 80; ((with_reducible refine (HIX.out _).mono ?_); rintro e wA ⟨gi, rfl, hOI, hbI⟩; have hcell : wA.cell? ⟨w5.heap.size, 0, none⟩ = some (.int .i64 (-1)) := cell_later hbI (show (w5.drew.alloc (.cells #[.int .i64 (-1)] 3)).cell? ⟨w5.drew.heap.size, 0, none⟩ = some (.int .i64 (-1)) by rw [World.cell?_alloc_at _ _ _ _ rfl]; rfl); have hbb := (below_new (w := w5.drew) (.cells #[.int .i64 (-1)] 3)); have HI1 := Lib.hid (And.intro hOI (HB0.out.trans ((below_on hbb hbI).mono HB0.out.size))); replace e0 := cell_later hbb e0; replace e1 := cell_later hbb e1; replace e2 := cell_later hbb e2; replace e3 := cell_later hbb e3; replace e4 := cell_later hbb e4; replace e5 := cell_later hbb e5; replace e6 := cell_later hbb e6; replace e7 := cell_later hbb e7; replace e0 := cell_later hbI e0; replace e1 := cell_later hbI e1; replace e2 := cell_later hbI e2; replace e3 := cell_later hbI e3; replace e4 := cell_later hbI e4; replace e5 := cell_later hbI e5; replace e6 := cell_later hbI e6; replace e7 := cell_later hbI e7; clear hOI hbI hbb))
    | (go_at_call 80; ((with_reducible refine (HIX.out _).mono ?_); rintro e wA ⟨gi, rfl, hOI, hbI⟩; have HI1 := Lib.hid (And.intro hOI (HB0.out.trans (hbI.mono HB0.out.size))); replace e0 := cell_later hbI e0; replace e1 := cell_later hbI e1; replace e2 := cell_later hbI e2; replace e3 := cell_later hbI e3; replace e4 := cell_later hbI e4; replace e5 := cell_later hbI e5; replace e6 := cell_later hbI e6; replace e7 := cell_later hbI e7; clear hOI hbI))
    | (go_at_call 108; ((with_reducible refine (concat2 _ _ wA.heap.size w5.heap.size gi m hm6 (by simp) (by rw [World.cell?_alloc_at _ _ _ _ (by simp)]; simp) (by rw [World.cell?_alloc_at _ _ _ _ (by simp)]; simp) (cell_later (below_new _) hcell) (HI1.out.1.kept (below_new _))).mono ?_); rintro e wB ⟨g, cp, rfl, hgl, hO2, hbB⟩; have hbb := below_on (below_new (w := wA) (.cells #[.slice (some ⟨w5.heap.size, 0, none⟩) 1 1, .slice (some ⟨gi, 0, none⟩) m m] 22)) hbB; have HI2 := Lib.hid (And.intro hO2 (below_on HI1.out.2 hbb)); have hgw := Nat.le_trans (Nat.le_trans HI1.out.2.size (below_new (w := wA) (.cells #[.slice (some ⟨w5.heap.size, 0, none⟩) 1 1, .slice (some ⟨gi, 0, none⟩) m m] 22)).size) hgl; replace e0 := cell_later hbb e0; replace e1 := cell_later hbb e1; replace e2 := cell_later hbb e2; replace e3 := cell_later hbb e3; replace e4 := cell_later hbb e4; replace e5 := cell_later hbb e5; replace e6 := cell_later hbb e6; replace e7 := cell_later hbb e7; clear hO2 hbB hbb hgl hcell))
    | (go_at_call 108; ((with_reducible refine (concat2 _ _ (wA.heap.size + 1) wA.heap.size gi m hm6 (by simp) (by rw [World.cell?_alloc_at _ _ _ _ (by simp)]; simp) (by rw [World.cell?_alloc_at _ _ _ _ (by simp)]; simp) (cell_later (below_new _) (show (wA.alloc (.cells #[.int .i64 (-1)] 3)).cell? ⟨wA.heap.size, 0, none⟩ = some (.int .i64 (-1)) by rw [World.cell?_alloc_at _ _ _ _ (by simp)]; simp)) ((HI1.out.1.kept (below_new _)).kept (below_new _))).mono ?_); rintro e wB ⟨g, cp, rfl, hgl, hO2, hbB⟩; have hba := below_on (below_new (w := wA) (.cells #[.int .i64 (-1)] 3)) (below_new (.cells #[.slice (some ⟨wA.heap.size, 0, none⟩) 1 1, .slice (some ⟨gi, 0, none⟩) m m] 22)); have hbb := below_on hba hbB; have HI2 := Lib.hid (And.intro hO2 (below_on HI1.out.2 hbb)); have hgw := Nat.le_trans (Nat.le_trans HI1.out.2.size hba.size) hgl; replace e0 := cell_later hbb e0; replace e1 := cell_later hbb e1; replace e2 := cell_later hbb e2; replace e3 := cell_later hbb e3; replace e4 := cell_later hbb e4; replace e5 := cell_later hbb e5; replace e6 := cell_later hbb e6; replace e7 := cell_later hbb e7; clear hO2 hbB hba hbb hgl))
    | (go_at_call 107; ((with_reducible refine (HW.out _ g cp HI2.out.2 (World.block_lt_of_cell? _ _ e0) hgw HI2.out.1).mono ?_); rintro e wC ⟨rfl, hfin, hcs⟩; have HFIN := Lib.hid hfin; clear hfin; replace e0 := (hcs 0).trans e0; replace e1 := (hcs 1).trans e1; replace e2 := (hcs 2).trans e2; replace e3 := (hcs 3).trans e3; replace e4 := (hcs 4).trans e4; replace e5 := (hcs 5).trans e5; replace e6 := (hcs 6).trans e6; replace e7 := (hcs 7).trans e7; clear hcs))
    | fail))
  all_goals
    clear e0 e1 e2 e3 e4 e5 e6 e7
    go_wp2_with fail
    go_end0
    exact ⟨rfl, HFIN.out⟩
/-- A walk whose visitor keeps things that are made on the way: of what the walk itself writes, the places alone are named to it. -/
theorem walk_any2 (n m k : Nat) (M : Nat → Int) (V : FuncId) (first cap : Array Value) (foot : Nat → Prop) (I : Nat → Nat → World → Prop) (cont : Nat → Bool) (w : World)
    (hn : n ≤ 6) (hm : m ≤ 6) (hk : k ≤ 6) (hgc : ∀ k, k < 6 → 0 ≤ M k ∧ M k < 64)
    (hfoot : ∀ b, foot b → b < w.heap.size) (hkeep : ∀ bp j w1 w2, w.heap.size ≤ bp → Chg (fun b => b = bp) w1 w2 → I bp j w1 → I bp j w2)
    (hcall : ∀ (args : Array Value) (w : World), (callFunc V args).run Try.prog w = .ok (.enter V args) w)
    (hvis : ∀ bp, w.heap.size ≤ bp → ∀ j P, (pl m (bM M) n 0 0 k)[j]? = some P → ∀ w, I bp j w → Calls Try.prog V (first.push (pv6 (plF P n)) ++ cap) w fun e w' => e = .returned (.bool (cont j)) ∧ I bp (j + 1) w' ∧ Chg foot w w')
    (hI : ∀ bp w', w.heap.size ≤ bp → bp < w'.heap.size → Below w.heap.size w w' → I bp 0 w') :
    Calls Try.prog 60 #[gv n m M, .int .i64 k, .func (.func V) first cap] w fun e w' => e = .returned (.tuple #[]) ∧ ∃ bp, w.heap.size ≤ bp ∧ I bp (runV cont 0 (wR m (bM M) n 0 0 k)).1 w' ∧ Chg foot w w' := by
  refine (walk_any3 n m k M V first cap (fun _ b => foot b) I cont w hn hm hk hgc (fun bp b _ h => .inl (hfoot b h)) hkeep hcall hvis (fun bp w' h1 h2 h3 => hI bp w' h1 (by omega) h3)).mono (fun e w' h => ⟨h.1, ?_⟩)
  obtain ⟨bp, h1, h2, h3⟩ := h.2
  exact ⟨bp, h1, h2, h3.mono (fun b hb => hb.2)⟩
theorem walk_any (n m k : Nat) (M : Nat → Int) (V : FuncId) (first cap : Array Value) (foot : Nat → Prop) (I : Nat → World → Prop) (cont : Nat → Bool) (w : World)
    (hn : n ≤ 6) (hm : m ≤ 6) (hk : k ≤ 6) (hgc : ∀ k, k < 6 → 0 ≤ M k ∧ M k < 64)
    (hfoot : ∀ b, foot b → b < w.heap.size) (hkeep : ∀ j w1 w2, Chg (fun b => w.heap.size ≤ b) w1 w2 → I j w1 → I j w2)
    (hcall : ∀ (args : Array Value) (w : World), (callFunc V args).run Try.prog w = .ok (.enter V args) w)
    (hvis : ∀ j P, (pl m (bM M) n 0 0 k)[j]? = some P → ∀ w, I j w → Calls Try.prog V (first.push (pv6 (plF P n)) ++ cap) w fun e w' => e = .returned (.bool (cont j)) ∧ I (j + 1) w' ∧ Chg foot w w')
    (hI : I 0 w) :
    Calls Try.prog 60 #[gv n m M, .int .i64 k, .func (.func V) first cap] w fun e w' => e = .returned (.tuple #[]) ∧ I (runV cont 0 (wR m (bM M) n 0 0 k)).1 w' ∧ Chg foot w w' := by
  refine (walk_any2 n m k M V first cap foot (fun _ => I) cont w hn hm hk hgc hfoot (fun bp j w1 w2 h hc hi => hkeep j w1 w2 (hc.mono (fun b hb => by omega)) hi) hcall (fun _ _ => hvis) (fun bp w' _ _ hb => hkeep 0 w w' (Chg.of_below hb) hI)).mono (fun e w' h => ⟨h.1, ?_⟩)
  obtain ⟨bp, h1, h2, h3⟩ := h.2
  exact ⟨h2, h3⟩

end Go.Proofs.Ytdimbnkgomfojaa
end

section

end
