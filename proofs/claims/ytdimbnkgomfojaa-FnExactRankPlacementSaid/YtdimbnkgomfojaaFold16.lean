import Derived.Test.YtdimbnkgomfojaaFold15
import Derived.Test.YtdimbnkgomfojaaFold4
import Derived.Test.YtdimbnkgomfojaaFold0
import Derived.Test.YtdimbnkgomfojaaFold6
import Derived.Laws.AppendOwnNone
import Derived.Lib.AppendZeros

section
namespace Go.Proofs.Ytdimbnkgomfojaa
open Go.RowKit Go.WideShapes

set_option maxRecDepth 100000 in
set_option maxHeartbeats 6400000 in
theorem walkCh_any (n m k : Nat) (M : Nat → Int) (V : FuncId) (first cap : Array Value) (gc cp : Nat) (C : List Int) (foot : Nat → Nat → Prop) (I : Nat → Nat → World → Prop) (cont : Nat → Bool) (w : World)
    (hn : n ≤ 6) (hm : m ≤ 6) (hk : k ≤ 6) (hgc : ∀ k, k < 6 → 0 ≤ M k ∧ M k < 64) (hC : choiceOk m C)
    (hfoot : ∀ bp b, w.heap.size ≤ bp → foot bp b → (b < w.heap.size ∧ b ≠ gc) ∨ bp + 1 < b) (hkeep : ∀ bp j w1 w2, w.heap.size ≤ bp → Chg (fun b => b = bp) w1 w2 → I bp j w1 → I bp j w2)
    (hcall : ∀ (args : Array Value) (w : World), (callFunc V args).run Try.prog w = .ok (.enter V args) w)
    (hvis : ∀ bp, w.heap.size ≤ bp → ∀ j P, (plG (bM M) C n 0 0 k)[j]? = some P → ∀ w, I bp j w → Calls Try.prog V (first.push (pv6 (plF P n)) ++ cap) w fun e w' => e = .returned (.bool (cont j)) ∧ I bp (j + 1) w' ∧ Chg (foot bp) w w')
    (hO : Own w 0 (.slice (some ⟨gc, 0, none⟩) C.length cp) C)
    (hI : ∀ bp w', w.heap.size ≤ bp → bp + 1 < w'.heap.size → Below w.heap.size w w' → I bp 0 w') :
    Calls Try.prog 107 #[gv n m M, .int .i64 k, .slice (some ⟨gc, 0, none⟩) C.length cp, .func (.func V) first cap] w fun e w' => e = .returned (.tuple #[]) ∧ ∃ bp, w.heap.size ≤ bp ∧ I bp (runV cont 0 (plG (bM M) C n 0 0 k).length).1 w' ∧ Chg (fun b => b < w.heap.size ∧ foot bp b) w w' := by
  have L0 := (((Law.start w).has (gl n m M) 59).has [.slice (some ⟨gc, 0, none⟩) C.length cp] 22).has [.func (.func V) first cap] 72
  simp only [World.size_alloc] at L0
  have HL := Lib.hid L0
  have HV := Lib.hid hvis
  have HKP := Lib.hid hkeep
  have HFT := Lib.hid hfoot
  have HIW := Lib.hid hI
  have HGC := Lib.hid hgc
  have HCH := Lib.hid hC
  have HO := Lib.hid hO
  have HGL := Lib.hid (own_lt hO gc rfl).2
  clear L0 hvis hkeep hfoot hI hgc hC hO
  go_enter Try.func107, Try.ntmps107
  go_wp2_with fail
  refine (noPlaces_any _).mono ?_
  rintro e w1 ⟨rfl, hb⟩
  have L1 := ((HL.out.kept hb).has (pl6 (fun _ => -1)) 70).has [.func (.func 130) #[] #[.pointer (some ⟨w.heap.size, 0, none⟩), .pointer (some ⟨w.heap.size + 1 + 1, 0, none⟩), .pointer (some ⟨w1.heap.size, 0, none⟩), .pointer (some ⟨w.heap.size + 1, 0, none⟩), .pointer (some ⟨w1.heap.size + 1, 0, none⟩)]] 73
  simp only [World.size_alloc] at L1
  rw [show (w1.alloc (.cells (pl6 (fun _ => -1)).toArray 70)) = (w1.alloc (.cells #[.int .i64 (-1), .int .i64 (-1), .int .i64 (-1), .int .i64 (-1), .int .i64 (-1), .int .i64 (-1)] 70)) from rfl] at L1
  have hz1 := hb.size
  simp only [World.size_alloc] at hz1
  have L2 : Law w [tHas (w1.heap.size + 1) [.func (.func 130) #[] #[.pointer (some ⟨w.heap.size, 0, none⟩), .pointer (some ⟨w.heap.size + 1 + 1, 0, none⟩), .pointer (some ⟨w1.heap.size, 0, none⟩), .pointer (some ⟨w.heap.size + 1, 0, none⟩), .pointer (some ⟨w1.heap.size + 1, 0, none⟩)]] 73, tHas w1.heap.size (pl6 (fun _ => -1)) 70, tHas (w.heap.size + 1 + 1) [.func (.func V) first cap] 72, tHas (w.heap.size + 1) [.slice (some ⟨gc, 0, none⟩) C.length cp] 22, tHas w.heap.size (gl n m M) 59] ((w1.alloc (.cells #[.int .i64 (-1), .int .i64 (-1), .int .i64 (-1), .int .i64 (-1), .int .i64 (-1), .int .i64 (-1)] 70)).alloc (.cells #[.func (.func 130) #[] #[.pointer (some ⟨w.heap.size, 0, none⟩), .pointer (some ⟨w.heap.size + 1 + 1, 0, none⟩), .pointer (some ⟨w1.heap.size, 0, none⟩), .pointer (some ⟨w.heap.size + 1, 0, none⟩), .pointer (some ⟨w1.heap.size + 1, 0, none⟩)]] 73)) := L1
  have HL1 := Lib.hid L2
  clear L1 L2 hb HL
  go_upto_region 4 with fail
  generalize (w1.alloc (.cells #[.int .i64 (-1), .int .i64 (-1), .int .i64 (-1), .int .i64 (-1), .int .i64 (-1), .int .i64 (-1)] 70)).alloc (.cells #[.func (.func 130) #[] #[.pointer (some ⟨w.heap.size, 0, none⟩), .pointer (some ⟨w.heap.size + 1 + 1, 0, none⟩), .pointer (some ⟨w1.heap.size, 0, none⟩), .pointer (some ⟨w.heap.size + 1, 0, none⟩), .pointer (some ⟨w1.heap.size + 1, 0, none⟩)]] 73) = w5 at *
  have v0 := HL1.out.ownHas.cell 0
  simp only [List.getElem?_cons_zero] at v0
  have hgl := HGL.out
  have hok : WkOk n V first cap gc w.heap.size (w.heap.size + 1 + 1) w1.heap.size (w.heap.size + 1) (w1.heap.size + 1) (foot w1.heap.size) (I w1.heap.size) cont (plG (bM M) C n 0 0 k) :=
    ⟨by omega, by omega, by omega, by omega, by omega, fun h => by have := HFT.out _ _ (by omega) h; omega, fun h => by have := HFT.out _ _ (by omega) h; omega, fun h => by have := HFT.out _ _ (by omega) h; omega, fun h => by have := HFT.out _ _ (by omega) h; omega, fun h => by have := HFT.out _ _ (by omega) h; omega, fun h => by have := HFT.out _ _ (by omega) h; omega,
      fun j a b hc hi => HKP.out w1.heap.size j a b (by omega) hc hi, hcall, HV.out w1.heap.size (by omega)⟩
  have hwk : Wk n m M V first cap gc cp C w.heap.size (w.heap.size + 1 + 1) w1.heap.size (w.heap.size + 1) (w1.heap.size + 1) (I w1.heap.size) (fun _ => -1) 0 w5 :=
    ⟨HL1.out.tl.tl.tl.tl.ownHas, HL1.out.tl.tl.ownHas, HL1.out.tl.ownHas, HL1.out.tl.tl.tl.ownHas, HO.out.kept HL1.out.below, HL1.out.ownHas, HIW.out w1.heap.size w5 (by omega) HL1.out.ownHas.lt HL1.out.below⟩
  have hr := walk1_any n m M V first cap gc cp C w.heap.size (w.heap.size + 1 + 1) w1.heap.size (w.heap.size + 1) (w1.heap.size + 1) (foot w1.heap.size) (I w1.heap.size) cont (plG (bM M) C n 0 0 k) hn hm HGC.out HCH.out hok n 0 0 k [] (by omega) (by omega) hk rfl 0 [] (by simp) (fun _ => -1) w5 (okF_nil n) hwk
  rw [show ((0 : Nat) : Int) = 0 from rfl] at hr
  have HR := Lib.hid hr
  have HB := Lib.hid HL1.out.below
  clear hr hwk hok HL1 hcall hgl
  go_wp2_with fail
  refine HR.out.mono ?_
  rintro e w6 ⟨rfl, ⟨F, _, hW⟩, hC⟩
  rw [Nat.zero_add] at hW
  have HE := Lib.hid (show ∃ bp, w.heap.size ≤ bp ∧ I bp (runV cont 0 (plG (bM M) C n 0 0 k).length).1 w6 ∧ Chg (fun b => b < w.heap.size ∧ foot bp b) w w6 from
    ⟨w1.heap.size, by omega, hW.inv, hC.os.trans HB.out.os, hC.tape.trans HB.out.tape, hC.output.trans HB.out.output, Nat.le_trans HB.out.size hC.size, fun b hb hf => (hC.block b (Nat.lt_of_lt_of_le hb HB.out.size) (fun h => h.elim (fun h2 => by omega) (fun h3 => hf ⟨hb, h3⟩))).trans (HB.out.block b hb)⟩)
  clear hW hC HR
  go_wp2_with fail
  go_end0
  exact ⟨rfl, HE.out⟩
end Go.Proofs.Ytdimbnkgomfojaa
end

section
namespace Go.Proofs.Ytdimbnkgomfojaa
open Go.RowKit

/-- A list by its numbers. -/
def lstI (L : Nat) (g : Nat → Int) : List Int := (List.range L).map g
theorem lstI_len (L : Nat) (g : Nat → Int) : (lstI L g).length = L := by simp [lstI]
theorem lstI_get (L : Nat) (g : Nat → Int) (k : Nat) (h : k < L) : (lstI L g).getD k 0 = g k := by simp [lstI, List.getD, h]
theorem lstI_congr (L : Nat) (g g' : Nat → Int) (h : ∀ k, k < L → g k = g' k) : lstI L g = lstI L g' := by
  unfold lstI
  refine List.map_congr_left fun k hk => h k ?_
  simpa using hk
theorem lstI_zero (L : Nat) : List.replicate L (0 : Int) = lstI L (fun _ => 0) := by
  refine List.ext_getElem ?_ fun k h1 h2 => ?_
  · simp [lstI]
  · simp [lstI]
theorem lstI_set (L : Nat) (g g' : Nat → Int) (i : Nat) (x : Int) (hx : g' i = x) (ho : ∀ k, k < L → k ≠ i → g' k = g k) : (lstI L g).set i x = lstI L g' := by
  refine List.ext_getElem ?_ fun k h1 h2 => ?_
  · simp [lstI]
  · have hk : k < L := by simpa [lstI] using h2
    rw [List.getElem_set]
    by_cases e : i = k
    · subst e
      simp [lstI, hx]
    · rw [if_neg e]
      simp [lstI, ho k hk (fun h => e h.symm)]
theorem lstI_snoc (L : Nat) (g : Nat → Int) : lstI L g ++ [g L] = lstI (L + 1) g := by simp [lstI, List.range_succ]
theorem lstI_self (xs : List Int) : lstI xs.length (fun k => xs.getD k 0) = xs := by
  refine List.ext_getElem ?_ fun k h1 h2 => ?_
  · simp [lstI]
  · simp [lstI, List.getD, h2]

end Go.Proofs.Ytdimbnkgomfojaa
end

section
namespace Go.Proofs.Ytdimbnkgomfojaa
open Go.RowKit Go.WideShapes

def idx0 (n : Nat) : List Int := lstI n (fun q => (q : Int))
def uptI (k q : Nat) : Int := if q < k then (q : Int) else 0

set_option maxRecDepth 100000 in
set_option maxHeartbeats 1600000 in
theorem indices_any (n : Nat) (w : World) (hn : n ≤ 1048576) :
    Calls Try.prog 80 #[.int .i64 n] w fun e w' => ∃ g, e = .returned (.slice (some ⟨g, 0, none⟩) n n) ∧ Own w' w.heap.size (.slice (some ⟨g, 0, none⟩) n n) (idx0 n) ∧ Below w.heap.size w w' := by
  have hmk := run_make_row' (P := Try.prog) 22 3 (.int .i64 0) 8 Try.underlying22 Try.infoI rfl .i64 .i64 n (by omega) (by omega)
  go_enter Try.func80, Try.ntmps80
  go_upto_region 2 with fail
  have L2 := (Law.start w).own (below_new _) (own_made w n _ w.heap.size rfl (Nat.le_refl _) (by omega))
  rw [lstI_zero, lstI_congr n (fun _ => 0) (uptI 0) (fun k _ => by unfold uptI; rw [if_neg (by omega)])] at L2
  have HL2 := Lib.hid L2
  clear L2 hmk
  generalize w.alloc (.cells (madeCells #[.int .i64 0] n) 3) = w6 at *
  go_wp2_with fail
  go_loopw [9] (fun i wr => ∃ k : Nat, k ≤ n ∧ i = .int .i64 k ∧ Law w [tOwn (.slice (some ⟨w.heap.size, 0, none⟩) n n) (lstI n (uptI k))] wr) (fun i _ => n - (intOf i).toNat)
  case atStart => exact ⟨0, Nat.zero_le _, rfl, HL2.out⟩
  case round =>
    clear HL2
    obtain ⟨k, hk, rfl, L⟩ := hrel
    by_cases hlt : k < n
    · have o := L.ownInts
      have d1 := Own.cell (by rw [lstI_len]; exact o) k (by rw [lstI_len]; exact hlt)
      have d2 := Own.free (by rw [lstI_len]; exact o) k
      have hS := Law.store (ts := []) L (lstI_len _ _) k (k : Int)
      rw [lstI_set n _ (uptI (k + 1)) k _ (by unfold uptI; rw [if_pos (by omega)]) (fun q _ hq => by
        unfold uptI
        by_cases h : q < k
        · rw [if_pos h, if_pos (by omega)]
        · rw [if_neg h, if_neg (by omega)])] at hS
      have HS := Lib.hid hS
      generalize (lstI n (uptI k)).getD k 0 = z at *
      clear L hS o
      go_wp2_with fail
      go_roundw
      case rel => exact ⟨k + 1, by omega, by go_num, HS.out⟩
      case measure => simp [intOf]; omega
    · obtain rfl : k = n := by omega
      have HF := Lib.hid (show lstI k (uptI k) = idx0 k from lstI_congr k _ _ (fun q hq => by unfold uptI; rw [if_pos hq]))
      have HL := Lib.hid L
      clear L
      go_wp2_with fail
      go_ret
      exact ⟨_, rfl, by rw [← HF.out]; exact HL.out.ownLo, HL.out.below⟩
end Go.Proofs.Ytdimbnkgomfojaa
end

section
namespace Go.Proofs.Ytdimbnkgomfojaa
open Go.RowKit

/-- What is appended: nothing at all, or a row of cells. -/
def Src (w : World) (src : Value) (ys : List Int) : Prop :=
  (src = .slice none 0 0 ∧ ys = []) ∨ ∃ ad cap, src = .slice (some ad) ys.length cap ∧ ∀ j, j < ys.length → w.cell? (ad.add j) = some (.int .i64 (ys.getD j 0))

theorem Own.src {w : World} {lo : Nat} {v : Value} {xs : List Int} (h : Own w lo v xs) : Src w v xs := by
  rcases h.cases with h2 | ⟨g, cap, rfl, h1, h2, h3, h4⟩
  · exact .inl h2
  · refine .inr ⟨_, cap, rfl, fun j hj => ?_⟩
    rw [Addr.add_lit, Nat.zero_add]
    exact h.cell j hj

theorem Src.kept {w w' : World} {v : Value} {ys : List Int} (h : Src w v ys) (hb : Below w.heap.size w w') : Src w' v ys := by
  rcases h with h | ⟨ad, cap, hv, hc⟩
  · exact .inl h
  · refine .inr ⟨ad, cap, hv, fun j hj => ?_⟩
    have := hc j hj
    have hlt := World.block_lt_of_cell? _ _ this
    rw [hb.cell hlt]
    exact this

theorem wp_append {w : World} {ops : Array Oper} {rest : List Oper} {o : Oper} {a : Act} {Q : Exit → Act → World → Prop} (hgd : o.guard = none) (s x : Operand)
    (ho : o.op = .call { callee := .builtin .append, args := #[s, x], argTypes := #[22, 22] }) (lo : Nat) (v : Value) (xs ys : List Int) (src : Value)
    (hs : a.eval s = v) (hx : a.eval x = src) (hown : Own w lo v xs) (hsrc : Src w src ys) (hl : xs.length + ys.length ≤ 1048576) (hlo : lo ≤ w.heap.size)
    (h : ∀ v' w', Own w' lo v' (xs ++ ys) → w.grownBy w' v.ownBlock → wpList Try.prog ops Q rest (a.put o.dst v') w') : wpList Try.prog ops Q (o :: rest) a w := by
  obtain ⟨i0, hi, hz0, hz1, hz2⟩ := info_parts Try.infoI
  rcases hsrc with ⟨rfl, rfl⟩ | ⟨ad, cap, rfl, hc⟩
  · refine wpList_append_own_none hgd s x 22 ho lo 3 i0 1 Try.underlying22 hi v xs.length _ hs hown hx ?_
    exact h v w (by simpa using hown) (World.grownBy.refl _ _)
  · refine wpList_append_own w hgd s x 22 ho lo 3 i0 (.int .i64 0) 1 8 Try.underlying22 hi hz0 hz1 hz2 rfl (by decide) v xs.length _ hs hown ad ys.length cap (ys.map (Value.int .i64)) hx (by simp) ?_ (ints_oneCell _ _) (by unfold maxLen; omega) (by omega) hlo ?_
    · intro j u hu
      obtain ⟨hj, rfl⟩ := List.getElem?_eq_some_iff.1 hu
      simp only [List.length_map] at hj
      rw [hc j hj]
      simp [List.getD, hj]
    · intro v' w' h1 h2 _
      refine h v' w' ?_ h2
      unfold Own
      rw [List.length_append, List.map_append]
      exact h1

/-- A new slice of nothing. -/
theorem own_empty (w : World) : Own (w.alloc (.cells #[] 3)) w.heap.size (.slice (some ⟨w.heap.size, 0, none⟩) 0 0) [] :=
  ⟨by simp, .inr ⟨w.heap.size, 0, #[], rfl, Nat.le_refl _, heap_alloc_new w _, Nat.le_refl _, by unfold maxLen; omega, by simp, by simp⟩⟩

set_option maxHeartbeats 800000 in
theorem l1Own_any (xs : List Int) (w : World) (hx : xs.length ≤ 1048576) (src : Value) (hs : Src w src xs) :
    Calls Try.prog 105 #[src] w fun e w' => ∃ v, e = .returned v ∧ Own w' w.heap.size v xs ∧ Below w.heap.size w w' := by
  have hb := below_new (w := w) (.cells #[] 3)
  have hs1 := hs.kept hb
  have HO := Lib.hid (own_empty w)
  have HS := Lib.hid hs1
  have HB := Lib.hid hb
  clear hs hb hs1
  go_enter Try.func105, Try.ntmps105
  go_wp2_with (at_builtin; refine wp_append rfl _ _ rfl w.heap.size _ [] xs _ rfl rfl HO.out HS.out ?h1 ?h2 ?_)
  case h1 => simp; omega
  case h2 => simp
  intro v w1 hO hg
  have HO1 := Lib.hid hO; clear hO
  have HB1 := Lib.hid (HB.out.grown hg (by simp) (by intro k hk; simp [Value.ownBlock] at hk; omega))
  clear hg
  go_wp2
  go_ret
  exact ⟨_, rfl, by simpa using HO1.out, HB1.out⟩

end Go.Proofs.Ytdimbnkgomfojaa
end

section
namespace Go.Proofs.Ytdimbnkgomfojaa
open Go.RowKit Go.WideShapes

set_option maxRecDepth 100000 in
set_option maxHeartbeats 1600000 in
theorem grow_any (n : Nat) (w : World) (h0 : 0 < n) (hn : n ≤ 1048576) :
    Calls Try.prog 131 #[.slice none 0 0, .int .i64 n] w fun e w' => ∃ g cap, e = .returned (.slice (some ⟨g, 0, none⟩) 0 cap) ∧ Own w' w.heap.size (.slice (some ⟨g, 0, none⟩) 0 cap) [] ∧ Below w.heap.size w w' := by
  obtain ⟨i0, hi, hz0, hz1, hz2⟩ := info_parts Try.infoI
  have happ := fun (W : World) => Lib.run_append_nil_zeros (P := Try.prog) W 22 3 22 3 i0 (.int .i64 0) .i64 .i64 Try.underlying22 Try.underlying3 hi hz0 n h0 (by omega) (by omega) (by rw [hz2]; omega)
  have hG := fun (W : World) => grownCap_ge W n 0 3
  have hM := fun (W : World) => grownCap_le_maxLen W n 0 3 (by unfold maxLen; omega)
  have hZ : ∀ (W : World), (Builtin.zeroCells (Value.int .i64 0).cells n ++ Builtin.zeroCells (Value.int .i64 0).cells (grownCap W n 0 3 - n)).size = grownCap W n 0 3 := fun W => by
    have := hG W
    simp [size_zeroCells, Value.cells]
    omega
  have hfin : Own (w.drew.alloc (.cells (Builtin.zeroCells (Value.int .i64 0).cells n ++ Builtin.zeroCells (Value.int .i64 0).cells (grownCap w n 0 3 - n)) 3)) w.heap.size (.slice (some ⟨w.heap.size, 0, none⟩) 0 (grownCap w n 0 3)) [] ∧
      Below w.heap.size w (w.drew.alloc (.cells (Builtin.zeroCells (Value.int .i64 0).cells n ++ Builtin.zeroCells (Value.int .i64 0).cells (grownCap w n 0 3 - n)) 3)) := by
    refine ⟨⟨by simp, .inr ⟨w.heap.size, grownCap w n 0 3, _, rfl, Nat.le_refl _, heap_alloc_new _ _, Nat.zero_le _, hM w, ?_, by simp⟩⟩, ((Below.refl _ _).drew).trans (below_new (w := w.drew) _)⟩
    rw [hZ w, Nat.mul_one]
  have HF := Lib.hid hfin
  have hcap := hG w
  generalize hzz : (Builtin.zeroCells (Value.int .i64 0).cells n ++ Builtin.zeroCells (Value.int .i64 0).cells (grownCap w n 0 3 - n)) = Z at HF
  have happ0 := happ w
  rw [hzz] at happ0
  generalize grownCap w n 0 3 = C at *
  have hn0 : ¬ ((n : Int) < 0) := by omega
  have hn1 : (n : Int) > 0 := by omega
  have hC : (n : Int) ≤ C := by omega
  clear hfin hzz happ hG hM hZ
  go_enter Try.func131, Try.ntmps131
  go_wp2_with (at_builtin; refine Lib.wpList_append_run _ rfl _ _ 22 3 rfl _ _ rfl rfl _ _ happ0 ?_)
  go_wp2_with fail
  go_ret
  exact ⟨_, _, rfl, HF.out.1, HF.out.2⟩

theorem Src.kept' {w w' : World} {v : Value} {ys : List Int} (h : Src w v ys) (hb : Below w.heap.size w w') : Src w' v ys := h.kept hb
/-- The first k lists, one behind the other. -/
def catY (Y : Nat → List Int) : Nat → List Int
  | 0 => []
  | k + 1 => catY Y k ++ Y k
theorem catY_len (Y : Nat → List Int) (L : Nat) (k n : Nat) (hk : k ≤ n) (h : (catY Y n).length ≤ L) : (catY Y k).length ≤ L := by
  induction n with
  | zero => rw [show k = 0 by omega]; exact h
  | succ n ih =>
    by_cases e : k = n + 1
    · rw [e]; exact h
    · refine ih (by omega) ?_
      rw [catY, List.length_append] at h
      omega
theorem src_len {w : World} {v : Value} {ys : List Int} (h : Src w v ys) : ∃ a c, v = .slice a ys.length c := by
  rcases h with ⟨rfl, rfl⟩ | ⟨ad, cap, rfl, _⟩
  · exact ⟨none, 0, rfl⟩
  · exact ⟨_, _, rfl⟩

set_option maxRecDepth 100000 in
set_option maxHeartbeats 3200000 in
theorem concat_any (g0 n c : Nat) (S : Nat → Value) (Y : Nat → List Int) (w : World) (hn : n ≤ 1048576) (hg0 : g0 < w.heap.size) (h0 : 0 < (catY Y n).length) (hl : (catY Y n).length ≤ 1048576)
    (hc : ∀ k, k < n → w.cell? ⟨g0, k, none⟩ = some (S k)) (hs : ∀ k, k < n → Src w (S k) (Y k)) :
    Calls Try.prog 108 #[.slice (some ⟨g0, 0, none⟩) n c] w fun e w' => ∃ v, e = .returned v ∧ Own w' w.heap.size v (catY Y n) ∧ Below w.heap.size w w' := by
  have HC := Lib.hid hc
  have HS := Lib.hid hs
  have HL := Lib.hid (fun k (hk : k ≤ n) => catY_len Y _ k n hk hl)
  have HG := Lib.hid (fun W => grow_any (catY Y n).length W h0 hl)
  obtain ⟨T, hT⟩ : ∃ T, T = (catY Y n).length := ⟨_, rfl⟩
  rw [← hT] at HG
  have HT := Lib.hid hT
  clear hc hs h0 hl hT
  go_enter Try.func108, Try.ntmps108
  go_wp2_with fail
  go_loopw [3, 11] (fun z i wr => ∃ k : Nat, k ≤ n ∧ i = .int .i64 k ∧ z = .int .i64 ((catY Y k).length : Int) ∧ w = wr) (fun _ i _ => n - (intOf i).toNat)
  case atStart => exact ⟨0, Nat.zero_le _, rfl, rfl, rfl⟩
  case round =>
    obtain ⟨k, hk, rfl, rfl, hww⟩ := hrel
    subst hww
    by_cases hlt : k < n
    · have hck := HC.out k hlt
      obtain ⟨a, c1, hv⟩ := src_len (HS.out k hlt)
      rw [hv] at hck
      have hz := HL.out (k + 1) hlt
      have hsum : ((catY Y k).length : Int) + ((Y k).length : Int) = ((catY Y (k + 1)).length : Int) := by rw [catY, List.length_append]; omega
      have hw : wrap64 (((catY Y k).length : Int) + ((Y k).length : Int)) = ((catY Y (k + 1)).length : Int) := by rw [hsum]; exact IntWalk.wrap64_in _ (by omega)
      have hpos : ¬ (((catY Y (k + 1)).length : Int) < 0) := by omega
      have HW := Lib.hid hw
      obtain ⟨z3, hz3⟩ : ∃ z3, z3 = (catY Y (k + 1)).length := ⟨_, rfl⟩
      rw [← hz3] at hw hz hpos HW hsum
      have HZ3 := Lib.hid hz3
      generalize (catY Y k).length = z1 at *
      generalize (Y k).length = z2 at *
      clear hsum hv hz hz3
      go_wp2_with fail
      go_roundw
      case rel => exact ⟨k + 1, by omega, by go_num, by rw [HW.out, HZ3.out], by first | rfl | trivial⟩
      case measure => simp [intOf]; omega
    · obtain rfl : k = n := by omega
      rw [← HT.out]
      go_wp2_with fail
      refine (HG.out _).mono ?_
      rintro e w1 ⟨g, cap, rfl, hO, hb⟩
      have HO1 := Lib.hid (And.intro hO hb)
      clear hO hb
      go_wp2_with fail
      go_loopw [6, 27] (fun v i ws => ∃ j : Nat, j ≤ k ∧ i = .int .i64 j ∧ Hid (Own ws w.heap.size v (catY Y j) ∧ Below w.heap.size w ws)) (fun _ i _ => k - (intOf i).toNat)
      case atStart => exact ⟨0, Nat.zero_le _, rfl, HO1⟩
      case round =>
        clear HO1
        obtain ⟨j, hj, rfl, HO⟩ := hrel
        by_cases hlt2 : j < k
        · have hck := (HO.out.2.cell (p := ⟨g0, j, none⟩) hg0).trans (HC.out j hlt2)
          obtain ⟨a, c1, hv⟩ := src_len (HS.out j hlt2)
          have hsrc := (HS.out j hlt2).kept HO.out.2
          rw [hv] at hck hsrc
          have HSR := Lib.hid hsrc
          have HZ := Lib.hid (HL.out (j + 1) hlt2)
          rw [show (catY Y (j + 1)) = catY Y j ++ Y j from rfl] at HZ
          clear hsrc hv
          go_wp2_with (at_builtin; refine wp_append rfl _ _ rfl w.heap.size _ (catY Y j) (Y j) _ rfl rfl HO.out.1 HSR.out ?h1 ?h2 ?_)
          case h1 => have := HZ.out; rw [List.length_append] at this; exact this
          case h2 => exact HO.out.2.size
          intro v' w' hO hg
          have HO2 : Hid (Own w' w.heap.size v' (catY Y (j + 1)) ∧ Below w.heap.size w w') := Lib.hid ⟨hO, HO.out.2.grown hg HO.out.2.size (fun k hk => (own_lt HO.out.1 k hk).1)⟩
          clear hO hg HO HSR HZ
          go_wp2_with fail
          go_roundw
          case rel => exact ⟨j + 1, by omega, by go_num, HO2⟩
          case measure => simp [intOf]; omega
        · obtain rfl : j = k := by omega
          go_wp2_with fail
          go_ret
          exact ⟨_, rfl, HO.out.1, HO.out.2⟩

end Go.Proofs.Ytdimbnkgomfojaa
end
