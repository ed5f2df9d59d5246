/- A walk over all placements by choices, in the program: the whole. No condition but the sizes. -/
import Derived.Test.YtdimbnkgomfojabWb
import Derived.Test.YtdimbnkgomfojabT2
namespace Go.Proofs.Ytdimbnkgomfojab
open Go.RowKit Go.WideShapes

set_option maxRecDepth 100000 in
set_option maxHeartbeats 6400000 in
theorem walkCh_any (n m k : Nat) (M : Nat → Int) (V : FuncId) (first cap : Array Value) (gc cp : Nat) (C : List Int) (foot : Nat → Nat → Prop) (I : Nat → Nat → World → Prop) (cont : Nat → Bool) (w : World)
    (hn : n ≤ 6) (hm : m ≤ 6) (hk : k ≤ 6) (hgc : ∀ k, k < 6 → 0 ≤ M k ∧ M k < 64) (hC : choiceOk m C)
    (hfoot : ∀ bp b, w.heap.size ≤ bp → foot bp b → (b < w.heap.size ∧ b ≠ gc) ∨ bp + 1 < b) (hkeep : ∀ bp j w1 w2, w.heap.size ≤ bp → Chg (fun b => b = bp) w1 w2 → I bp j w1 → I bp j w2)
    (hcall : ∀ (args : Array Value) (w : World), (callFunc V args).run Try.prog w = .ok (.enter V args) w)
    (hvis : ∀ bp, w.heap.size ≤ bp → ∀ j P, (plG (bM M) C n 0 0 k)[j]? = some P → ∀ w, I bp j w → Calls Try.prog V (first.push (pv6 (plF P n)) ++ cap) w fun e w' => e = .returned (.bool (cont j)) ∧ I bp (j + 1) w' ∧ Chg (foot bp) w w')
    (hO : Own w 0 (.slice (some ⟨gc, 0, none⟩) C.length cp) C)
    (hI : ∀ bp w', w.heap.size ≤ bp → bp + 1 < w'.heap.size → Below w.heap.size w w' → I bp 0 w') :
    Calls Try.prog 105 #[gv n m M, .int .i64 k, .slice (some ⟨gc, 0, none⟩) C.length cp, .func (.func V) first cap] w fun e w' => e = .returned (.tuple #[]) ∧ ∃ bp, w.heap.size ≤ bp ∧ I bp (runV cont 0 (plG (bM M) C n 0 0 k).length).1 w' ∧ Chg (fun b => b < w.heap.size ∧ foot bp b) w w' := by
  have L0 := (((Law.start w).has (gl n m M) 68).has [.slice (some ⟨gc, 0, none⟩) C.length cp] 22).has [.func (.func V) first cap] 73
  simp only [World.size_alloc] at L0
  have HL := Lib.hid L0
  have HV := Lib.hid hvis
  have HKP := Lib.hid hkeep
  have HFT := Lib.hid hfoot
  have HIW := Lib.hid hI
  have HGC := Lib.hid hgc
  have HCH := Lib.hid hC
  have HO := Lib.hid hO
  have HGL := Lib.hid (own_lt hO gc rfl).2
  clear L0 hvis hkeep hfoot hI hgc hC hO
  go_enter Try.func105, Try.ntmps105
  go_wp2_with fail
  refine (noPlaces_any _).mono ?_
  rintro e w1 ⟨rfl, hb⟩
  have L1 := ((HL.out.kept hb).has (pl6 (fun _ => -1)) 71).has [.func (.func 127) #[] #[.pointer (some ⟨w.heap.size, 0, none⟩), .pointer (some ⟨w.heap.size + 1 + 1, 0, none⟩), .pointer (some ⟨w1.heap.size, 0, none⟩), .pointer (some ⟨w.heap.size + 1, 0, none⟩), .pointer (some ⟨w1.heap.size + 1, 0, none⟩)]] 96
  simp only [World.size_alloc] at L1
  rw [show (w1.alloc (.cells (pl6 (fun _ => -1)).toArray 71)) = (w1.alloc (.cells #[.int .i64 (-1), .int .i64 (-1), .int .i64 (-1), .int .i64 (-1), .int .i64 (-1), .int .i64 (-1)] 71)) from rfl] at L1
  have hz1 := hb.size
  simp only [World.size_alloc] at hz1
  have L2 : Law w [tHas (w1.heap.size + 1) [.func (.func 127) #[] #[.pointer (some ⟨w.heap.size, 0, none⟩), .pointer (some ⟨w.heap.size + 1 + 1, 0, none⟩), .pointer (some ⟨w1.heap.size, 0, none⟩), .pointer (some ⟨w.heap.size + 1, 0, none⟩), .pointer (some ⟨w1.heap.size + 1, 0, none⟩)]] 96, tHas w1.heap.size (pl6 (fun _ => -1)) 71, tHas (w.heap.size + 1 + 1) [.func (.func V) first cap] 73, tHas (w.heap.size + 1) [.slice (some ⟨gc, 0, none⟩) C.length cp] 22, tHas w.heap.size (gl n m M) 68] ((w1.alloc (.cells #[.int .i64 (-1), .int .i64 (-1), .int .i64 (-1), .int .i64 (-1), .int .i64 (-1), .int .i64 (-1)] 71)).alloc (.cells #[.func (.func 127) #[] #[.pointer (some ⟨w.heap.size, 0, none⟩), .pointer (some ⟨w.heap.size + 1 + 1, 0, none⟩), .pointer (some ⟨w1.heap.size, 0, none⟩), .pointer (some ⟨w.heap.size + 1, 0, none⟩), .pointer (some ⟨w1.heap.size + 1, 0, none⟩)]] 96)) := L1
  have HL1 := Lib.hid L2
  clear L1 L2 hb HL
  go_upto_region 4 with fail
  generalize (w1.alloc (.cells #[.int .i64 (-1), .int .i64 (-1), .int .i64 (-1), .int .i64 (-1), .int .i64 (-1), .int .i64 (-1)] 71)).alloc (.cells #[.func (.func 127) #[] #[.pointer (some ⟨w.heap.size, 0, none⟩), .pointer (some ⟨w.heap.size + 1 + 1, 0, none⟩), .pointer (some ⟨w1.heap.size, 0, none⟩), .pointer (some ⟨w.heap.size + 1, 0, none⟩), .pointer (some ⟨w1.heap.size + 1, 0, none⟩)]] 96) = w5 at *
  have v0 := HL1.out.ownHas.cell 0
  simp only [List.getElem?_cons_zero] at v0
  have hgl := HGL.out
  have hok : WkOk n V first cap gc w.heap.size (w.heap.size + 1 + 1) w1.heap.size (w.heap.size + 1) (w1.heap.size + 1) (foot w1.heap.size) (I w1.heap.size) cont (plG (bM M) C n 0 0 k) :=
    ⟨by omega, by omega, by omega, by omega, by omega, fun h => by have := HFT.out _ _ (by omega) h; omega, fun h => by have := HFT.out _ _ (by omega) h; omega, fun h => by have := HFT.out _ _ (by omega) h; omega, fun h => by have := HFT.out _ _ (by omega) h; omega, fun h => by have := HFT.out _ _ (by omega) h; omega, fun h => by have := HFT.out _ _ (by omega) h; omega,
      fun j a b hc hi => HKP.out w1.heap.size j a b (by omega) hc hi, hcall, HV.out w1.heap.size (by omega)⟩
  have hwk : Wk n m M V first cap gc cp C w.heap.size (w.heap.size + 1 + 1) w1.heap.size (w.heap.size + 1) (w1.heap.size + 1) (I w1.heap.size) (fun _ => -1) 0 w5 :=
    ⟨HL1.out.tl.tl.tl.tl.ownHas, HL1.out.tl.tl.ownHas, HL1.out.tl.ownHas, HL1.out.tl.tl.tl.ownHas, HO.out.kept HL1.out.below, HL1.out.ownHas, HIW.out w1.heap.size w5 (by omega) HL1.out.ownHas.lt HL1.out.below⟩
  have hr := walk1_any n m M V first cap gc cp C w.heap.size (w.heap.size + 1 + 1) w1.heap.size (w.heap.size + 1) (w1.heap.size + 1) (foot w1.heap.size) (I w1.heap.size) cont (plG (bM M) C n 0 0 k) hn hm HGC.out HCH.out hok n 0 0 k [] (by omega) (by omega) hk rfl 0 [] (by simp) (fun _ => -1) w5 (okF_nil n) hwk
  rw [show ((0 : Nat) : Int) = 0 from rfl] at hr
  have HR := Lib.hid hr
  have HB := Lib.hid HL1.out.below
  clear hr hwk hok HL1 hcall hgl
  go_wp2_with fail
  refine HR.out.mono ?_
  rintro e w6 ⟨rfl, ⟨F, _, hW⟩, hC⟩
  rw [Nat.zero_add] at hW
  have HE := Lib.hid (show ∃ bp, w.heap.size ≤ bp ∧ I bp (runV cont 0 (plG (bM M) C n 0 0 k).length).1 w6 ∧ Chg (fun b => b < w.heap.size ∧ foot bp b) w w6 from
    ⟨w1.heap.size, by omega, hW.inv, hC.os.trans HB.out.os, hC.tape.trans HB.out.tape, hC.output.trans HB.out.output, Nat.le_trans HB.out.size hC.size, fun b hb hf => (hC.block b (Nat.lt_of_lt_of_le hb HB.out.size) (fun h => h.elim (fun h2 => by omega) (fun h3 => hf ⟨hb, h3⟩))).trans (HB.out.block b hb)⟩)
  clear hW hC HR
  go_wp2_with fail
  go_end0
  exact ⟨rfl, HE.out⟩
end Go.Proofs.Ytdimbnkgomfojab
