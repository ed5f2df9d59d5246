/- A walk over all placements, in the program: the whole. No condition but the sizes. -/
import Derived.Test.YtcacechmgdfckaaWb
import Derived.Test.YtcacechmgdfckaaT2
namespace Go.Proofs.Ytcacechmgdfckaa
open Go.RowKit Go.WideShapes

set_option maxRecDepth 100000 in
set_option maxHeartbeats 6400000 in
theorem walk_any (n m k : Nat) (M : Nat → Int) (V : FuncId) (first cap : Array Value) (foot : Nat → Prop) (I : Nat → World → Prop) (cont : Nat → Bool) (w : World)
    (hn : n ≤ 6) (hm : m ≤ 6) (hk : k ≤ 6) (hgc : ∀ k, k < 6 → 0 ≤ M k ∧ M k < 64)
    (hfoot : ∀ b, foot b → b < w.heap.size) (hkeep : ∀ j w1 w2, Chg (fun b => w.heap.size ≤ b) w1 w2 → I j w1 → I j w2)
    (hcall : ∀ (args : Array Value) (w : World), (callFunc V args).run Try.prog w = .ok (.enter V args) w)
    (hvis : ∀ j P, (pl m (bM M) n 0 0 k)[j]? = some P → ∀ w, I j w → Calls Try.prog V (first.push (pv6 (plF P n)) ++ cap) w fun e w' => e = .returned (.bool (cont j)) ∧ I (j + 1) w' ∧ Chg foot w w')
    (hI : I 0 w) :
    Calls Try.prog 30 #[gv n m M, .int .i64 k, .func (.func V) first cap] w fun e w' => e = .returned (.tuple #[]) ∧ I (runV cont 0 (wR m (bM M) n 0 0 k)).1 w' ∧ Chg foot w w' := by
  have L0 := ((Law.start w).has (gl n m M) 48).has [.func (.func V) first cap] 56
  simp only [World.size_alloc] at L0
  have HL := Lib.hid L0
  have HV := Lib.hid hvis
  have HKP := Lib.hid hkeep
  have HFT := Lib.hid hfoot
  have HIW := Lib.hid hI
  have HGC := Lib.hid hgc
  have HLEN := Lib.hid (pl_len m (bM M) n 0 0 k)
  clear L0 hvis hkeep hfoot hI hgc
  go_enter Try.func30, Try.ntmps30
  go_wp2_with fail
  refine (noPlaces_any _).mono ?_
  rintro e w1 ⟨rfl, hb⟩
  have L1 := ((HL.out.kept hb).has (pl6 (fun _ => -1)) 54).has [.func (.func 49) #[] #[.pointer (some ⟨w.heap.size, 0, none⟩), .pointer (some ⟨w.heap.size + 1, 0, none⟩), .pointer (some ⟨w1.heap.size, 0, none⟩), .pointer (some ⟨w1.heap.size + 1, 0, none⟩)]] 57
  simp only [World.size_alloc] at L1
  rw [show (w1.alloc (.cells (pl6 (fun _ => -1)).toArray 54)) = (w1.alloc (.cells #[.int .i64 (-1), .int .i64 (-1), .int .i64 (-1), .int .i64 (-1), .int .i64 (-1), .int .i64 (-1)] 54)) from rfl] at L1
  have hz1 := hb.size
  simp only [World.size_alloc] at hz1
  have L2 : Law w [tHas (w1.heap.size + 1) [.func (.func 49) #[] #[.pointer (some ⟨w.heap.size, 0, none⟩), .pointer (some ⟨w.heap.size + 1, 0, none⟩), .pointer (some ⟨w1.heap.size, 0, none⟩), .pointer (some ⟨w1.heap.size + 1, 0, none⟩)]] 57, tHas w1.heap.size (pl6 (fun _ => -1)) 54, tHas (w.heap.size + 1) [.func (.func V) first cap] 56, tHas w.heap.size (gl n m M) 48] ((w1.alloc (.cells #[.int .i64 (-1), .int .i64 (-1), .int .i64 (-1), .int .i64 (-1), .int .i64 (-1), .int .i64 (-1)] 54)).alloc (.cells #[.func (.func 49) #[] #[.pointer (some ⟨w.heap.size, 0, none⟩), .pointer (some ⟨w.heap.size + 1, 0, none⟩), .pointer (some ⟨w1.heap.size, 0, none⟩), .pointer (some ⟨w1.heap.size + 1, 0, none⟩)]] 57)) := L1
  have HL1 := Lib.hid L2
  clear L1 L2 hb HL
  go_upto_region 4 with fail
  generalize (w1.alloc (.cells #[.int .i64 (-1), .int .i64 (-1), .int .i64 (-1), .int .i64 (-1), .int .i64 (-1), .int .i64 (-1)] 54)).alloc (.cells #[.func (.func 49) #[] #[.pointer (some ⟨w.heap.size, 0, none⟩), .pointer (some ⟨w.heap.size + 1, 0, none⟩), .pointer (some ⟨w1.heap.size, 0, none⟩), .pointer (some ⟨w1.heap.size + 1, 0, none⟩)]] 57) = w5 at *
  have v0 := HL1.out.ownHas.cell 0
  simp only [List.getElem?_cons_zero] at v0
  have hok : WkOk n V first cap w.heap.size (w.heap.size + 1) w1.heap.size (w1.heap.size + 1) foot I cont (pl m (bM M) n 0 0 k) :=
    ⟨by omega, by omega, by omega, fun h => by have := HFT.out _ h; omega, fun h => by have := HFT.out _ h; omega, fun h => by have := HFT.out _ h; omega, fun h => by have := HFT.out _ h; omega,
      fun j a b hc hi => HKP.out j a b (hc.mono (fun q hq => by subst hq; omega)) hi, hcall, HV.out⟩
  have hwk : Wk n m M V first cap w.heap.size (w.heap.size + 1) w1.heap.size (w1.heap.size + 1) I (plF [] 0) 0 w5 :=
    ⟨HL1.out.tl.tl.tl.ownHas, HL1.out.tl.tl.ownHas, HL1.out.tl.ownHas, HL1.out.ownHas, HKP.out 0 w w5 (Chg.of_below HL1.out.below) HIW.out⟩
  have hr := walk1_any n m M V first cap w.heap.size (w.heap.size + 1) w1.heap.size (w1.heap.size + 1) foot I cont (pl m (bM M) n 0 0 k) hn hm HGC.out hok n 0 0 k [] (by omega) (by omega) hk rfl 0 [] (by simp) w5 hwk
  rw [show ((0 : Nat) : Int) = 0 from rfl, HLEN.out] at hr
  have HR := Lib.hid hr
  have HB := Lib.hid HL1.out.below
  clear hr hwk hok HL1 hcall
  go_wp2_with fail
  refine HR.out.mono ?_
  rintro e w6 ⟨rfl, hW, hC⟩
  rw [Nat.zero_add] at hW
  have HE := Lib.hid (show I (runV cont 0 (wR m (bM M) n 0 0 k)).1 w6 ∧ Chg foot w w6 from
    ⟨hW.inv, hC.os.trans HB.out.os, hC.tape.trans HB.out.tape, hC.output.trans HB.out.output, Nat.le_trans HB.out.size hC.size, fun b hb hf => (hC.block b (Nat.lt_of_lt_of_le hb HB.out.size) (fun h => h.elim (fun h2 => by omega) hf)).trans (HB.out.block b hb)⟩)
  clear hW hC HR
  go_wp2_with fail
  go_end0
  exact ⟨rfl, HE.out⟩
end Go.Proofs.Ytcacechmgdfckaa
