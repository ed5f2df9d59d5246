/- What a piece leaves: the cells that it does not attack, in the program. No condition but the sizes. -/
import Derived.Test.YtakdiiccdkjjcaaEc
import Derived.Test.YtakdiiccdkjjcaaEr
namespace Go.Proofs.Ytakdiiccdkjjcaa
open Go.RowKit Go.WideShapes

/-- A move, as a function of the program. -/
def MoveF (F : FuncId) (D : Int → Int → Bool) : Prop := (∀ (args : Array Value) (w : World), (callFunc F args).run Try.prog w = .ok (.enter F args) w) ∧
  ∀ (d r : Int) (W : World), -6 ≤ d → d ≤ 6 → -6 ≤ r → r ≤ 6 → Calls Try.prog F #[.int .i64 d, .int .i64 r] W fun e w' => e = .returned (.bool (D d r)) ∧ W = w'

set_option maxRecDepth 100000 in
set_option maxHeartbeats 6400000 in
theorem unatt1_any (n m : Nat) (M : Nat → Int) (r c : Nat) (F : FuncId) (D : Int → Int → Bool) (hD : MoveF F D) (bg ba br bc : Nat) (i j : Nat) (w : World) (tm : TypeId) (hr : r < 6) (hc : c < 6) (hi : i < 6) (hj : j < 6) (hgc : ∀ k, k < 6 → 0 ≤ M k ∧ M k < 64)
    (h1 : Has w bg (gl n m M) 66) (h2 : Has w ba [.func (.func F) #[] #[]] tm) (h3 : Has w br [.int .i64 r] 3) (h4 : Has w bc [.int .i64 c] 3) :
    Calls Try.prog 125 #[.int .i64 i, .int .i64 j, .pointer (some ⟨bg, 0, none⟩), .pointer (some ⟨ba, 0, none⟩), .pointer (some ⟨br, 0, none⟩), .pointer (some ⟨bc, 0, none⟩)] w
      fun e w' => e = .returned (.bool ((M i).toNat.testBit j && !D ((i : Int) - r) ((j : Int) - c))) ∧ Below w.heap.size w w' := by
  obtain ⟨e0, e1, e2, e3, e4, e5, e6, e7, _⟩ := h1.eight
  have HAT := Lib.hid (fun W => at_any n m M i j W hi hj (hgc i hi))
  have HF := Lib.hid hD.1
  have HMV := Lib.hid (fun W => hD.2 ((i : Int) - r) ((j : Int) - c) W (by omega) (by omega) (by omega) (by omega))
  have H2 := Lib.hid h2
  have H3 := Lib.hid h3
  have H4 := Lib.hid h4
  have hw1 : wrap64 ((i : Int) - r) = (i : Int) - r := IntWalk.wrap64_in _ (by omega)
  have hw2 : wrap64 ((j : Int) - c) = (j : Int) - c := IntWalk.wrap64_in _ (by omega)
  clear hD h1 h2 h3 h4 hgc
  cases hb : (M i).toNat.testBit j
  · rw [hb] at HAT
    rw [Bool.false_and]
    clear hb HMV
    go_enter Try.func125, Try.ntmps125
    go_wp2_with fail
    refine (HAT.out _).mono ?_
    rintro e w2 ⟨rfl, hb⟩
    clear e0 e1 e2 e3 e4 e5 e6 e7
    have HB := Lib.hid hb
    clear hb
    go_wp2_with fail
    go_ret
    exact ⟨rfl, HB.out⟩
  · rw [hb] at HAT
    rw [Bool.true_and]
    clear hb
    generalize D ((i : Int) - r) ((j : Int) - c) = d at *
    go_enter Try.func125, Try.ntmps125
    go_wp2_with fail
    refine (HAT.out _).mono ?_
    rintro e w2 ⟨rfl, hb⟩
    clear e0 e1 e2 e3 e4 e5 e6 e7
    have q2 : w2.cell? ⟨ba, 0, none⟩ = some (.func (.func F) #[] #[]) := cell_later hb (H2.out.cell 0)
    have q3 : w2.cell? ⟨br, 0, none⟩ = some (.int .i64 r) := cell_later hb (H3.out.cell 0)
    have q4 : w2.cell? ⟨bc, 0, none⟩ = some (.int .i64 c) := cell_later hb (H4.out.cell 0)
    have HB := Lib.hid hb
    have hcall := HF.out
    clear hb
    go_wp2_with fail
    refine (HMV.out _).mono ?_
    rintro e w3 ⟨rfl, hw⟩
    subst hw
    clear q2 q3 q4 hcall
    go_wp2_with fail
    go_ret
    exact ⟨rfl, HB.out⟩
/-- The grid behind a piece. -/
def leftM (D : Int → Int → Bool) (n m : Nat) (M : Nat → Int) (r c : Nat) : Nat → Int := drawn (fun i j => (M i).toNat.testBit j && !D ((i : Int) - r) ((j : Int) - c)) m n 0
set_option maxRecDepth 100000 in
set_option maxHeartbeats 6400000 in
theorem unattacked_any (n m : Nat) (M : Nat → Int) (r c : Nat) (F : FuncId) (D : Int → Int → Bool) (hD : MoveF F D) (w : World) (hn : n ≤ 6) (hm : m ≤ 6) (hr : r < 6) (hc : c < 6) (hgc : ∀ k, k < 6 → 0 ≤ M k ∧ M k < 64) :
    Calls Try.prog 116 #[gv n m M, .int .i64 r, .int .i64 c, .func (.func F) #[] #[]] w fun e w' => e = .returned (gv n m (leftM D n m M r c)) ∧ Below w.heap.size w w' := by
  have L0 := (((((Law.start w).has (gl n m M) 66).has [.int .i64 r] 3).has [.int .i64 c] 3).has [.func (.func F) #[] #[]] 111).has (gl 0 0 (fun _ => 0)) 66
  simp only [World.size_alloc] at L0
  rw [show ((((w.alloc (.cells (gl n m M).toArray 66)).alloc (.cells ([.int .i64 r] : List Value).toArray 3)).alloc (.cells ([.int .i64 c] : List Value).toArray 3)).alloc (.cells ([.func (.func F) #[] #[]] : List Value).toArray 111)).alloc (.cells (gl 0 0 (fun _ => 0)).toArray 66) = ((((w.alloc (.cells #[.int .i64 n, .int .i64 m, .int .i64 (M 0), .int .i64 (M 1), .int .i64 (M 2), .int .i64 (M 3), .int .i64 (M 4), .int .i64 (M 5)] 66)).alloc (.cells #[.int .i64 r] 3)).alloc (.cells #[.int .i64 c] 3)).alloc (.cells #[.func (.func F) #[] #[]] 111)).alloc (.cells #[.int .i64 0, .int .i64 0, .int .i64 0, .int .i64 0, .int .i64 0, .int .i64 0, .int .i64 0, .int .i64 0] 66) from rfl] at L0
  have HL := Lib.hid L0
  have HD := Lib.hid hD
  have HGC := Lib.hid hgc
  obtain ⟨LM, hLM⟩ : ∃ LM, LM = leftM D n m M r c := ⟨_, rfl⟩
  rw [← hLM]
  have HLM := Lib.hid hLM
  clear L0 hD hgc hLM
  go_enter Try.func116, Try.ntmps116
  go_upto_region 1 with fail
  generalize ((((w.alloc _).alloc _).alloc _).alloc _).alloc _ = w1 at *
  obtain ⟨e0, e1, _⟩ := HL.out.tl.tl.tl.tl.ownHas.eight
  have HG := Lib.hid (drawGrid_any n m 125 #[] #[.pointer (some ⟨w.heap.size, 0, none⟩), .pointer (some ⟨w.heap.size + 1 + 1 + 1, 0, none⟩), .pointer (some ⟨w.heap.size + 1, 0, none⟩), .pointer (some ⟨w.heap.size + 1 + 1, 0, none⟩)] (fun i j => (M i).toNat.testBit j && !D ((i : Int) - r) ((j : Int) - c)) w1 hn hm (fun _ _ => by kernel_rfl) (fun i j w' hi hj hb =>
    unatt1_any n m M r c F D HD.out _ _ _ _ i j w' _ hr hc (by omega) (by omega) HGC.out (HL.out.tl.tl.tl.tl.ownHas.kept hb HL.out.tl.tl.tl.tl.ownHas.lt) (HL.out.tl.ownHas.kept hb HL.out.tl.ownHas.lt) (HL.out.tl.tl.tl.ownHas.kept hb HL.out.tl.tl.tl.ownHas.lt) (HL.out.tl.tl.ownHas.kept hb HL.out.tl.tl.ownHas.lt)))
  rw [show (drawn (fun i j => (M i).toNat.testBit j && !D ((i : Int) - r) ((j : Int) - c)) m n 0) = LM from HLM.out.symm] at HG
  go_wp2_with fail
  refine HG.out.mono ?_
  rintro e w2 ⟨rfl, hb⟩
  replace HL := Lib.hid (HL.out.kept hb)
  clear hb e0 e1 HG HD HGC
  obtain ⟨f0, f1, f2, f3, f4, f5, f6, f7, ff⟩ := HL.out.ownHas.eight
  have hp := HL.out.ownHas.put8 n m LM
  have HB := Lib.hid (And.intro HL.out.below HL.out.ownHas.lt)
  clear HL
  go_wp2_with fail
  clear f0 f1 f2 f3 f4 f5 f6 f7 ff
  obtain ⟨f0, f1, f2, f3, f4, f5, f6, f7, ff⟩ := hp.eight
  clear hp
  refine bodyPost_ret (v := gv n m LM) (by simp [results, Try.results116, go_sem, f0, f1, f2, f3, f4, f5, f6, f7]) rfl ⟨rfl, ?_⟩
  have h2 := HB.out.1
  have h3 := HB.out.2
  repeat (refine Below.setCell ?_ (by simp <;> omega) _)
  exact h2

end Go.Proofs.Ytakdiiccdkjjcaa
