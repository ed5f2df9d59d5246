import Derived.Test.YtjmefcebldifaabFold23
import Derived.Test.YtjmefcebldifaabFold26
import Derived.Test.YtjmefcebldifaabFold27
import Derived.Test.YtjmefcebldifaabFold16
import Derived.Deep.RegionHeld3
import Derived.Test.YtjmefcebldifaabFold22

section
namespace Go.Proofs.Ytjmefcebldifaab
open Go.RowKit Go.WideShapes

theorem Has.fourteen {w : World} {b : Nat} {n m : Int} {M F : Nat → Int} {t : TypeId} (h : Has w b (trL n m M F) t) :
    w.cell? ⟨b, 0, none⟩ = some (.int .i64 n) ∧ w.cell? ⟨b, 1, none⟩ = some (.int .i64 m) ∧ w.cell? ⟨b, 2, none⟩ = some (.int .i64 (M 0)) ∧ w.cell? ⟨b, 3, none⟩ = some (.int .i64 (M 1)) ∧ w.cell? ⟨b, 4, none⟩ = some (.int .i64 (M 2)) ∧ w.cell? ⟨b, 5, none⟩ = some (.int .i64 (M 3)) ∧ w.cell? ⟨b, 6, none⟩ = some (.int .i64 (M 4)) ∧ w.cell? ⟨b, 7, none⟩ = some (.int .i64 (M 5)) ∧
    w.cell? ⟨b, 8, none⟩ = some (.int .i64 (F 0)) ∧ w.cell? ⟨b, 9, none⟩ = some (.int .i64 (F 1)) ∧ w.cell? ⟨b, 10, none⟩ = some (.int .i64 (F 2)) ∧ w.cell? ⟨b, 11, none⟩ = some (.int .i64 (F 3)) ∧ w.cell? ⟨b, 12, none⟩ = some (.int .i64 (F 4)) ∧ w.cell? ⟨b, 13, none⟩ = some (.int .i64 (F 5)) :=
  ⟨h.cell 0, h.cell 1, h.cell 2, h.cell 3, h.cell 4, h.cell 5, h.cell 6, h.cell 7, h.cell 8, h.cell 9, h.cell 10, h.cell 11, h.cell 12, h.cell 13⟩
set_option maxRecDepth 100000 in
set_option maxHeartbeats 1600000 in
theorem overT1_any (n m : Int) (M F : Nat → Int) (r bv bi : Nat) (w : World) (hr : r < 6) (hM : 0 ≤ M r ∧ M r < 64) (hF : 0 ≤ F r ∧ F r < 6)
    (hv : w.cell? ⟨bv, 0, none⟩ = some (.func (.func 76) #[] #[])) (hb : Has w bi (trL n m M F) 78) :
    Calls Try.prog 86 (#[.int .i64 r] ++ #[.pointer (some ⟨bv, 0, none⟩), .pointer (some ⟨bi, 0, none⟩)]) w fun e w' => e = .returned (.int .i64 (hit1 M F r)) ∧ Below w.heap.size w w' := by
  have HA := Lib.hid (hitIn_any n m M F r w hr hM hF)
  have ⟨c0, c1, c2, c3, c4, c5, c6, c7, c8, c9, c10, c11, c12, c13⟩ := hb.fourteen
  clear hM hF hb
  go_enter Try.func86, Try.ntmps86
  go_wp2_with fail
  refine HA.out.mono ?_
  rintro e w' ⟨rfl, hb⟩
  have HB := Lib.hid hb
  clear hb
  go_wp2_with fail
  go_ret
  exact ⟨rfl, HB.out⟩

set_option maxRecDepth 100000 in
set_option maxHeartbeats 1600000 in
theorem overT_any (q : Nat) (n m : Int) (M F : Nat → Int) (w : World) (hq : q ≤ 6) (hM : ∀ r, r < q → 0 ≤ M r ∧ M r < 64) (hF : ∀ r, r < q → 0 ≤ F r ∧ F r < 6) :
    Calls Try.prog 75 #[trV n m M F, .int .i64 q, .func (.func 76) #[] #[]] w fun e w' => e = .returned (.int .i64 (sumT (hit1 M F) q)) ∧ Below w.heap.size w w' := by
  have L0 := ((Law.start w).has (trL n m M F) 78).has [.func (.func 76) #[] #[]] 79
  simp only [World.size_alloc] at L0
  rw [show ([.func (.func 76) #[] #[]] : List Value).toArray = #[.func (.func 76) #[] #[]] from rfl,
    show (trL n m M F).toArray = #[.int .i64 n, .int .i64 m, .int .i64 (M 0), .int .i64 (M 1), .int .i64 (M 2), .int .i64 (M 3), .int .i64 (M 4), .int .i64 (M 5), .int .i64 (F 0), .int .i64 (F 1), .int .i64 (F 2), .int .i64 (F 3), .int .i64 (F 4), .int .i64 (F 5)] from rfl] at L0
  have HL := Lib.hid L0
  have hsm : ∀ j, j ≤ 6 → 0 ≤ sumT (hit1 M F) j ∧ sumT (hit1 M F) j ≤ j := by
    intro j
    induction j with
    | zero => intro _; simp [sumT]
    | succ j ih =>
      intro h
      have := ih (by omega)
      rw [sumT]
      unfold hit1 at *
      split <;> omega
  have HF := Lib.hid (fun (W : World) (L : Law w [tHas (w.heap.size + 1) [.func (.func 76) #[] #[]] 79, tHas w.heap.size (trL n m M F) 78] W) => sumOfTerms_any q 86 #[.pointer (some ⟨w.heap.size + 1, 0, none⟩), .pointer (some ⟨w.heap.size, 0, none⟩)] (hit1 M F) W (by omega) (fun _ _ => by kernel_rfl)
    (fun j hj w' hb => by
      have L2 := L.kept hb
      have hv := L2.ownHas.cell 0
      simp only [List.getElem?_cons_zero] at hv
      exact overT1_any n m M F j (w.heap.size + 1) w.heap.size w' (by omega) (hM j hj) (hF j hj) hv L2.tl.ownHas)
    (fun j hj => by
      have h := hsm (j + 1) (by omega)
      rw [sumT] at h
      exact IntWalk.i64_in _ (by omega)))
  clear L0 hM hF hsm
  go_enter Try.func75, Try.ntmps75
  go_upto_region 1 with fail
  generalize (w.alloc (.cells #[.int .i64 n, .int .i64 m, .int .i64 (M 0), .int .i64 (M 1), .int .i64 (M 2), .int .i64 (M 3), .int .i64 (M 4), .int .i64 (M 5), .int .i64 (F 0), .int .i64 (F 1), .int .i64 (F 2), .int .i64 (F 3), .int .i64 (F 4), .int .i64 (F 5)] 78)).alloc (.cells #[.func (.func 76) #[] #[]] 79) = w5 at *
  go_wp2_with fail
  refine (HF.out _ HL.out).mono ?_
  rintro e w' ⟨rfl, hb⟩
  have HB := Lib.hid (HL.out.kept hb).below
  clear hb
  go_wp2_with fail
  go_ret
  exact ⟨rfl, HB.out⟩

set_option maxRecDepth 100000 in
set_option maxHeartbeats 1600000 in
theorem hitsOf_any (n : Nat) (m : Int) (M F : Nat → Int) (Q : List Int) (w : World) (hn : n ≤ 6) (hM : ∀ r, r < n → 0 ≤ M r ∧ M r < 64) (hF : ∀ r, r < n → Q.getD r 0 = F r ∧ 0 ≤ F r ∧ F r < 6) :
    Calls Try.prog 51 #[gv n m M, pv6 F] w fun e w' => e = .returned (.int .i64 (hitN (bN M) Q n : Nat)) ∧ Below w.heap.size w w' := by
  have L0 := ((Law.start w).has (gl n m M) 56).has (pl6 F) 59
  simp only [World.size_alloc] at L0
  rw [show (gl n m M).toArray = #[.int .i64 n, .int .i64 m, .int .i64 (M 0), .int .i64 (M 1), .int .i64 (M 2), .int .i64 (M 3), .int .i64 (M 4), .int .i64 (M 5)] from rfl, show (pl6 F).toArray = #[.int .i64 (F 0), .int .i64 (F 1), .int .i64 (F 2), .int .i64 (F 3), .int .i64 (F 4), .int .i64 (F 5)] from rfl] at L0
  rw [← hit1_sum M F Q n (fun r hr => (hF r hr).1)]
  have HC := Lib.hid (fun W => overT_any n n m M F W hn hM (fun r hr => (hF r hr).2))
  have HB := Lib.hid L0.below
  have ⟨e0, e1, e2, e3, e4, e5, _⟩ := L0.ownHas.six
  have ⟨c0, c1, c2, c3, c4, c5, c6, c7, _⟩ := L0.tl.ownHas.eight
  clear L0 hM hF
  go_enter Try.func51, Try.ntmps51
  go_upto_region 1 with fail
  generalize (w.alloc (.cells #[.int .i64 n, .int .i64 m, .int .i64 (M 0), .int .i64 (M 1), .int .i64 (M 2), .int .i64 (M 3), .int .i64 (M 4), .int .i64 (M 5)] 56)).alloc (.cells #[.int .i64 (F 0), .int .i64 (F 1), .int .i64 (F 2), .int .i64 (F 3), .int .i64 (F 4), .int .i64 (F 5)] 59) = w5 at *
  go_wp2_with fail
  refine (HC.out _).mono ?_
  rintro e w' ⟨rfl, hb⟩
  have HB2 := Lib.hid (below_on HB.out hb)
  clear hb
  go_wp2_with fail
  go_ret
  exact ⟨rfl, HB2.out⟩
end Go.Proofs.Ytjmefcebldifaab
end

section
namespace Go.Proofs.Ytjmefcebldifaab
open Go.RowKit Go.WideShapes

set_option maxRecDepth 100000 in
set_option maxHeartbeats 6400000 in
theorem walk_any3 (n m k : Nat) (M : Nat → Int) (V : FuncId) (first cap : Array Value) (foot : Nat → Nat → Prop) (I : Nat → Nat → World → Prop) (cont : Nat → Bool) (w : World)
    (hn : n ≤ 6) (hm : m ≤ 6) (hk : k ≤ 6) (hgc : ∀ k, k < 6 → 0 ≤ M k ∧ M k < 64)
    (hfoot : ∀ bp b, w.heap.size ≤ bp → foot bp b → b < w.heap.size ∨ bp + 1 < b) (hkeep : ∀ bp j w1 w2, w.heap.size ≤ bp → Chg (fun b => b = bp) w1 w2 → I bp j w1 → I bp j w2)
    (hcall : ∀ (args : Array Value) (w : World), (callFunc V args).run Try.prog w = .ok (.enter V args) w)
    (hvis : ∀ bp, w.heap.size ≤ bp → ∀ j P, (pl m (bM M) n 0 0 k)[j]? = some P → ∀ w, I bp j w → Calls Try.prog V (first.push (pv6 (plF P n)) ++ cap) w fun e w' => e = .returned (.bool (cont j)) ∧ I bp (j + 1) w' ∧ Chg (foot bp) w w')
    (hI : ∀ bp w', w.heap.size ≤ bp → bp + 1 < w'.heap.size → Below w.heap.size w w' → I bp 0 w') :
    Calls Try.prog 79 #[gv n m M, .int .i64 k, .func (.func V) first cap] w fun e w' => e = .returned (.tuple #[]) ∧ ∃ bp, w.heap.size ≤ bp ∧ I bp (runV cont 0 (wR m (bM M) n 0 0 k)).1 w' ∧ Chg (fun b => b < w.heap.size ∧ foot bp b) w w' := by
  have L0 := ((Law.start w).has (gl n m M) 56).has [.func (.func V) first cap] 65
  simp only [World.size_alloc] at L0
  have HL := Lib.hid L0
  have HV := Lib.hid hvis
  have HKP := Lib.hid hkeep
  have HFT := Lib.hid hfoot
  have HIW := Lib.hid hI
  have HGC := Lib.hid hgc
  have HLEN := Lib.hid (pl_len m (bM M) n 0 0 k)
  clear L0 hvis hkeep hfoot hI hgc
  go_enter Try.func79, Try.ntmps79
  go_wp2_with fail
  refine (noPlaces_any _).mono ?_
  rintro e w1 ⟨rfl, hb⟩
  have L1 := ((HL.out.kept hb).has (pl6 (fun _ => -1)) 59).has [.func (.func 88) #[] #[.pointer (some ⟨w.heap.size, 0, none⟩), .pointer (some ⟨w.heap.size + 1, 0, none⟩), .pointer (some ⟨w1.heap.size, 0, none⟩), .pointer (some ⟨w1.heap.size + 1, 0, none⟩)]] 61
  simp only [World.size_alloc] at L1
  rw [show (w1.alloc (.cells (pl6 (fun _ => -1)).toArray 59)) = (w1.alloc (.cells #[.int .i64 (-1), .int .i64 (-1), .int .i64 (-1), .int .i64 (-1), .int .i64 (-1), .int .i64 (-1)] 59)) from rfl] at L1
  have hz1 := hb.size
  simp only [World.size_alloc] at hz1
  have L2 : Law w [tHas (w1.heap.size + 1) [.func (.func 88) #[] #[.pointer (some ⟨w.heap.size, 0, none⟩), .pointer (some ⟨w.heap.size + 1, 0, none⟩), .pointer (some ⟨w1.heap.size, 0, none⟩), .pointer (some ⟨w1.heap.size + 1, 0, none⟩)]] 61, tHas w1.heap.size (pl6 (fun _ => -1)) 59, tHas (w.heap.size + 1) [.func (.func V) first cap] 65, tHas w.heap.size (gl n m M) 56] ((w1.alloc (.cells #[.int .i64 (-1), .int .i64 (-1), .int .i64 (-1), .int .i64 (-1), .int .i64 (-1), .int .i64 (-1)] 59)).alloc (.cells #[.func (.func 88) #[] #[.pointer (some ⟨w.heap.size, 0, none⟩), .pointer (some ⟨w.heap.size + 1, 0, none⟩), .pointer (some ⟨w1.heap.size, 0, none⟩), .pointer (some ⟨w1.heap.size + 1, 0, none⟩)]] 61)) := L1
  have HL1 := Lib.hid L2
  clear L1 L2 hb HL
  go_upto_region 4 with fail
  generalize (w1.alloc (.cells #[.int .i64 (-1), .int .i64 (-1), .int .i64 (-1), .int .i64 (-1), .int .i64 (-1), .int .i64 (-1)] 59)).alloc (.cells #[.func (.func 88) #[] #[.pointer (some ⟨w.heap.size, 0, none⟩), .pointer (some ⟨w.heap.size + 1, 0, none⟩), .pointer (some ⟨w1.heap.size, 0, none⟩), .pointer (some ⟨w1.heap.size + 1, 0, none⟩)]] 61) = w5 at *
  have v0 := HL1.out.ownHas.cell 0
  simp only [List.getElem?_cons_zero] at v0
  have hok : WkOk n V first cap w.heap.size (w.heap.size + 1) w1.heap.size (w1.heap.size + 1) (foot w1.heap.size) (I w1.heap.size) cont (pl m (bM M) n 0 0 k) :=
    ⟨by omega, by omega, by omega, fun h => by have := HFT.out _ _ (by omega) h; omega, fun h => by have := HFT.out _ _ (by omega) h; omega, fun h => by have := HFT.out _ _ (by omega) h; omega, fun h => by have := HFT.out _ _ (by omega) h; omega,
      fun j a b hc hi => HKP.out w1.heap.size j a b (by omega) hc hi, hcall, HV.out w1.heap.size (by omega)⟩
  have hwk : Wk n m M V first cap w.heap.size (w.heap.size + 1) w1.heap.size (w1.heap.size + 1) (I w1.heap.size) (plF [] 0) 0 w5 :=
    ⟨HL1.out.tl.tl.tl.ownHas, HL1.out.tl.tl.ownHas, HL1.out.tl.ownHas, HL1.out.ownHas, HIW.out w1.heap.size w5 (by omega) HL1.out.ownHas.lt HL1.out.below⟩
  have hr := walk1_any n m M V first cap w.heap.size (w.heap.size + 1) w1.heap.size (w1.heap.size + 1) (foot w1.heap.size) (I w1.heap.size) cont (pl m (bM M) n 0 0 k) hn hm HGC.out hok n 0 0 k [] (by omega) (by omega) hk rfl 0 [] (by simp) w5 hwk
  rw [show ((0 : Nat) : Int) = 0 from rfl, HLEN.out] at hr
  have HR := Lib.hid hr
  have HB := Lib.hid HL1.out.below
  clear hr hwk hok HL1 hcall
  go_wp2_with fail
  refine HR.out.mono ?_
  rintro e w6 ⟨rfl, hW, hC⟩
  rw [Nat.zero_add] at hW
  have HE := Lib.hid (show ∃ bp, w.heap.size ≤ bp ∧ I bp (runV cont 0 (wR m (bM M) n 0 0 k)).1 w6 ∧ Chg (fun b => b < w.heap.size ∧ foot bp b) w w6 from
    ⟨w1.heap.size, by omega, hW.inv, hC.os.trans HB.out.os, hC.tape.trans HB.out.tape, hC.output.trans HB.out.output, Nat.le_trans HB.out.size hC.size, fun b hb hf => (hC.block b (Nat.lt_of_lt_of_le hb HB.out.size) (fun h => h.elim (fun h2 => by omega) (fun h3 => hf ⟨hb, h3⟩))).trans (HB.out.block b hb)⟩)
  clear hW hC HR
  go_wp2_with fail
  go_end0
  exact ⟨rfl, HE.out⟩

/-- What is told apart: lists that hit just k rows. -/
def hitP (B : Nat → Nat → Bool) (n : Nat) (k : Int) (Q : List Int) : Bool := ((hitN B Q n : Nat) : Int) == k
/-- The full board. -/
def fullF (_n m : Nat) (M : Nat → Int) (r k : Nat) : Int := if k < r then ((2 ^ m - 1 : Nat) : Int) else M k
theorem fullF_zero (n m : Nat) (M : Nat → Int) : fullF n m M 0 = M := by funext k; simp [fullF]
theorem fullF_bd (n m : Nat) (M : Nat → Int) (r : Nat) (hm : m ≤ 6) (h : ∀ k, k < 6 → 0 ≤ M k ∧ M k < 64) : ∀ k, k < 6 → 0 ≤ fullF n m M r k ∧ fullF n m M r k < 64 := by
  intro k hk
  have h2 : 2 ^ m ≤ 2 ^ 6 := Nat.pow_le_pow_right (by omega) hm
  have h3 := Nat.two_pow_pos m
  have := h k hk
  unfold fullF
  split <;> omega
theorem fullF_bit (n m : Nat) (M : Nat → Int) (r c : Nat) (hr : r < n) (hc : c < m) : bM (fullF n m M n) r c = true := by
  show (fullF n m M n r).toNat.testBit c = true
  unfold fullF
  rw [if_pos hr, Int.toNat_natCast, Nat.testBit_two_pow_sub_one]
  simpa using hc

set_option maxRecDepth 100000 in
set_option maxHeartbeats 3200000 in
theorem wh1_yes (n m : Nat) (M F : Nat → Int) (k : Int) (Q : List Int) (V : FuncId) (cap : Array Value) (b3 b4 b5 : Nat) (w : World) (hn : n ≤ 6) (hM : ∀ r, r < n → 0 ≤ M r ∧ M r < 64) (hF : ∀ r, r < n → Q.getD r 0 = F r ∧ 0 ≤ F r ∧ F r < 6)
    (hcall : ∀ (args : Array Value) (w : World), (callFunc V args).run Try.prog w = .ok (.enter V args) w)
    (G : Has w b3 (gl n m M) 56) (K : Has w b4 [.int .i64 k] 3) (U : Has w b5 [.func (.func V) #[] cap] 65) (ans : Bool) (R : World → World → Prop) (hp : hitP (bN M) n k Q = true)
    (hV : ∀ w', Below w.heap.size w w' → Calls Try.prog V (#[pv6 F] ++ cap) w' fun e w'' => e = .returned (.bool ans) ∧ R w' w'') :
    Calls Try.prog 80 (#[pv6 F] ++ #[.pointer (some ⟨b3, 0, none⟩), .pointer (some ⟨b4, 0, none⟩), .pointer (some ⟨b5, 0, none⟩)]) w fun e w'' => e = .returned (.bool ans) ∧ ∃ w', Below w.heap.size w w' ∧ R w' w'' := by
  have hb := below_new (w := w) (.cells #[.int .i64 (F 0), .int .i64 (F 1), .int .i64 (F 2), .int .i64 (F 3), .int .i64 (F 4), .int .i64 (F 5)] 59)
  have hnP : Has (w.alloc (.cells #[.int .i64 (F 0), .int .i64 (F 1), .int .i64 (F 2), .int .i64 (F 3), .int .i64 (F 4), .int .i64 (F 5)] 59)) w.heap.size (pl6 F) 59 := Has.new w (pl6 F) 59
  have G0 := G.kept hb G.lt
  have K0 := K.kept hb K.lt
  have U0 := U.kept hb U.lt
  have HB := Lib.hid hb
  have HH := Lib.hid (fun W => hitsOf_any n m M F Q W hn hM hF)
  have HV := Lib.hid hV
  have hz : (((hitN (bN M) Q n : Nat) : Int) != k) = false := by
    unfold hitP at hp
    simp only [bne, hp, Bool.not_true]
  generalize hitN (bN M) Q n = h at *
  clear hb hV hp hM hF G K U
  go_enter Try.func80, Try.ntmps80
  go_upto_region 1 with fail
  generalize w.alloc (.cells #[.int .i64 (F 0), .int .i64 (F 1), .int .i64 (F 2), .int .i64 (F 3), .int .i64 (F 4), .int .i64 (F 5)] 59) = w5 at *
  have HP := Lib.hid (show Has w5.drew w.heap.size (pl6 F) 59 from hnP)
  have HG := Lib.hid (show Has w5.drew b3 (gl n m M) 56 from G0)
  have HK := Lib.hid (show Has w5.drew b4 [.int .i64 k] 3 from K0)
  have HU := Lib.hid (show Has w5.drew b5 [.func (.func V) #[] cap] 65 from U0)
  obtain ⟨p0, p1, p2, p3, p4, p5, _⟩ := HP.out.six
  obtain ⟨e0, e1, e2, e3, e4, e5, e6, e7, _⟩ := HG.out.eight
  have k0 := HK.out.one.1
  have u0 := HU.out.one.1
  clear hnP G0 K0 U0
  have HB5 := Lib.hid (HB.out.trans ((Below.refl w5.heap.size w5).drew.mono HB.out.size))
  clear HB HP HG HK HU
  go_region_with (first
    | (go_at_call 51; ((with_reducible refine (HH.out _).mono ?_); rintro e wA ⟨rfl, hbA⟩; have kA := cell_later hbA k0; have uA := cell_later hbA u0; have q0 := cell_later hbA p0; have q1 := cell_later hbA p1; have q2 := cell_later hbA p2; have q3 := cell_later hbA p3; have q4 := cell_later hbA p4; have q5 := cell_later hbA p5; have HBA := Lib.hid (below_on HB5.out hbA); clear hbA))
    | ((refine (HV.out _ HBA.out).mono ?_); rintro e wB ⟨rfl, hRB⟩; have HRB := Lib.hid hRB; clear hRB))
  all_goals
    go_wp2_with fail
    go_ret
    exact ⟨rfl, _, HBA.out, HRB.out⟩
set_option maxRecDepth 100000 in
set_option maxHeartbeats 3200000 in
theorem wh1_no (n m : Nat) (M F : Nat → Int) (k : Int) (Q : List Int) (V : FuncId) (cap : Array Value) (b3 b4 b5 : Nat) (w : World) (hn : n ≤ 6) (hM : ∀ r, r < n → 0 ≤ M r ∧ M r < 64) (hF : ∀ r, r < n → Q.getD r 0 = F r ∧ 0 ≤ F r ∧ F r < 6)
    (G : Has w b3 (gl n m M) 56) (K : Has w b4 [.int .i64 k] 3) (U : Has w b5 [.func (.func V) #[] cap] 65) (hp : hitP (bN M) n k Q = false) :
    Calls Try.prog 80 (#[pv6 F] ++ #[.pointer (some ⟨b3, 0, none⟩), .pointer (some ⟨b4, 0, none⟩), .pointer (some ⟨b5, 0, none⟩)]) w fun e w' => e = .returned (.bool true) ∧ Below w.heap.size w w' := by
  have hb := below_new (w := w) (.cells #[.int .i64 (F 0), .int .i64 (F 1), .int .i64 (F 2), .int .i64 (F 3), .int .i64 (F 4), .int .i64 (F 5)] 59)
  have hnP : Has (w.alloc (.cells #[.int .i64 (F 0), .int .i64 (F 1), .int .i64 (F 2), .int .i64 (F 3), .int .i64 (F 4), .int .i64 (F 5)] 59)) w.heap.size (pl6 F) 59 := Has.new w (pl6 F) 59
  have G0 := G.kept hb G.lt
  have K0 := K.kept hb K.lt
  have U0 := U.kept hb U.lt
  have HB := Lib.hid hb
  have HH := Lib.hid (fun W => hitsOf_any n m M F Q W hn hM hF)
  have hz : (((hitN (bN M) Q n : Nat) : Int) != k) = true := by
    unfold hitP at hp
    simp only [bne, hp, Bool.not_false]
  generalize hitN (bN M) Q n = h at *
  clear hb hp hM hF G K U
  go_enter Try.func80, Try.ntmps80
  go_upto_region 1 with fail
  generalize w.alloc (.cells #[.int .i64 (F 0), .int .i64 (F 1), .int .i64 (F 2), .int .i64 (F 3), .int .i64 (F 4), .int .i64 (F 5)] 59) = w5 at *
  have HP := Lib.hid (show Has w5.drew w.heap.size (pl6 F) 59 from hnP)
  have HG := Lib.hid (show Has w5.drew b3 (gl n m M) 56 from G0)
  have HK := Lib.hid (show Has w5.drew b4 [.int .i64 k] 3 from K0)
  have HU := Lib.hid (show Has w5.drew b5 [.func (.func V) #[] cap] 65 from U0)
  obtain ⟨p0, p1, p2, p3, p4, p5, _⟩ := HP.out.six
  obtain ⟨e0, e1, e2, e3, e4, e5, e6, e7, _⟩ := HG.out.eight
  have k0 := HK.out.one.1
  have u0 := HU.out.one.1
  clear hnP G0 K0 U0
  have HB5 := Lib.hid (HB.out.trans ((Below.refl w5.heap.size w5).drew.mono HB.out.size))
  clear HB HP HG HK HU
  go_region_with (first
    | (go_at_call 51; ((with_reducible refine (HH.out _).mono ?_); rintro e wA ⟨rfl, hbA⟩; have kA := cell_later hbA k0; have uA := cell_later hbA u0; have q0 := cell_later hbA p0; have q1 := cell_later hbA p1; have q2 := cell_later hbA p2; have q3 := cell_later hbA p3; have q4 := cell_later hbA p4; have q5 := cell_later hbA p5; have HBA := Lib.hid (below_on HB5.out hbA); clear hbA)))
  all_goals
    go_wp2_with fail
    go_ret
    exact ⟨rfl, HBA.out⟩
end Go.Proofs.Ytjmefcebldifaab
end
