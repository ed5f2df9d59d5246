import Derived.Test.YtdgkcfpfldaopaaFold28
import Derived.Test.YtdgkcfpfldaopaaFold33
import Derived.Test.YtdgkcfpfldaopaaFold32
import Derived.Deep.RegionWith
import Derived.Laws.EntriesVeiled
namespace Go.Proofs.Ytdgkcfpfldaopaa
open Go.RowKit Go.WideShapes

/-- The places of a list, the row r laid otherwise. -/
def plX (P : List Int) (r : Nat) (x : Int) (k : Nat) : Int := if k = r then x else plF P r k
theorem plX_none (P : List Int) (r : Nat) (k : Nat) : plX P r (-1) k = plF P r k := by
  unfold plX plF
  split
  · rename_i h; rw [if_neg (by omega)]
  · rfl
theorem plX_snoc (P : List Int) (r : Nat) (h : P.length = r) (x : Int) (k : Nat) : plX P r x k = plF (P ++ [x]) (r + 1) k := by
  unfold plX plF
  by_cases e : k = r
  · subst e
    rw [if_pos rfl, if_pos (by omega), List.getD_eq_getElem?_getD, List.getElem?_append_right (by omega), h]
    simp
  · rw [if_neg e]
    by_cases e2 : k < r
    · rw [if_pos e2, if_pos (by omega), List.getD_eq_getElem?_getD, List.getD_eq_getElem?_getD, List.getElem?_append_left (by omega)]
    · rw [if_neg e2, if_neg (by omega)]

/-- What a walk stands in: the grid, the visitor, the places and the walker itself, on blocks of their own; and what the visitor keeps. -/
structure Wk (n m : Nat) (M : Nat → Int) (V : FuncId) (first cap : Array Value) (b3 b5 bp bw : Nat) (I : Nat → World → Prop) (F : Nat → Int) (j : Nat) (w : World) : Prop where
  grid : Has w b3 (gl n m M) 63
  vis : Has w b5 [.func (.func V) first cap] 114
  pl : Has w bp (pl6 F) 75
  wk : Has w bw [.func (.func 126) #[] #[.pointer (some ⟨b3, 0, none⟩), .pointer (some ⟨b5, 0, none⟩), .pointer (some ⟨bp, 0, none⟩), .pointer (some ⟨bw, 0, none⟩)]] 67
  inv : I j w

/-- The blocks apart, and what may be asked of the visitor. -/
structure WkOk (n : Nat) (V : FuncId) (first cap : Array Value) (b3 b5 bp bw : Nat) (foot : Nat → Prop) (I : Nat → World → Prop) (cont : Nat → Bool) (L : List (List Int)) : Prop where
  d1 : b3 ≠ bp
  d2 : b5 ≠ bp
  d3 : bw ≠ bp
  f3 : ¬ foot b3
  f5 : ¬ foot b5
  fp : ¬ foot bp
  fw : ¬ foot bw
  keep : ∀ j w w', Chg (fun k => k = bp) w w' → I j w → I j w'
  call : ∀ (args : Array Value) (w : World), (callFunc V args).run Try.prog w = .ok (.enter V args) w
  visit : ∀ j P, L[j]? = some P → ∀ w, I j w → Calls Try.prog V (first.push (pv6 (plF P n)) ++ cap) w fun e w' => e = .returned (.bool (cont j)) ∧ I (j + 1) w' ∧ Chg foot w w'

theorem Chg.has {foot : Nat → Prop} {w w' : World} {b : Nat} {cs : List Value} {t : TypeId} (h : Chg foot w w') (hf : ¬ foot b) (hh : Has w b cs t) : Has w' b cs t := (h.block b hh.lt hf).trans hh

theorem Wk.chg {n m : Nat} {M : Nat → Int} {V : FuncId} {first cap : Array Value} {b3 b5 bp bw : Nat} {foot : Nat → Prop} {I : Nat → World → Prop} {cont : Nat → Bool} {L : List (List Int)} {F : Nat → Int} {j j' : Nat} {w w' : World}
    (h : Wk n m M V first cap b3 b5 bp bw I F j w) (ok : WkOk n V first cap b3 b5 bp bw foot I cont L) (hc : Chg foot w w') (hi : I j' w') : Wk n m M V first cap b3 b5 bp bw I F j' w' :=
  ⟨hc.has ok.f3 h.grid, hc.has ok.f5 h.vis, hc.has ok.fp h.pl, hc.has ok.fw h.wk, hi⟩
theorem Wk.own {n m : Nat} {M : Nat → Int} {V : FuncId} {first cap : Array Value} {b3 b5 bp bw : Nat} {foot : Nat → Prop} {I : Nat → World → Prop} {cont : Nat → Bool} {L : List (List Int)} {F F' : Nat → Int} {j : Nat} {w w' : World}
    (h : Wk n m M V first cap b3 b5 bp bw I F j w) (ok : WkOk n V first cap b3 b5 bp bw foot I cont L) (hc : Chg (fun k => k = bp) w w') (hp : Has w' bp (pl6 F') 75) : Wk n m M V first cap b3 b5 bp bw I F' j w' :=
  ⟨hc.has ok.d1 h.grid, hc.has ok.d2 h.vis, hp, hc.has ok.d3 h.wk, ok.keep j w w' hc h.inv⟩
theorem Wk.below {n m : Nat} {M : Nat → Int} {V : FuncId} {first cap : Array Value} {b3 b5 bp bw : Nat} {foot : Nat → Prop} {I : Nat → World → Prop} {cont : Nat → Bool} {L : List (List Int)} {F : Nat → Int} {j : Nat} {w w' : World}
    (h : Wk n m M V first cap b3 b5 bp bw I F j w) (ok : WkOk n V first cap b3 b5 bp bw foot I cont L) (hb : Below w.heap.size w w') : Wk n m M V first cap b3 b5 bp bw I F j w' :=
  h.own ok (Chg.of_below hb) (h.pl.kept hb h.pl.lt)
/-- A store into the places. -/
theorem Wk.set {n m : Nat} {M : Nat → Int} {V : FuncId} {first cap : Array Value} {b3 b5 bp bw : Nat} {foot : Nat → Prop} {I : Nat → World → Prop} {cont : Nat → Bool} {L : List (List Int)} {F F' : Nat → Int} {j : Nat} {w : World}
    (h : Wk n m M V first cap b3 b5 bp bw I F j w) (ok : WkOk n V first cap b3 b5 bp bw foot I cont L) (r : Nat) (hr : r < 6) (x : Int) (hx : F' r = x) (hF : ∀ k, k < 6 → k ≠ r → F' k = F k) : Wk n m M V first cap b3 b5 bp bw I F' j (w.setCell ⟨bp, r, none⟩ (.int .i64 x)) := by
  refine h.own ok ⟨rfl, rfl, rfl, by simp [World.setCell], fun k _ hf => Below.heap_setCell w ⟨bp, r, none⟩ _ k hf⟩ ?_
  have := h.pl.set r (.int .i64 x)
  rw [pl6_set F F' r hr x hx hF] at this
  exact this

theorem Wk.congr {n m : Nat} {M : Nat → Int} {V : FuncId} {first cap : Array Value} {b3 b5 bp bw : Nat} {I : Nat → World → Prop} {F F' : Nat → Int} {j : Nat} {w : World}
    (h : Wk n m M V first cap b3 b5 bp bw I F j w) (hF : ∀ k, F k = F' k) : Wk n m M V first cap b3 b5 bp bw I F' j w := by
  rw [show F' = F from funext fun k => (hF k).symm]
  exact h
theorem Chg.set (w : World) (bp r : Nat) (v : Value) (foot : Nat → Prop) : Chg (fun k => k = bp ∨ foot k) w (w.setCell ⟨bp, r, none⟩ v) :=
  ⟨rfl, rfl, rfl, by simp [World.setCell], fun k _ hf => Below.heap_setCell w ⟨bp, r, none⟩ _ k (fun e => hf (.inl e))⟩

/-- The head of the loop over columns. -/
def WkLoop (n m : Nat) (M : Nat → Int) (V : FuncId) (first cap : Array Value) (b3 b5 bp bw : Nat) (foot : Nat → Prop) (I : Nat → World → Prop) (cont : Nat → Bool) (P : List Int) (d r t k j : Nat) (w : World) (g i : Value) (wr : World) : Prop :=
  ∃ (c : Nat) (x : Int), c ≤ m ∧ i = .int .i64 c ∧ g = .bool (runV cont j (plc m (bM M) d r t k c).length).2 ∧ Wk n m M V first cap b3 b5 bp bw I (plX P r x) (j + (runV cont j (plc m (bM M) d r t k c).length).1) wr ∧ Chg (fun k => k = bp ∨ foot k) w wr

/-- How a walk ends: how many things it has visited, and that of what it owns only the places and what the visitor keeps have turned. -/
def WkEnd (n m : Nat) (M : Nat → Int) (V : FuncId) (first cap : Array Value) (b3 b5 bp bw : Nat) (foot : Nat → Prop) (I : Nat → World → Prop) (cont : Nat → Bool) (F : Nat → Int) (j s : Nat) (w : World) (e : Ending) (w' : World) : Prop :=
  e = .returned (.bool (runV cont j s).2) ∧ Wk n m M V first cap b3 b5 bp bw I F (j + (runV cont j s).1) w' ∧ Chg (fun k => k = bp ∨ foot k) w w'

set_option maxRecDepth 100000 in
set_option maxHeartbeats 12800000 in
theorem walk1_any (n m : Nat) (M : Nat → Int) (V : FuncId) (first cap : Array Value) (b3 b5 bp bw : Nat) (foot : Nat → Prop) (I : Nat → World → Prop) (cont : Nat → Bool) (L : List (List Int))
    (hn : n ≤ 6) (hm : m ≤ 6) (hgc : ∀ k, k < 6 → 0 ≤ M k ∧ M k < 64) (ok : WkOk n V first cap b3 b5 bp bw foot I cont L) :
    ∀ (d r t k : Nat) (P : List Int), r + d = n → t < 64 → k ≤ 6 → P.length = r → ∀ (j : Nat) (rest : List (List Int)), L.drop j = (pl m (bM M) d r t k).map (fun Q => P ++ Q) ++ rest → ∀ w, Wk n m M V first cap b3 b5 bp bw I (plF P r) j w →
    Calls Try.prog 126 (#[.int .i64 r, .int .i64 t, .int .i64 k] ++ #[.pointer (some ⟨b3, 0, none⟩), .pointer (some ⟨b5, 0, none⟩), .pointer (some ⟨bp, 0, none⟩), .pointer (some ⟨bw, 0, none⟩)]) w
      fun e w' => WkEnd n m M V first cap b3 b5 bp bw foot I cont (plF P r) j (pl m (bM M) d r t k).length w e w' := by
  have HGC := Lib.hid hgc
  have HOK := Lib.hid ok
  clear hgc
  intro d
  induction d with
  | zero =>
    intro r t k P hr ht hk hP j rest hL w hW
    obtain rfl : r = n := by omega
    obtain ⟨e0, e1, e2, e3, e4, e5, e6, e7, _⟩ := hW.grid.eight
    have v0 := hW.vis.cell 0
    obtain ⟨p0, p1, p2, p3, p4, p5, _⟩ := hW.pl.six
    simp only [List.getElem?_cons_zero] at v0
    have HW := Lib.hid hW
    clear hW
    by_cases hk0 : k = 0
    · subst hk0
      rw [pl, if_pos rfl] at hL ⊢
      have hLj : L[j]? = some P := by
        have := congrArg (fun l => l[0]?) hL
        simp only [List.getElem?_drop, Nat.add_zero] at this
        rw [this]
        simp
      have HV := Lib.hid (ok.visit j P hLj)
      have HCL := ok.call
      have HR : Hid (runV cont j 1 = (1, cont j)) := Lib.hid (by rw [runV]; split <;> simp_all [runV])
      clear hL hLj ok
      rw [show ((0 : Nat) : Int) = 0 from rfl]
      go_enter Try.func126, Try.ntmps126
      go_wp2_with fail
      refine (HV.out _ HW.out.inv).mono ?_
      rintro e w2 ⟨rfl, hI, hc⟩
      have HE := Lib.hid (show WkEnd r m M V first cap b3 b5 bp bw foot I cont (plF P r) j 1 w (.returned (.bool (cont j))) w2 from ⟨by rw [HR.out], by rw [HR.out]; exact HW.out.chg HOK.out hc hI, hc.mono (fun _ h => .inr h)⟩)
      clear hI hc HV
      go_wp2_with fail
      go_ret
      exact HE.out
    · rw [pl, if_neg hk0] at hL ⊢
      have hk1 : (0 : Int) < k := by omega
      clear hL ok v0 p0 p1 p2 p3 p4 p5
      go_enter Try.func126, Try.ntmps126
      go_wp2_with fail
      go_ret
      exact ⟨rfl, HW.out, Chg.refl _ _⟩
  | succ d ih =>
    intro r t k P hr ht hk hP j rest hL w hW
    obtain ⟨e0, e1, e2, e3, e4, e5, e6, e7, _⟩ := hW.grid.eight
    have v0 := hW.wk.cell 0
    simp only [List.getElem?_cons_zero] at v0
    have hrn : ((r : Int) == n) = false := by rw [beq_eq_false_iff_ne]; omega
    have hnr : IntKind.i64.wrap ((n : Int) - r) = (n : Int) - r := IntWalk.i64_in _ (by omega)
    by_cases hkd : d + 1 < k
    · have hkd' : (n : Int) - r < k := by omega
      rw [pl_none _ _ _ _ _ _ hkd]
      have HW := Lib.hid hW
      clear hL ok ih hW v0
      go_enter Try.func126, Try.ntmps126
      go_wp2_with fail
      go_ret
      exact ⟨rfl, HW.out, Chg.refl _ _⟩
    · have hkd' : ¬ ((n : Int) - r < k) := by omega
      have HSP := Lib.hid (fun c (h : c ≤ m) => plc_split m (bM M) d r t k c m h)
      have hL0 : L.drop j = (plc m (bM M) d r t k m).map (fun Q => P ++ Q) ++ rest := hL
      have HL0 := Lib.hid hL0
      -- the row without a rook
      have hA : Calls Try.prog 126 (#[.int .i64 ((r : Int) + 1), .int .i64 t, .int .i64 k] ++ #[.pointer (some ⟨b3, 0, none⟩), .pointer (some ⟨b5, 0, none⟩), .pointer (some ⟨bp, 0, none⟩), .pointer (some ⟨bw, 0, none⟩)]) w
          fun e w' => ∃ b, e = .returned (.bool b) ∧ WkLoop n m M V first cap b3 b5 bp bw foot I cont P d r t k j w (.bool b) (.int .i64 0) w' := by
        obtain ⟨tl, htl⟩ := HSP.out 0 (Nat.zero_le _)
        have h0 := hL0
        rw [htl, plc_zero, List.map_append, map_snoc, List.append_assoc] at h0
        have hW' : Wk n m M V first cap b3 b5 bp bw I (plF (P ++ [-1]) (r + 1)) j w := hW.congr (fun q => by rw [← plX_snoc P r hP, plX_none])
        have := ih (r + 1) t k (P ++ [-1]) (by omega) ht hk (by simp [hP]) j _ h0 w hW'
        rw [show ((r + 1 : Nat) : Int) = (r : Int) + 1 by push_cast; rfl] at this
        refine this.mono (fun e w' h => ?_)
        obtain ⟨h1, h2, h3⟩ := h
        refine ⟨_, h1, 0, -1, Nat.zero_le _, rfl, ?_, ?_, h3⟩
        · rw [plc_zero, List.length_map]
        · rw [plc_zero, List.length_map]
          exact h2.congr (fun q => (plX_snoc P r hP (-1) q).symm)
      have HA := Lib.hid hA
      have HIH := Lib.hid ih
      clear hA ih hL hL0
      go_enter Try.func126, Try.ntmps126
      go_wp2_with fail
      refine HA.out.mono ?_
      rintro e w2 ⟨b, rfl, hLoop⟩
      have HLP := Lib.hid hLoop
      clear hLoop HA hW e0 e1 e2 e3 e4 e5 e6 e7 v0
      go_wp2_with fail
      go_loopw [11, 12] (fun g i wr => WkLoop n m M V first cap b3 b5 bp bw foot I cont P d r t k j w g i wr) (fun _ i _ => m - (intOf i).toNat)
      case atStart => exact HLP.out
      case round =>
        clear HLP
        obtain ⟨c, x, hcm, rfl, rfl, hW, hC⟩ := hrel
        obtain ⟨e0, e1, e2, e3, e4, e5, e6, e7, _⟩ := hW.grid.eight
        have v0 := hW.wk.cell 0
        simp only [List.getElem?_cons_zero] at v0
        cases hb : (runV cont j (plc m (bM M) d r t k c).length).2
        · have HX : Hid (runV cont j (plc m (bM M) d r t k c).length = runV cont j (pl m (bM M) (d + 1) r t k).length) := Lib.hid (by
            obtain ⟨tl, htl⟩ := HSP.out c hcm
            rw [← plc_full, htl, List.length_append, runV_add, hb]
            rfl)
          have HB := Lib.hid hb
          clear hb
          have hce := hW.pl.cell r
          rw [pl6_get _ r (by omega)] at hce
          have hfe := hW.pl.free r
          have HE := Lib.hid (show WkEnd n m M V first cap b3 b5 bp bw foot I cont (plF P r) j (pl m (bM M) (d + 1) r t k).length w (.returned (.bool false)) (wr.setCell ⟨bp, r, none⟩ (.int .i64 (-1))) from
            ⟨by rw [← HX.out, HB.out], by rw [← HX.out]; exact (hW.set HOK.out r (by omega) (-1) (F' := plX P r (-1)) (by unfold plX; rw [if_pos rfl]) (fun q _ hq => by unfold plX; rw [if_neg hq, if_neg hq])).congr (plX_none P r), hC.trans (Chg.set wr bp r _ foot)⟩)
          have hr0 : (0 : Int) ≤ r := by omega
          have hr1 : (r : Int) < 6 := by omega
          clear hW hC v0
          go_wp2_with fail
          go_ret
          exact HE.out
        · have HB := Lib.hid hb
          have HF := Lib.hid (runV_full cont _ j hb)
          clear hb
          by_cases hk0 : k = 0
          · subst hk0
            have HX : Hid (runV cont j (plc m (bM M) d r t 0 c).length = runV cont j (pl m (bM M) (d + 1) r t 0).length) := Lib.hid (by
              rw [← plc_full, plc_none m (bM M) d r t c m hcm])
            rw [show ((0 : Nat) : Int) = 0 from rfl]
            have hce := hW.pl.cell r
            rw [pl6_get _ r (by omega)] at hce
            have hfe := hW.pl.free r
            have HE := Lib.hid (show WkEnd n m M V first cap b3 b5 bp bw foot I cont (plF P r) j (pl m (bM M) (d + 1) r t 0).length w (.returned (.bool true)) (wr.setCell ⟨bp, r, none⟩ (.int .i64 (-1))) from
              ⟨by rw [← HX.out, HB.out], by rw [← HX.out]; exact (hW.set HOK.out r (by omega) (-1) (F' := plX P r (-1)) (by unfold plX; rw [if_pos rfl]) (fun q _ hq => by unfold plX; rw [if_neg hq, if_neg hq])).congr (plX_none P r), hC.trans (Chg.set wr bp r _ foot)⟩)
            have hr0 : (0 : Int) ≤ r := by omega
            have hr1 : (r : Int) < 6 := by omega
            clear hW hC v0
            go_wp2_with fail
            go_ret
            exact HE.out
          · have hk1 : (0 : Int) < k := by omega
            by_cases hcm2 : c < m
            · have hcm3 : (c : Int) < m := by omega
              have HA := Lib.hid (fun W => at_any n m M r c W (by omega) (by omega) (HGC.out r (by omega)))
              have hbo := bit_off t c ht (by omega)
              have hc0 : (0 : Int) ≤ c := by omega
              have hc64 : (c : Int) < 64 := by omega
              have HWW := Lib.hid hW
              have HCC := Lib.hid hC
              clear hW hC v0
              cases hB : (M r).toNat.testBit c
              · rw [hB] at HA
                have HX : Hid (plc m (bM M) d r t k (c + 1) = plc m (bM M) d r t k c) := Lib.hid (by rw [plc_succ, blk_no m (bM M) d r t k c (.inr (.inl hB)), List.append_nil])
                clear hB hbo
                go_wp2_with fail
                refine (HA.out _).mono ?_
                rintro e w3 ⟨rfl, hb3⟩
                have HN := Lib.hid (show WkLoop n m M V first cap b3 b5 bp bw foot I cont P d r t k j w (.bool true) (.int .i64 ((c : Int) + 1)) w3 from
                  ⟨c + 1, x, by omega, rfl, by rw [HX.out, HB.out], by rw [HX.out]; exact HWW.out.below HOK.out hb3, HCC.out.trans (Chg.of_below hb3)⟩)
                clear hb3 HWW HCC e0 e1 e2 e3 e4 e5 e6 e7
                go_wp2_with fail
                go_roundw
                case rel => exact HN.out
                case measure => simp [intOf]; omega
              · rw [hB] at HA
                cases hT : t.testBit c
                · rw [hT] at hbo
                  simp only [Bool.not_false] at hbo
                  obtain ⟨_, ht2⟩ := cnt6_put t c ht (by omega) hT
                  have hor := or_nat t c ht (by omega)
                  have hor2 := or_nat2 t c ht (by omega)
                  have HBL := Lib.hid (blk_yes m (bM M) d r t k c (by omega) hB hT)
                  clear hB hT
                  go_wp2_with fail
                  refine (HA.out _).mono ?_
                  rintro e w3 ⟨rfl, hb3⟩
                  have hW3 := HWW.out.below HOK.out hb3
                  have hce := hW3.pl.cell r
                  rw [pl6_get _ r (by omega)] at hce
                  have hfe := hW3.pl.free r
                  have hW4 := (hW3.set HOK.out r (by omega) c (F' := plX P r c) (by unfold plX; rw [if_pos rfl]) (fun q _ hq => by unfold plX; rw [if_neg hq, if_neg hq]))
                  have hC4 := (HCC.out.trans (Chg.of_below hb3)).trans (Chg.set w3 bp r (.int .i64 (c : Int)) foot)
                  have HW4 := Lib.hid hW4
                  have HC4 := Lib.hid hC4
                  have hr0 : (0 : Int) ≤ r := by omega
                  have hr1 : (r : Int) < 6 := by omega
                  clear hb3 HWW HCC e0 e1 e2 e3 e4 e5 e6 e7 hW3 hW4 hC4
                  go_upto_region 11 with fail
                  generalize w3.setCell ⟨bp, r, none⟩ (.int .i64 (c : Int)) = w5 at *
                  clear hce hfe
                  have hW5 := HW4.out
                  have v0 := (show Has w5.drew bw _ _ from hW5.wk.drew).cell 0
                  simp only [List.getElem?_cons_zero] at v0
                  have hstep : Calls Try.prog 126 (#[.int .i64 ((r : Int) + 1), .int .i64 (t ||| 2 ^ c : Nat), .int .i64 ((k : Int) - 1)] ++ #[.pointer (some ⟨b3, 0, none⟩), .pointer (some ⟨b5, 0, none⟩), .pointer (some ⟨bp, 0, none⟩), .pointer (some ⟨bw, 0, none⟩)]) w5.drew
                      fun e w' => ∃ b, e = .returned (.bool b) ∧ WkLoop n m M V first cap b3 b5 bp bw foot I cont P d r t k j w (.bool b) (.int .i64 ((c : Int) + 1)) w' := by
                    obtain ⟨tl, htl⟩ := HSP.out (c + 1) (by omega)
                    have h0 := HL0.out
                    rw [htl, plc_succ, HBL.out, List.append_assoc] at h0
                    have h1 := drop_at _ _ _ _ _ _ h0
                    rw [List.map_append, map_snoc, List.append_assoc] at h1
                    have hW6 : Wk n m M V first cap b3 b5 bp bw I (plF (P ++ [(c : Int)]) (r + 1)) (j + (plc m (bM M) d r t k c).length) w5.drew := by
                      have := (hW5.below HOK.out (Below.refl _ _).drew).congr (plX_snoc P r hP c)
                      rw [HF.out] at this
                      exact this
                    have := HIH.out (r + 1) (t ||| 2 ^ c) (k - 1) (P ++ [(c : Int)]) (by omega) ht2 (by omega) (by simp [hP]) _ _ h1 w5.drew hW6
                    rw [show ((r + 1 : Nat) : Int) = (r : Int) + 1 by push_cast; rfl, show ((k - 1 : Nat) : Int) = (k : Int) - 1 by omega] at this
                    refine this.mono (fun e w' h => ?_)
                    obtain ⟨h1, h2, h3⟩ := h
                    have hlen : (plc m (bM M) d r t k (c + 1)).length = (plc m (bM M) d r t k c).length + (pl m (bM M) d (r + 1) (t ||| 2 ^ c) (k - 1)).length := by
                      rw [plc_succ, HBL.out, List.length_append, List.length_map]
                    have hrun := runV_add cont (plc m (bM M) d r t k c).length (pl m (bM M) d (r + 1) (t ||| 2 ^ c) (k - 1)).length j
                    rw [HB.out, if_pos rfl] at hrun
                    refine ⟨_, h1, c + 1, c, by omega, by go_num, ?_, ?_, (HC4.out.trans (Chg.of_below (Below.refl _ _).drew)).trans h3⟩
                    · rw [hlen, hrun]
                    · rw [hlen, hrun, ← Nat.add_assoc]
                      exact h2.congr (fun q => (plX_snoc P r hP c q).symm)
                  have HST := Lib.hid hstep
                  have hrw : IntKind.i64.wrap ((r : Int) + 1) = (r : Int) + 1 := IntWalk.i64_in _ (by omega)
                  have hkw : IntKind.i64.wrap ((k : Int) - 1) = (k : Int) - 1 := IntWalk.i64_in _ (by omega)
                  generalize (t ||| 2 ^ c) = t2 at *
                  clear hstep hW5 HW4 HC4 HBL HIH
                  go_region_with ((go_at_call 126; ((refine (HST.out).mono ?_); rintro e w6 ⟨b, rfl, hLp⟩; have HLp := Lib.hid hLp; clear hLp)))
                  all_goals
                    go_wp2_with fail
                    go_roundw
                    case rel => exact HLp.out
                    case measure => simp [intOf]; omega
                · rw [hT] at hbo
                  simp only [Bool.not_true] at hbo
                  have HX : Hid (plc m (bM M) d r t k (c + 1) = plc m (bM M) d r t k c) := Lib.hid (by rw [plc_succ, blk_no m (bM M) d r t k c (.inr (.inr hT)), List.append_nil])
                  clear hB hT
                  go_wp2_with fail
                  refine (HA.out _).mono ?_
                  rintro e w3 ⟨rfl, hb3⟩
                  have HN := Lib.hid (show WkLoop n m M V first cap b3 b5 bp bw foot I cont P d r t k j w (.bool true) (.int .i64 ((c : Int) + 1)) w3 from
                    ⟨c + 1, x, by omega, rfl, by rw [HX.out, HB.out], by rw [HX.out]; exact HWW.out.below HOK.out hb3, HCC.out.trans (Chg.of_below hb3)⟩)
                  clear hb3 HWW HCC e0 e1 e2 e3 e4 e5 e6 e7
                  go_wp2_with fail
                  go_roundw
                  case rel => exact HN.out
                  case measure => simp [intOf]; omega
            · obtain rfl : c = m := by omega
              have HX : Hid (runV cont j (plc c (bM M) d r t k c).length = runV cont j (pl c (bM M) (d + 1) r t k).length) := Lib.hid rfl
              have hce := hW.pl.cell r
              rw [pl6_get _ r (by omega)] at hce
              have hfe := hW.pl.free r
              have HE := Lib.hid (show WkEnd n c M V first cap b3 b5 bp bw foot I cont (plF P r) j (pl c (bM M) (d + 1) r t k).length w (.returned (.bool true)) (wr.setCell ⟨bp, r, none⟩ (.int .i64 (-1))) from
                ⟨by rw [← HX.out, HB.out], by rw [← HX.out]; exact (hW.set HOK.out r (by omega) (-1) (F' := plX P r (-1)) (by unfold plX; rw [if_pos rfl]) (fun q _ hq => by unfold plX; rw [if_neg hq, if_neg hq])).congr (plX_none P r), hC.trans (Chg.set wr bp r _ foot)⟩)
              have hr0 : (0 : Int) ≤ r := by omega
              have hr1 : (r : Int) < 6 := by omega
              clear hW hC v0
              go_wp2_with fail
              go_ret
              exact HE.out
end Go.Proofs.Ytdgkcfpfldaopaa
