import Derived.Test.YtdimbnkgomfojabFold17
import Derived.Test.YtdimbnkgomfojabFold13
import Derived.Test.YtdimbnkgomfojabFold12
import Derived.Deep.RegionWith
import Derived.Laws.EntriesVeiled
namespace Go.Proofs.Ytdimbnkgomfojab
open Go.RowKit Go.WideShapes

theorem Chg.has {foot : Nat → Prop} {w w' : World} {b : Nat} {cs : List Value} {t : TypeId} (h : Chg foot w w') (hf : ¬ foot b) (hh : Has w b cs t) : Has w' b cs t := (h.block b hh.lt hf).trans hh
theorem Chg.set (w : World) (bp r : Nat) (v : Value) (foot : Nat → Prop) : Chg (fun k => k = bp ∨ foot k) w (w.setCell ⟨bp, r, none⟩ v) :=
  ⟨rfl, rfl, rfl, by simp [World.setCell], fun k _ hf => Below.heap_setCell w ⟨bp, r, none⟩ _ k (fun e => hf (.inl e))⟩
theorem own_keep {w w' : World} {lo g n cap : Nat} {xs : List Int} {foot : Nat → Prop} (h : Own w lo (.slice (some ⟨g, 0, none⟩) n cap) xs) (hc : Chg foot w w') (hf : ¬ foot g) : Own w' lo (.slice (some ⟨g, 0, none⟩) n cap) xs := by
  refine ⟨h.1, ?_⟩
  rcases h.2 with h2 | ⟨g', cap', cur, hv, hg, hh, r⟩
  · exact .inl h2
  · refine .inr ⟨g', cap', cur, hv, hg, ?_, r⟩
    have e : g = g' := by injection hv with h1; injection h1 with h1; injection h1
    subst e
    rw [hc.block g (Array.getElem?_eq_some_iff.1 hh).1 hf]
    exact hh

/-- Places that begin as a list of r numbers, with nothing behind the rows. -/
def okF (P : List Int) (r n : Nat) (F : Nat → Int) : Prop := (∀ k, k < r → F k = P.getD k 0) ∧ ∀ k, n ≤ k → F k = -1
theorem okF_nil (n : Nat) : okF [] 0 n (fun _ => -1) := ⟨fun k h => by omega, fun _ _ => rfl⟩
theorem okF_set {P : List Int} {r n : Nat} {F : Nat → Int} (h : okF P r n F) (hr : r < n) (x : Int) : okF P r n (fun q => if q = r then x else F q) :=
  ⟨fun k hk => by simp only; rw [if_neg (by omega)]; exact h.1 k hk, fun k hk => by simp only; rw [if_neg (by omega)]; exact h.2 k hk⟩
theorem okF_put {P : List Int} {r n : Nat} {F : Nat → Int} (h : okF P r n F) (hP : P.length = r) (hr : r < n) (x : Int) : okF (P ++ [x]) (r + 1) n (fun q => if q = r then x else F q) := by
  refine ⟨fun k hk => ?_, fun k hk => by simp only; rw [if_neg (by omega)]; exact h.2 k hk⟩
  simp only
  by_cases e : k = r
  · subst e
    rw [if_pos rfl, List.getD_eq_getElem?_getD, List.getElem?_append_right (by omega), hP]
    simp
  · rw [if_neg e, h.1 k (by omega), List.getD_eq_getElem?_getD, List.getD_eq_getElem?_getD, List.getElem?_append_left (by omega)]
theorem okF_weak {P : List Int} {r n : Nat} {F : Nat → Int} {x : Int} (h : okF (P ++ [x]) (r + 1) n F) (hP : P.length = r) : okF P r n F :=
  ⟨fun k hk => by
    rw [h.1 k (by omega), List.getD_eq_getElem?_getD, List.getD_eq_getElem?_getD, List.getElem?_append_left (by omega)], h.2⟩
theorem okF_full {P : List Int} {n : Nat} {F : Nat → Int} (h : okF P n n F) : F = plF P n := funext fun k => by
  unfold plF
  by_cases e : k < n
  · rw [if_pos e, h.1 k e]
  · rw [if_neg e, h.2 k (by omega)]

/-- What a walk stands in: the grid, the visitor, the choices, the places and the walker itself, on blocks of their own; and what the visitor keeps. -/
structure Wk (n m : Nat) (M : Nat → Int) (V : FuncId) (first cap : Array Value) (gc cp : Nat) (C : List Int) (b3 b5 bp bc bw : Nat) (I : Nat → World → Prop) (F : Nat → Int) (j : Nat) (w : World) : Prop where
  grid : Has w b3 (gl n m M) 68
  vis : Has w b5 [.func (.func V) first cap] 73
  pl : Has w bp (pl6 F) 71
  ch : Has w bc [.slice (some ⟨gc, 0, none⟩) C.length cp] 22
  arr : Own w 0 (.slice (some ⟨gc, 0, none⟩) C.length cp) C
  wk : Has w bw [.func (.func 127) #[] #[.pointer (some ⟨b3, 0, none⟩), .pointer (some ⟨b5, 0, none⟩), .pointer (some ⟨bp, 0, none⟩), .pointer (some ⟨bc, 0, none⟩), .pointer (some ⟨bw, 0, none⟩)]] 96
  inv : I j w

/-- The blocks apart, and what may be asked of the visitor. -/
structure WkOk (n : Nat) (V : FuncId) (first cap : Array Value) (gc b3 b5 bp bc bw : Nat) (foot : Nat → Prop) (I : Nat → World → Prop) (cont : Nat → Bool) (L : List (List Int)) : Prop where
  d1 : b3 ≠ bp
  d2 : b5 ≠ bp
  d3 : bw ≠ bp
  d4 : bc ≠ bp
  d5 : gc ≠ bp
  f3 : ¬ foot b3
  f5 : ¬ foot b5
  fp : ¬ foot bp
  fw : ¬ foot bw
  fc : ¬ foot bc
  fg : ¬ foot gc
  keep : ∀ j w w', Chg (fun k => k = bp) w w' → I j w → I j w'
  call : ∀ (args : Array Value) (w : World), (callFunc V args).run Try.prog w = .ok (.enter V args) w
  visit : ∀ j P, L[j]? = some P → ∀ w, I j w → Calls Try.prog V (first.push (pv6 (plF P n)) ++ cap) w fun e w' => e = .returned (.bool (cont j)) ∧ I (j + 1) w' ∧ Chg foot w w'

theorem Wk.chg {n m : Nat} {M : Nat → Int} {V : FuncId} {first cap : Array Value} {gc cp : Nat} {C : List Int} {b3 b5 bp bc bw : Nat} {foot : Nat → Prop} {I : Nat → World → Prop} {cont : Nat → Bool} {L : List (List Int)} {F : Nat → Int} {j j' : Nat} {w w' : World}
    (h : Wk n m M V first cap gc cp C b3 b5 bp bc bw I F j w) (ok : WkOk n V first cap gc b3 b5 bp bc bw foot I cont L) (hc : Chg foot w w') (hi : I j' w') : Wk n m M V first cap gc cp C b3 b5 bp bc bw I F j' w' :=
  ⟨hc.has ok.f3 h.grid, hc.has ok.f5 h.vis, hc.has ok.fp h.pl, hc.has ok.fc h.ch, own_keep h.arr hc ok.fg, hc.has ok.fw h.wk, hi⟩
theorem Wk.own {n m : Nat} {M : Nat → Int} {V : FuncId} {first cap : Array Value} {gc cp : Nat} {C : List Int} {b3 b5 bp bc bw : Nat} {foot : Nat → Prop} {I : Nat → World → Prop} {cont : Nat → Bool} {L : List (List Int)} {F F' : Nat → Int} {j : Nat} {w w' : World}
    (h : Wk n m M V first cap gc cp C b3 b5 bp bc bw I F j w) (ok : WkOk n V first cap gc b3 b5 bp bc bw foot I cont L) (hc : Chg (fun k => k = bp) w w') (hp : Has w' bp (pl6 F') 71) : Wk n m M V first cap gc cp C b3 b5 bp bc bw I F' j w' :=
  ⟨hc.has ok.d1 h.grid, hc.has ok.d2 h.vis, hp, hc.has ok.d4 h.ch, own_keep h.arr hc ok.d5, hc.has ok.d3 h.wk, ok.keep j w w' hc h.inv⟩
theorem Wk.below {n m : Nat} {M : Nat → Int} {V : FuncId} {first cap : Array Value} {gc cp : Nat} {C : List Int} {b3 b5 bp bc bw : Nat} {foot : Nat → Prop} {I : Nat → World → Prop} {cont : Nat → Bool} {L : List (List Int)} {F : Nat → Int} {j : Nat} {w w' : World}
    (h : Wk n m M V first cap gc cp C b3 b5 bp bc bw I F j w) (ok : WkOk n V first cap gc b3 b5 bp bc bw foot I cont L) (hb : Below w.heap.size w w') : Wk n m M V first cap gc cp C b3 b5 bp bc bw I F j w' :=
  h.own ok (Chg.of_below hb) (h.pl.kept hb h.pl.lt)
/-- A store into the places. -/
theorem Wk.set {n m : Nat} {M : Nat → Int} {V : FuncId} {first cap : Array Value} {gc cp : Nat} {C : List Int} {b3 b5 bp bc bw : Nat} {foot : Nat → Prop} {I : Nat → World → Prop} {cont : Nat → Bool} {L : List (List Int)} {F : Nat → Int} {j : Nat} {w : World}
    (h : Wk n m M V first cap gc cp C b3 b5 bp bc bw I F j w) (ok : WkOk n V first cap gc b3 b5 bp bc bw foot I cont L) (r : Nat) (hr : r < 6) (x : Int) : Wk n m M V first cap gc cp C b3 b5 bp bc bw I (fun q => if q = r then x else F q) j (w.setCell ⟨bp, r, none⟩ (.int .i64 x)) := by
  refine h.own ok ⟨rfl, rfl, rfl, by simp [World.setCell], fun k _ hf => Below.heap_setCell w ⟨bp, r, none⟩ _ k hf⟩ ?_
  have := h.pl.set r (.int .i64 x)
  rw [pl6_set F (fun q => if q = r then x else F q) r hr x (by simp) (fun k _ hk => by simp [hk])] at this
  exact this

/-- The head of the loop over choices. -/
def WkLoop (n m : Nat) (M : Nat → Int) (V : FuncId) (first cap : Array Value) (gc cp : Nat) (C : List Int) (b3 b5 bp bc bw : Nat) (foot : Nat → Prop) (I : Nat → World → Prop) (cont : Nat → Bool) (P : List Int) (d r t k j : Nat) (w : World) (g i : Value) (wr : World) : Prop :=
  ∃ (c : Nat) (F : Nat → Int), c ≤ C.length ∧ i = .int .i64 c ∧ g = .bool (runV cont j (plcG (bM M) C d r t k c).length).2 ∧ okF P r n F ∧ Wk n m M V first cap gc cp C b3 b5 bp bc bw I F (j + (runV cont j (plcG (bM M) C d r t k c).length).1) wr ∧ Chg (fun k => k = bp ∨ foot k) w wr

/-- How a walk ends: how many things it has visited, and that of what it owns only the places and what the visitor keeps have turned. -/
def WkEnd (n m : Nat) (M : Nat → Int) (V : FuncId) (first cap : Array Value) (gc cp : Nat) (C : List Int) (b3 b5 bp bc bw : Nat) (foot : Nat → Prop) (I : Nat → World → Prop) (cont : Nat → Bool) (P : List Int) (r j s : Nat) (w : World) (e : Ending) (w' : World) : Prop :=
  e = .returned (.bool (runV cont j s).2) ∧ (∃ F, okF P r n F ∧ Wk n m M V first cap gc cp C b3 b5 bp bc bw I F (j + (runV cont j s).1) w') ∧ Chg (fun k => k = bp ∨ foot k) w w'

set_option maxRecDepth 100000 in
set_option maxHeartbeats 12800000 in
theorem walk1_any (n m : Nat) (M : Nat → Int) (V : FuncId) (first cap : Array Value) (gc cp : Nat) (C : List Int) (b3 b5 bp bc bw : Nat) (foot : Nat → Prop) (I : Nat → World → Prop) (cont : Nat → Bool) (L : List (List Int))
    (hn : n ≤ 6) (hm : m ≤ 6) (hgc : ∀ k, k < 6 → 0 ≤ M k ∧ M k < 64) (hC : choiceOk m C) (ok : WkOk n V first cap gc b3 b5 bp bc bw foot I cont L) :
    ∀ (d r t k : Nat) (P : List Int), r + d = n → t < 64 → k ≤ 6 → P.length = r → ∀ (j : Nat) (rest : List (List Int)), L.drop j = (plG (bM M) C d r t k).map (fun Q => P ++ Q) ++ rest → ∀ (F : Nat → Int) w, okF P r n F → Wk n m M V first cap gc cp C b3 b5 bp bc bw I F j w →
    Calls Try.prog 127 (#[.int .i64 r, .int .i64 t, .int .i64 k] ++ #[.pointer (some ⟨b3, 0, none⟩), .pointer (some ⟨b5, 0, none⟩), .pointer (some ⟨bp, 0, none⟩), .pointer (some ⟨bc, 0, none⟩), .pointer (some ⟨bw, 0, none⟩)]) w
      fun e w' => WkEnd n m M V first cap gc cp C b3 b5 bp bc bw foot I cont P r j (plG (bM M) C d r t k).length w e w' := by
  have HGC := Lib.hid hgc
  have HOK := Lib.hid ok
  have HCH := Lib.hid hC.2
  have HC7 := Lib.hid hC.1
  clear hgc hC
  intro d
  induction d with
  | zero =>
    intro r t k P hr ht hk hP j rest hL F w hF hW
    obtain rfl : r = n := by omega
    obtain ⟨e0, e1, e2, e3, e4, e5, e6, e7, _⟩ := hW.grid.eight
    have v0 := hW.vis.cell 0
    obtain ⟨p0, p1, p2, p3, p4, p5, _⟩ := hW.pl.six
    simp only [List.getElem?_cons_zero] at v0
    have HW := Lib.hid hW
    clear hW
    by_cases hk0 : k = 0
    · subst hk0
      rw [plG, if_pos rfl] at hL ⊢
      have hLj : L[j]? = some P := by
        have := congrArg (fun l => l[0]?) hL
        simp only [List.getElem?_drop, Nat.add_zero] at this
        rw [this]
        simp
      have HV := Lib.hid (ok.visit j P hLj)
      rw [← okF_full hF] at HV
      have HCL := ok.call
      have HF := Lib.hid hF
      have HR : Hid (runV cont j 1 = (1, cont j)) := Lib.hid (by rw [runV]; split <;> simp_all [runV])
      clear hL hLj ok hF
      rw [show ((0 : Nat) : Int) = 0 from rfl]
      go_enter Try.func127, Try.ntmps127
      go_wp2_with fail
      refine (HV.out _ HW.out.inv).mono ?_
      rintro e w2 ⟨rfl, hI, hc⟩
      have HE := Lib.hid (show WkEnd r m M V first cap gc cp C b3 b5 bp bc bw foot I cont P r j 1 w (.returned (.bool (cont j))) w2 from ⟨by rw [HR.out], ⟨F, HF.out, by rw [HR.out]; exact HW.out.chg HOK.out hc hI⟩, hc.mono (fun _ h => .inr h)⟩)
      clear hI hc HV
      go_wp2_with fail
      go_ret
      exact HE.out
    · rw [plG, if_neg hk0] at hL ⊢
      have hk1 : (0 : Int) < k := by omega
      have HF := Lib.hid hF
      clear hL ok v0 p0 p1 p2 p3 p4 p5 hF
      go_enter Try.func127, Try.ntmps127
      go_wp2_with fail
      go_ret
      exact ⟨rfl, ⟨F, HF.out, HW.out⟩, Chg.refl _ _⟩
  | succ d ih =>
    intro r t k P hr ht hk hP j rest hL F0 w hF0 hW
    obtain ⟨e0, e1, e2, e3, e4, e5, e6, e7, _⟩ := hW.grid.eight
    have hrn : ((r : Int) == n) = false := by rw [beq_eq_false_iff_ne]; omega
    have hnr : IntKind.i64.wrap ((n : Int) - r) = (n : Int) - r := IntWalk.i64_in _ (by omega)
    by_cases hkd : d + 1 < k
    · have hkd' : (n : Int) - r < k := by omega
      rw [plG_none _ _ _ _ _ _ hkd]
      have HW := Lib.hid hW
      have HF := Lib.hid hF0
      clear hL ok ih hW hF0
      go_enter Try.func127, Try.ntmps127
      go_wp2_with fail
      go_ret
      exact ⟨rfl, ⟨F0, HF.out, HW.out⟩, Chg.refl _ _⟩
    · have hkd' : ¬ ((n : Int) - r < k) := by omega
      have HSP := Lib.hid (fun c => plcG_split (bM M) C d r t k c)
      have HL0 := Lib.hid hL
      have HIH := Lib.hid ih
      have HLP : Hid (WkLoop n m M V first cap gc cp C b3 b5 bp bc bw foot I cont P d r t k j w (.bool true) (.int .i64 0) w) := Lib.hid ⟨0, F0, Nat.zero_le _, rfl, by rw [plcG_zero]; rfl, hF0, by rw [plcG_zero]; exact hW, Chg.refl _ _⟩
      clear ih hL hW hF0
      go_enter Try.func127, Try.ntmps127
      go_wp2_with fail
      clear e0 e1 e2 e3 e4 e5 e6 e7
      go_loopw [12, 13] (fun g i wr => WkLoop n m M V first cap gc cp C b3 b5 bp bc bw foot I cont P d r t k j w g i wr) (fun _ i _ => C.length - (intOf i).toNat)
      case atStart => exact HLP.out
      case round =>
        clear HLP
        obtain ⟨c, F, hcm, rfl, rfl, hF, hW, hC⟩ := hrel
        have v0 := hW.ch.cell 0
        simp only [List.getElem?_cons_zero] at v0
        cases hb : (runV cont j (plcG (bM M) C d r t k c).length).2
        · have HX : Hid (runV cont j (plcG (bM M) C d r t k c).length = runV cont j (plG (bM M) C (d + 1) r t k).length) := Lib.hid (by
            obtain ⟨tl, htl⟩ := HSP.out c
            rw [htl, List.length_append, runV_add, hb]
            rfl)
          have HB := Lib.hid hb
          clear hb
          have HE := Lib.hid (show WkEnd n m M V first cap gc cp C b3 b5 bp bc bw foot I cont P r j (plG (bM M) C (d + 1) r t k).length w (.returned (.bool false)) wr from
            ⟨by rw [← HX.out, HB.out], ⟨F, hF, by rw [← HX.out]; exact hW⟩, hC⟩)
          clear hW hC v0 hF
          go_wp2_with fail
          go_ret
          exact HE.out
        · have HB := Lib.hid hb
          have HFL := Lib.hid (runV_full cont _ j hb)
          clear hb
          by_cases hcl : c < C.length
          · have hstep : ∀ (x : Int) (t2 k2 : Nat), t2 < 64 → k2 ≤ 6 → blkG (bM M) C d r t k x = (plG (bM M) C d (r + 1) t2 k2).map (fun Q => x :: Q) → C.getD c 0 = x → ∀ W, Wk n m M V first cap gc cp C b3 b5 bp bc bw I (fun q => if q = r then x else F q) (j + (runV cont j (plcG (bM M) C d r t k c).length).1) W → Chg (fun k => k = bp ∨ foot k) w W →
                Calls Try.prog 127 (#[.int .i64 ((r : Int) + 1), .int .i64 t2, .int .i64 k2] ++ #[.pointer (some ⟨b3, 0, none⟩), .pointer (some ⟨b5, 0, none⟩), .pointer (some ⟨bp, 0, none⟩), .pointer (some ⟨bc, 0, none⟩), .pointer (some ⟨bw, 0, none⟩)]) W
                  fun e w' => ∃ b, e = .returned (.bool b) ∧ WkLoop n m M V first cap gc cp C b3 b5 bp bc bw foot I cont P d r t k j w (.bool b) (.int .i64 ((c : Int) + 1)) w' := by
              intro x t2 k2 ht2 hk2 hblk hcx W hWW hCW
              obtain ⟨tl, htl⟩ := HSP.out (c + 1)
              have hsucc := plcG_succ (bM M) C d r t k c hcl
              rw [hcx, hblk] at hsucc
              have h0 := HL0.out
              rw [htl, hsucc, List.append_assoc] at h0
              have h1 := drop_at _ _ _ _ _ _ h0
              rw [List.map_append, map_snoc, List.append_assoc] at h1
              rw [HFL.out] at hWW
              have := HIH.out (r + 1) t2 k2 (P ++ [x]) (by omega) ht2 hk2 (by simp [hP]) _ _ h1 _ W (okF_put hF hP (by omega) x) hWW
              rw [show ((r + 1 : Nat) : Int) = (r : Int) + 1 by push_cast; rfl] at this
              refine this.mono (fun e w' h => ?_)
              obtain ⟨h1, ⟨F', h4, h2⟩, h3⟩ := h
              have hlen : (plcG (bM M) C d r t k (c + 1)).length = (plcG (bM M) C d r t k c).length + (plG (bM M) C d (r + 1) t2 k2).length := by
                rw [hsucc, List.length_append, List.length_map]
              have hrun := runV_add cont (plcG (bM M) C d r t k c).length (plG (bM M) C d (r + 1) t2 k2).length j
              rw [HB.out, if_pos rfl] at hrun
              refine ⟨_, h1, c + 1, F', hcl, by go_num, ?_, okF_weak h4 hP, ?_, hCW.trans h3⟩
              · rw [hlen, hrun]
              · rw [hlen, hrun, ← Nat.add_assoc]
                exact h2
            have hskip : ∀ (q : Nat), (k = 0 ∨ bM M r q = false ∨ t.testBit q = true) → C.getD c 0 = (q : Int) → ∀ W, Wk n m M V first cap gc cp C b3 b5 bp bc bw I (fun p => if p = r then (q : Int) else F p) (j + (runV cont j (plcG (bM M) C d r t k c).length).1) W → Chg (fun k => k = bp ∨ foot k) w W → WkLoop n m M V first cap gc cp C b3 b5 bp bc bw foot I cont P d r t k j w (.bool true) (.int .i64 ((c : Int) + 1)) W := by
              intro q hno hcx W hWW hCW
              have hsucc := plcG_succ (bM M) C d r t k c hcl
              rw [hcx, blkG_no _ _ _ _ _ _ _ hno, List.append_nil] at hsucc
              refine ⟨c + 1, _, hcl, by go_num, by rw [hsucc, HB.out], okF_set hF (by omega) q, by rw [hsucc]; exact hWW, hCW⟩
            have HST := Lib.hid hstep
            have HSK := Lib.hid hskip
            have hch := HCH.out c hcl
            have a0 := Own.cell hW.arr c hcl
            obtain ⟨x, hx⟩ : ∃ x, x = C.getD c 0 := ⟨_, rfl⟩
            rw [← hx] at hch a0
            have HX := Lib.hid hx
            have hce := hW.pl.cell r
            rw [pl6_get _ r (by omega)] at hce
            have hfe := hW.pl.free r
            have hW4 := hW.set HOK.out r (by omega) x
            have HC4 := Lib.hid (hC.trans (Chg.set wr bp r (.int .i64 x) foot))
            have HW4 := Lib.hid hW4
            have hr0 : (0 : Int) ≤ r := by omega
            have hr1 : (r : Int) < 6 := by omega
            have hc0 : (0 : Int) ≤ c := by omega
            have hc1 : (c : Int) < C.length := by omega
            have hc7 : (c : Int) < 7 := by have := HC7.out; omega
            clear hstep hskip hx hW hC hW4 hF HIH HL0
            go_upto_region 10 with fail
            generalize wr.setCell ⟨bp, r, none⟩ (.int .i64 x) = w5 at *
            clear hce hfe v0 a0
            have v0 := HW4.out.ch.cell 0
            simp only [List.getElem?_cons_zero] at v0
            have a0 := Own.cell HW4.out.arr c hcl
            rw [← HX.out] at a0
            have HCL := Lib.hid hcl
            clear hcl hcm
            rcases hch with rfl | ⟨q, hq, rfl⟩
            · have v1 := HW4.out.wk.cell 0
              simp only [List.getElem?_cons_zero] at v1
              have HS := Lib.hid (HST.out (-1) t k ht hk (blkG_none _ _ _ _ _ _) HX.out.symm w5 HW4.out HC4.out)
              clear HST HSK
              go_wp2_with fail
              refine HS.out.mono ?_
              rintro e w6 ⟨b, rfl, hLp⟩
              have HLp := Lib.hid hLp
              clear hLp HS HW4 HC4 v0 v1 a0
              go_wp2_with fail
              go_roundw
              case rel => exact HLp.out
              case measure => have := HCL.out; simp [intOf]; omega
            · have hq1 : ((q : Int) == -1) = false := by rw [beq_eq_false_iff_ne]; omega
              have hq0 : (0 : Int) ≤ q := by omega
              have hq64 : (q : Int) < 64 := by omega
              by_cases hk0 : k = 0
              · have HN := Lib.hid (HSK.out q (.inl hk0) HX.out.symm w5 HW4.out HC4.out)
                have hkz : ¬ ((0 : Int) < k) := by omega
                clear HST HSK HW4 HC4 hk0
                go_wp2_with fail
                go_roundw
                case rel => exact HN.out
                case measure => have := HCL.out; simp [intOf]; omega
              · have hk1 : (0 : Int) < k := by omega
                obtain ⟨e0, e1, e2, e3, e4, e5, e6, e7, _⟩ := HW4.out.grid.eight
                have HA := Lib.hid (fun W => at_any n m M r q W (by omega) (by omega) (HGC.out r (by omega)))
                have hbo := bit_off t q ht (by omega)
                cases hB : (M r).toNat.testBit q
                · rw [hB] at HA
                  have HN0 := Lib.hid (HSK.out q (.inr (.inl hB)) HX.out.symm)
                  clear hB hbo HST HSK
                  go_wp2_with fail
                  refine (HA.out _).mono ?_
                  rintro e w3 ⟨rfl, hb3⟩
                  have HN := Lib.hid (HN0.out w3 (HW4.out.below HOK.out hb3) (HC4.out.trans (Chg.of_below hb3)))
                  clear hb3 HN0 HW4 HC4 e0 e1 e2 e3 e4 e5 e6 e7 v0 a0
                  go_wp2_with fail
                  go_roundw
                  case rel => exact HN.out
                  case measure => have := HCL.out; simp [intOf]; omega
                · rw [hB] at HA
                  cases hT : t.testBit q
                  · rw [hT] at hbo
                    simp only [Bool.not_false] at hbo
                    obtain ⟨_, ht2⟩ := cnt6_put t q ht (by omega) hT
                    have hor := or_nat t q ht (by omega)
                    have hor2 := or_nat2 t q ht (by omega)
                    have hstep := HST.out (q : Int) (t ||| 2 ^ q) (k - 1) ht2 (by omega) (blkG_yes (bM M) C d r t k q (by omega) hB hT) HX.out.symm
                    rw [show ((k - 1 : Nat) : Int) = (k : Int) - 1 by omega] at hstep
                    have HS0 := Lib.hid hstep
                    clear hB hT HST HSK hstep
                    go_wp2_with fail
                    refine (HA.out _).mono ?_
                    rintro e w3 ⟨rfl, hb3⟩
                    have hW5 := (HW4.out.below HOK.out hb3).below HOK.out (Below.refl w3.heap.size w3).drew
                    have HST := Lib.hid (HS0.out w3.drew hW5 ((HC4.out.trans (Chg.of_below hb3)).trans (Chg.of_below (Below.refl w3.heap.size w3).drew)))
                    have v1 := (show Has w3.drew bw _ _ from hW5.wk).cell 0
                    simp only [List.getElem?_cons_zero] at v1
                    have hrw : IntKind.i64.wrap ((r : Int) + 1) = (r : Int) + 1 := IntWalk.i64_in _ (by omega)
                    have hkw : IntKind.i64.wrap ((k : Int) - 1) = (k : Int) - 1 := IntWalk.i64_in _ (by omega)
                    clear hb3 HS0 HW4 HC4 e0 e1 e2 e3 e4 e5 e6 e7 v0 a0 hW5
                    generalize (t ||| 2 ^ q) = t2 at *
                    go_upto_region 14 with fail
                    go_region_with ((go_at_call 127; ((refine (HST.out).mono ?_); rintro e w6 ⟨b, rfl, hLp⟩; have HLp := Lib.hid hLp; clear hLp)))
                    all_goals
                      go_wp2_with fail
                      go_roundw
                      case rel => exact HLp.out
                      case measure => have := HCL.out; simp [intOf]; omega
                  · rw [hT] at hbo
                    simp only [Bool.not_true] at hbo
                    have HN0 := Lib.hid (HSK.out q (.inr (.inr hT)) HX.out.symm)
                    clear hB hT HST HSK
                    go_wp2_with fail
                    refine (HA.out _).mono ?_
                    rintro e w3 ⟨rfl, hb3⟩
                    have HN := Lib.hid (HN0.out w3 (HW4.out.below HOK.out hb3) (HC4.out.trans (Chg.of_below hb3)))
                    clear hb3 HN0 HW4 HC4 e0 e1 e2 e3 e4 e5 e6 e7 v0 a0
                    go_wp2_with fail
                    go_roundw
                    case rel => exact HN.out
                    case measure => have := HCL.out; simp [intOf]; omega
          · obtain rfl : c = C.length := by omega
            have HX : Hid (runV cont j (plcG (bM M) C d r t k C.length).length = runV cont j (plG (bM M) C (d + 1) r t k).length) := Lib.hid (by rw [plcG_full])
            have HE := Lib.hid (show WkEnd n m M V first cap gc cp C b3 b5 bp bc bw foot I cont P r j (plG (bM M) C (d + 1) r t k).length w (.returned (.bool true)) wr from
              ⟨by rw [← HX.out, HB.out], ⟨F, hF, by rw [← HX.out]; exact hW⟩, hC⟩)
            have hc1 : ¬ ((C.length : Int) < C.length) := by omega
            clear hW hC hF hcl
            go_wp2_with fail
            go_ret
            exact HE.out
end Go.Proofs.Ytdimbnkgomfojab
