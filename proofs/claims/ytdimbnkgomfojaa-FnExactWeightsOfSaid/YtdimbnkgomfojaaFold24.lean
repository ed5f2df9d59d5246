import Derived.Test.YtdimbnkgomfojaaFold14
import Derived.Test.YtdimbnkgomfojaaFold18
import Derived.Test.YtdimbnkgomfojaaFold20
import Derived.Test.YtdimbnkgomfojaaFold23
import Derived.Test.YtdimbnkgomfojaaFold4
import Derived.Test.YtdimbnkgomfojaaFold5
import Derived.Test.YtdimbnkgomfojaaFold9

section
namespace Go.Proofs.Ytdimbnkgomfojaa
open Go.RowKit Go.WideShapes

/-- Before which column free cells of a row are. -/
def limP (xs P : List Int) (i : Nat) : Nat := if P.getD i 0 = -1 then lenN xs i else (P.getD i 0).toNat
/-- The free cells of the first rows. -/
def frN (xs P : List Int) : Nat → Nat
  | 0 => 0
  | i + 1 => frN xs P i + cntF (tkn P i) (limP xs P i)
theorem freeW_frN (xs P : List Int) (i : Nat) (hi : i ≤ P.length) : frN xs P i + freeW xs (P.drop i) i (tkn P i) = freeW xs P 0 0 := by
  induction i with
  | zero => simp [frN, tkn]
  | succ i ih =>
    rw [← ih (by omega), List.drop_eq_getElem_cons (by omega : i < P.length), freeW, frN]
    have e : P[i] = P.getD i 0 := by simp [List.getD, show i < P.length by omega]
    rw [e]
    have h1 : tkn P (i + 1) = if P.getD i 0 = -1 then tkn P i else tkn P i ||| 2 ^ (P.getD i 0).toNat := rfl
    have h2 : cntF (tkn P i) (limP xs P i) = if P.getD i 0 = -1 then cntF (tkn P i) (lenN xs i) else cntF (tkn P i) (P.getD i 0).toNat := by
      unfold limP
      split <;> rfl
    rw [h1, h2]
    omega
theorem freeW_all (xs P : List Int) : freeW xs P 0 0 = frN xs P P.length := by
  have := freeW_frN xs P P.length (Nat.le_refl _)
  rw [List.drop_length] at this
  simpa [freeW] using this.symm

/-- The columns before c that are not in t, as a set. -/
def lft (t c : Nat) : Nat := (2 ^ c - 1) &&& (63 ^^^ t)
theorem lft_facts : ∀ t : Fin 64, ∀ m : Fin 7, lft t m < 64 ∧ pop (lft t m : Nat) = cntF t m ∧ bits .andNot .i64 (pw ((m : Nat) : Int) - 1) ((t : Nat) : Int) = ((lft t m : Nat) : Int) ∧
    ∀ c : Fin 7, (c : Nat) ≤ m → bits .and .i64 ((lft t m : Nat) : Int) (pw ((c : Nat) : Int) - 1) = ((lft t c : Nat) : Int) := by decide +kernel
theorem lft_at (t m : Nat) (ht : t < 64) (hm : m ≤ 6) : lft t m < 64 ∧ pop (lft t m : Nat) = cntF t m ∧ bits .andNot .i64 (pw (m : Int) - 1) (t : Int) = ((lft t m : Nat) : Int) ∧
    ∀ c : Nat, c ≤ m → bits .and .i64 ((lft t m : Nat) : Int) (pw (c : Int) - 1) = ((lft t c : Nat) : Int) := by
  obtain ⟨a, b, c, d⟩ := lft_facts ⟨t, ht⟩ ⟨m, by omega⟩
  exact ⟨a, b, c, fun k hk => d ⟨k, by omega⟩ hk⟩
theorem frN_le (xs P : List Int) (h : ∀ i, limP xs P i ≤ 6) (i : Nat) : frN xs P i ≤ 6 * i := by
  induction i with
  | zero => simp [frN]
  | succ i ih =>
    have := cntF_le (tkn P i) (limP xs P i)
    have := h i
    rw [frN]
    omega

set_option maxRecDepth 100000 in
set_option maxHeartbeats 6400000 in
theorem freeCells_any (n : Nat) (xs P : List Int) (M F : Nat → Int) (w : World) (hn : n ≤ 6) (hM : ∀ k, M k = xs.getD k 0) (hx : ∀ k, 0 ≤ xs.getD k 0 ∧ xs.getD k 0 ≤ 6) (hF : ∀ k, k < n → F k = P.getD k 0)
    (hP : ∀ i, i < n → P.getD i 0 = -1 ∨ (0 ≤ P.getD i 0 ∧ P.getD i 0 < xs.getD i 0)) (ht : ∀ i, i ≤ n → tkn P i < 64) :
    Calls Try.prog 125 #[sv n M, pv6 F] w fun e w' => e = .returned (.int .i64 (frN xs P n : Nat)) ∧ Below w.heap.size w w' := by
  have L0 := ((Law.start w).has (sl n M) 88).has (pl6 F) 70
  simp only [World.size_alloc] at L0
  rw [show (w.alloc (.cells (sl n M).toArray 88)).alloc (.cells (pl6 F).toArray 70) = (w.alloc (.cells #[.int .i64 n, .int .i64 (M 0), .int .i64 (M 1), .int .i64 (M 2), .int .i64 (M 3), .int .i64 (M 4), .int .i64 (M 5)] 88)).alloc (.cells #[.int .i64 (F 0), .int .i64 (F 1), .int .i64 (F 2), .int .i64 (F 3), .int .i64 (F 4), .int .i64 (F 5)] 70) from rfl] at L0
  have hlim : ∀ i, i < n → limP xs P i ≤ 6 := fun i hi => by
    unfold limP lenN
    have := hx i
    rcases hP i hi with h | h
    · rw [if_pos h]; omega
    · rw [if_neg (by omega)]; omega
  have hfr : ∀ i, i ≤ n → frN xs P i ≤ 6 * i := fun i hi => by
    induction i with
    | zero => simp [frN]
    | succ i ih =>
      have := ih (by omega)
      have := cntF_le (tkn P i) (limP xs P i)
      have := hlim i (by omega)
      rw [frN]
      omega
  have HFR := Lib.hid hfr
  have HX := Lib.hid hx
  have HM := Lib.hid hM
  have HF := Lib.hid hF
  have HP := Lib.hid hP
  have HT := Lib.hid ht
  have HL := Lib.hid L0
  clear L0 hx hM hF hP ht hlim hfr
  go_enter Try.func125, Try.ntmps125
  go_upto_region 2 with fail
  generalize (w.alloc _).alloc _ = w5 at *
  have ⟨e0, _⟩ := HL.out.tl.ownHas.seven
  go_wp2_with fail
  clear e0
  go_loopw [5, 6, 11] (fun f t i wr => ∃ k : Nat, k ≤ n ∧ i = .int .i64 k ∧ f = .int .i64 (frN xs P k : Nat) ∧ t = .int .i64 (tkn P k : Nat) ∧ Law w [tHas (w.heap.size + 1) (pl6 F) 70, tHas w.heap.size (sl n M) 88] wr) (fun _ _ i _ => n - (intOf i).toNat)
  case atStart => exact ⟨0, Nat.zero_le _, rfl, rfl, rfl, HL.out⟩
  case round =>
    clear HL
    obtain ⟨k, hk, rfl, rfl, rfl, L⟩ := hrel
    by_cases hlt : k < n
    · have hcx := L.tl.ownHas.cell (1 + k)
      rw [sl_get _ _ k (by omega), HM.out] at hcx
      have hcp := L.ownHas.cell k
      rw [pl6_get _ k (by omega), HF.out k hlt] at hcp
      have hy := HX.out k
      have ht := HT.out k hk
      have hp := HP.out k hlt
      have hf0 := HFR.out k hk
      have hf1 := HFR.out (k + 1) hlt
      obtain ⟨m, hm⟩ := Int.eq_ofNat_of_zero_le hy.1
      have hlen : lenN xs k = m := by unfold lenN; rw [hm]; simp
      have hlimd : limP xs P k = if P.getD k 0 = -1 then lenN xs k else (P.getD k 0).toNat := rfl
      have htk : tkn P (k + 1) = if P.getD k 0 = -1 then tkn P k else tkn P k ||| 2 ^ (P.getD k 0).toNat := rfl
      have hfs : frN xs P (k + 1) = frN xs P k + cntF (tkn P k) (limP xs P k) := rfl
      rw [hlen] at hlimd
      rw [hm] at hcx hy hp
      obtain ⟨a1, a2, a3, a4⟩ := lft_at (tkn P k) m ht (by omega)
      have HC1 := Lib.hid (fun W => firstCols_any (m : Int) W (by omega))
      have hk0 : (0 : Int) ≤ k := by omega
      have hk6 : (k : Int) < 6 := by omega
      have HL := Lib.hid L
      clear L
      generalize hx0 : P.getD k 0 = x at *
      generalize tkn P k = t at *
      rcases hp with hx1 | ⟨hx1, hx2⟩
      · subst hx1
        rw [if_pos rfl] at hlimd htk
        rw [hlimd] at hfs
        have HO := Lib.hid (fun W => ones_any (lft t m) W a1)
        rw [a2] at HO
        have HFS := Lib.hid hfs
        have HTK := Lib.hid htk
        have hw : wrap64 ((frN xs P k : Int) + (cntF t m : Int)) = ((frN xs P k : Int) + (cntF t m : Int)) := IntWalk.wrap64_in _ (by omega)
        have hlu : IntKind.u64.wrap ((lft t m : Nat) : Int) = ((lft t m : Nat) : Int) := by rw [IntKind.wrap_u64]; omega
        clear a4 hfs htk hlimd hx0 hlen
        generalize frN xs P k = f at *
        generalize cntF t m = u at *
        generalize lft t m = l at *
        go_wp2_with fail
        refine (HC1.out _).mono ?_
        rintro e w' ⟨rfl, hww⟩
        subst hww
        go_wp2_with fail
        refine (HO.out _).mono ?_
        rintro e w'' ⟨rfl, hww⟩
        subst hww
        go_wp2_with fail
        go_roundw
        case rel => exact ⟨k + 1, by omega, by go_num, by rw [hw, HFS.out]; push_cast; rfl, by rw [HTK.out], HL.out⟩
        case measure => simp [intOf]; omega
      · obtain ⟨c, rfl⟩ := Int.eq_ofNat_of_zero_le hx1
        have hcm : c < m := by omega
        rw [if_neg (by omega), Int.toNat_natCast] at hlimd htk
        rw [hlimd] at hfs
        obtain ⟨b1, b2, _, _⟩ := lft_at t c ht (by omega)
        have a5 := a4 c (by omega)
        have HC2 := Lib.hid (fun W => firstCols_any (c : Int) W (by omega))
        have HO := Lib.hid (fun W => ones_any (lft t c) W b1)
        rw [b2] at HO
        have HFS := Lib.hid hfs
        have HTK := Lib.hid htk
        have hw : wrap64 ((frN xs P k : Int) + (cntF t c : Int)) = ((frN xs P k : Int) + (cntF t c : Int)) := IntWalk.wrap64_in _ (by have := cntF_le t c; omega)
        have hlu : IntKind.u64.wrap ((lft t c : Nat) : Int) = ((lft t c : Nat) : Int) := by rw [IntKind.wrap_u64]; omega
        have hor := or_nat t c ht (by omega)
        have hor2 := or_nat2 t c ht (by omega)
        have hc64 : (c : Int) < 64 := by omega
        have hne : ((c : Int) != -1) = true := by simp
        clear a4 hfs htk hlimd hx0 hlen a2 b2
        generalize frN xs P k = f at *
        generalize cntF t c = u at *
        generalize lft t m = l at *
        generalize lft t c = l2 at *
        go_wp2_with fail
        refine (HC1.out _).mono ?_
        rintro e w' ⟨rfl, hww⟩
        subst hww
        go_wp2_with fail
        refine (HC2.out _).mono ?_
        rintro e w' ⟨rfl, hww⟩
        subst hww
        go_wp2_with fail
        refine (HO.out _).mono ?_
        rintro e w'' ⟨rfl, hww⟩
        subst hww
        go_wp2_with fail
        go_roundw
        case rel => exact ⟨k + 1, by omega, by go_num, by rw [hw, HFS.out]; push_cast; rfl, by rw [HTK.out], HL.out⟩
        case measure => simp [intOf]; omega
    · obtain rfl : k = n := by omega
      have HB := Lib.hid L.below
      clear L
      go_wp2_with fail
      go_ret
      exact ⟨rfl, HB.out⟩
end Go.Proofs.Ytdimbnkgomfojaa
end

section
namespace Go.Proofs.Ytdimbnkgomfojaa
open Go.RowKit Go.WideShapes

set_option maxRecDepth 100000 in
set_option maxHeartbeats 6400000 in
theorem walkCh_any (n m k : Nat) (M : Nat → Int) (V : FuncId) (first cap : Array Value) (gc cp : Nat) (C : List Int) (foot : Nat → Nat → Prop) (I : Nat → Nat → World → Prop) (cont : Nat → Bool) (w : World)
    (hn : n ≤ 6) (hm : m ≤ 6) (hk : k ≤ 6) (hgc : ∀ k, k < 6 → 0 ≤ M k ∧ M k < 64) (hC : choiceOk m C)
    (hfoot : ∀ bp b, w.heap.size ≤ bp → foot bp b → (b < w.heap.size ∧ b ≠ gc) ∨ bp + 1 < b) (hkeep : ∀ bp j w1 w2, w.heap.size ≤ bp → Chg (fun b => b = bp) w1 w2 → I bp j w1 → I bp j w2)
    (hcall : ∀ (args : Array Value) (w : World), (callFunc V args).run Try.prog w = .ok (.enter V args) w)
    (hvis : ∀ bp, w.heap.size ≤ bp → ∀ j P, (plG (bM M) C n 0 0 k)[j]? = some P → ∀ w, I bp j w → Calls Try.prog V (first.push (pv6 (plF P n)) ++ cap) w fun e w' => e = .returned (.bool (cont j)) ∧ I bp (j + 1) w' ∧ Chg (foot bp) w w')
    (hO : Own w 0 (.slice (some ⟨gc, 0, none⟩) C.length cp) C)
    (hI : ∀ bp w', w.heap.size ≤ bp → bp + 1 < w'.heap.size → Below w.heap.size w w' → I bp 0 w') :
    Calls Try.prog 107 #[gv n m M, .int .i64 k, .slice (some ⟨gc, 0, none⟩) C.length cp, .func (.func V) first cap] w fun e w' => e = .returned (.tuple #[]) ∧ ∃ bp, w.heap.size ≤ bp ∧ I bp (runV cont 0 (plG (bM M) C n 0 0 k).length).1 w' ∧ Chg (fun b => b < w.heap.size ∧ foot bp b) w w' := by
  have L0 := (((Law.start w).has (gl n m M) 59).has [.slice (some ⟨gc, 0, none⟩) C.length cp] 22).has [.func (.func V) first cap] 72
  simp only [World.size_alloc] at L0
  have HL := Lib.hid L0
  have HV := Lib.hid hvis
  have HKP := Lib.hid hkeep
  have HFT := Lib.hid hfoot
  have HIW := Lib.hid hI
  have HGC := Lib.hid hgc
  have HCH := Lib.hid hC
  have HO := Lib.hid hO
  have HGL := Lib.hid (own_lt hO gc rfl).2
  clear L0 hvis hkeep hfoot hI hgc hC hO
  go_enter Try.func107, Try.ntmps107
  go_wp2_with fail
  refine (noPlaces_any _).mono ?_
  rintro e w1 ⟨rfl, hb⟩
  have L1 := ((HL.out.kept hb).has (pl6 (fun _ => -1)) 70).has [.func (.func 130) #[] #[.pointer (some ⟨w.heap.size, 0, none⟩), .pointer (some ⟨w.heap.size + 1 + 1, 0, none⟩), .pointer (some ⟨w1.heap.size, 0, none⟩), .pointer (some ⟨w.heap.size + 1, 0, none⟩), .pointer (some ⟨w1.heap.size + 1, 0, none⟩)]] 73
  simp only [World.size_alloc] at L1
  rw [show (w1.alloc (.cells (pl6 (fun _ => -1)).toArray 70)) = (w1.alloc (.cells #[.int .i64 (-1), .int .i64 (-1), .int .i64 (-1), .int .i64 (-1), .int .i64 (-1), .int .i64 (-1)] 70)) from rfl] at L1
  have hz1 := hb.size
  simp only [World.size_alloc] at hz1
  have L2 : Law w [tHas (w1.heap.size + 1) [.func (.func 130) #[] #[.pointer (some ⟨w.heap.size, 0, none⟩), .pointer (some ⟨w.heap.size + 1 + 1, 0, none⟩), .pointer (some ⟨w1.heap.size, 0, none⟩), .pointer (some ⟨w.heap.size + 1, 0, none⟩), .pointer (some ⟨w1.heap.size + 1, 0, none⟩)]] 73, tHas w1.heap.size (pl6 (fun _ => -1)) 70, tHas (w.heap.size + 1 + 1) [.func (.func V) first cap] 72, tHas (w.heap.size + 1) [.slice (some ⟨gc, 0, none⟩) C.length cp] 22, tHas w.heap.size (gl n m M) 59] ((w1.alloc (.cells #[.int .i64 (-1), .int .i64 (-1), .int .i64 (-1), .int .i64 (-1), .int .i64 (-1), .int .i64 (-1)] 70)).alloc (.cells #[.func (.func 130) #[] #[.pointer (some ⟨w.heap.size, 0, none⟩), .pointer (some ⟨w.heap.size + 1 + 1, 0, none⟩), .pointer (some ⟨w1.heap.size, 0, none⟩), .pointer (some ⟨w.heap.size + 1, 0, none⟩), .pointer (some ⟨w1.heap.size + 1, 0, none⟩)]] 73)) := L1
  have HL1 := Lib.hid L2
  clear L1 L2 hb HL
  go_upto_region 4 with fail
  generalize (w1.alloc (.cells #[.int .i64 (-1), .int .i64 (-1), .int .i64 (-1), .int .i64 (-1), .int .i64 (-1), .int .i64 (-1)] 70)).alloc (.cells #[.func (.func 130) #[] #[.pointer (some ⟨w.heap.size, 0, none⟩), .pointer (some ⟨w.heap.size + 1 + 1, 0, none⟩), .pointer (some ⟨w1.heap.size, 0, none⟩), .pointer (some ⟨w.heap.size + 1, 0, none⟩), .pointer (some ⟨w1.heap.size + 1, 0, none⟩)]] 73) = w5 at *
  have v0 := HL1.out.ownHas.cell 0
  simp only [List.getElem?_cons_zero] at v0
  have hgl := HGL.out
  have hok : WkOk n V first cap gc w.heap.size (w.heap.size + 1 + 1) w1.heap.size (w.heap.size + 1) (w1.heap.size + 1) (foot w1.heap.size) (I w1.heap.size) cont (plG (bM M) C n 0 0 k) :=
    ⟨by omega, by omega, by omega, by omega, by omega, fun h => by have := HFT.out _ _ (by omega) h; omega, fun h => by have := HFT.out _ _ (by omega) h; omega, fun h => by have := HFT.out _ _ (by omega) h; omega, fun h => by have := HFT.out _ _ (by omega) h; omega, fun h => by have := HFT.out _ _ (by omega) h; omega, fun h => by have := HFT.out _ _ (by omega) h; omega,
      fun j a b hc hi => HKP.out w1.heap.size j a b (by omega) hc hi, hcall, HV.out w1.heap.size (by omega)⟩
  have hwk : Wk n m M V first cap gc cp C w.heap.size (w.heap.size + 1 + 1) w1.heap.size (w.heap.size + 1) (w1.heap.size + 1) (I w1.heap.size) (fun _ => -1) 0 w5 :=
    ⟨HL1.out.tl.tl.tl.tl.ownHas, HL1.out.tl.tl.ownHas, HL1.out.tl.ownHas, HL1.out.tl.tl.tl.ownHas, HO.out.kept HL1.out.below, HL1.out.ownHas, HIW.out w1.heap.size w5 (by omega) HL1.out.ownHas.lt HL1.out.below⟩
  have hr := walk1_any n m M V first cap gc cp C w.heap.size (w.heap.size + 1 + 1) w1.heap.size (w.heap.size + 1) (w1.heap.size + 1) (foot w1.heap.size) (I w1.heap.size) cont (plG (bM M) C n 0 0 k) hn hm HGC.out HCH.out hok n 0 0 k [] (by omega) (by omega) hk rfl 0 [] (by simp) (fun _ => -1) w5 (okF_nil n) hwk
  rw [show ((0 : Nat) : Int) = 0 from rfl] at hr
  have HR := Lib.hid hr
  have HB := Lib.hid HL1.out.below
  clear hr hwk hok HL1 hcall hgl
  go_wp2_with fail
  refine HR.out.mono ?_
  rintro e w6 ⟨rfl, ⟨F, _, hW⟩, hC⟩
  rw [Nat.zero_add] at hW
  have HE := Lib.hid (show ∃ bp, w.heap.size ≤ bp ∧ I bp (runV cont 0 (plG (bM M) C n 0 0 k).length).1 w6 ∧ Chg (fun b => b < w.heap.size ∧ foot bp b) w w6 from
    ⟨w1.heap.size, by omega, hW.inv, hC.os.trans HB.out.os, hC.tape.trans HB.out.tape, hC.output.trans HB.out.output, Nat.le_trans HB.out.size hC.size, fun b hb hf => (hC.block b (Nat.lt_of_lt_of_le hb HB.out.size) (fun h => h.elim (fun h2 => by omega) (fun h3 => hf ⟨hb, h3⟩))).trans (HB.out.block b hb)⟩)
  clear hW hC HR
  go_wp2_with fail
  go_end0
  exact ⟨rfl, HE.out⟩
end Go.Proofs.Ytdimbnkgomfojaa
end

section
namespace Go.Proofs.Ytdimbnkgomfojaa
open Go.RowKit Go.WideShapes

def idx0 (n : Nat) : List Int := lstI n (fun q => (q : Int))
def uptI (k q : Nat) : Int := if q < k then (q : Int) else 0

set_option maxRecDepth 100000 in
set_option maxHeartbeats 1600000 in
theorem indices_any (n : Nat) (w : World) (hn : n ≤ 1048576) :
    Calls Try.prog 80 #[.int .i64 n] w fun e w' => ∃ g, e = .returned (.slice (some ⟨g, 0, none⟩) n n) ∧ Own w' w.heap.size (.slice (some ⟨g, 0, none⟩) n n) (idx0 n) ∧ Below w.heap.size w w' := by
  have hmk := run_make_row' (P := Try.prog) 22 3 (.int .i64 0) 8 Try.underlying22 Try.infoI rfl .i64 .i64 n (by omega) (by omega)
  go_enter Try.func80, Try.ntmps80
  go_upto_region 2 with fail
  have L2 := (Law.start w).own (below_new _) (own_made w n _ w.heap.size rfl (Nat.le_refl _) (by omega))
  rw [lstI_zero, lstI_congr n (fun _ => 0) (uptI 0) (fun k _ => by unfold uptI; rw [if_neg (by omega)])] at L2
  have HL2 := Lib.hid L2
  clear L2 hmk
  generalize w.alloc (.cells (madeCells #[.int .i64 0] n) 3) = w6 at *
  go_wp2_with fail
  go_loopw [9] (fun i wr => ∃ k : Nat, k ≤ n ∧ i = .int .i64 k ∧ Law w [tOwn (.slice (some ⟨w.heap.size, 0, none⟩) n n) (lstI n (uptI k))] wr) (fun i _ => n - (intOf i).toNat)
  case atStart => exact ⟨0, Nat.zero_le _, rfl, HL2.out⟩
  case round =>
    clear HL2
    obtain ⟨k, hk, rfl, L⟩ := hrel
    by_cases hlt : k < n
    · have o := L.ownInts
      have d1 := Own.cell (by rw [lstI_len]; exact o) k (by rw [lstI_len]; exact hlt)
      have d2 := Own.free (by rw [lstI_len]; exact o) k
      have hS := Law.store (ts := []) L (lstI_len _ _) k (k : Int)
      rw [lstI_set n _ (uptI (k + 1)) k _ (by unfold uptI; rw [if_pos (by omega)]) (fun q _ hq => by
        unfold uptI
        by_cases h : q < k
        · rw [if_pos h, if_pos (by omega)]
        · rw [if_neg h, if_neg (by omega)])] at hS
      have HS := Lib.hid hS
      generalize (lstI n (uptI k)).getD k 0 = z at *
      clear L hS o
      go_wp2_with fail
      go_roundw
      case rel => exact ⟨k + 1, by omega, by go_num, HS.out⟩
      case measure => simp [intOf]; omega
    · obtain rfl : k = n := by omega
      have HF := Lib.hid (show lstI k (uptI k) = idx0 k from lstI_congr k _ _ (fun q hq => by unfold uptI; rw [if_pos hq]))
      have HL := Lib.hid L
      clear L
      go_wp2_with fail
      go_ret
      exact ⟨_, rfl, by rw [← HF.out]; exact HL.out.ownLo, HL.out.below⟩
end Go.Proofs.Ytdimbnkgomfojaa
end
