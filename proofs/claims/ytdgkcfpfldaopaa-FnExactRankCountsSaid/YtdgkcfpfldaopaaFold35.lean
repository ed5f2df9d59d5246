import Derived.Test.YtdgkcfpfldaopaaFold19
import Derived.Test.YtdgkcfpfldaopaaFold23
import Derived.Test.YtdgkcfpfldaopaaFold6
import Derived.Laws.Rows
import Derived.Test.YtdgkcfpfldaopaaFold29
import Derived.Test.YtdgkcfpfldaopaaFold33
import Derived.Test.YtdgkcfpfldaopaaFold34

section
namespace Go.Proofs.Ytdgkcfpfldaopaa
open Go.RowKit Go.WideShapes

theorem firstCols_any (x : Int) (w : World) (hx : 0 ≤ x ∧ x ≤ 6) : Calls Try.prog 99 #[.int .i64 x] w fun e w' => e = .returned (.int .i64 (pw x - 1)) ∧ w' = w := by
  obtain ⟨hp1, hp2, hp3, hp4⟩ := pw_bd hx
  have h0 : 0 ≤ x := hx.1
  have h1 : x < 64 := by omega
  clear hx
  go_enter Try.func99, Try.ntmps99
  go_wp2_with fail
  go_ret
  exact ⟨rfl, rfl⟩

/-- The masks of rows behind k rounds. -/
def mskG (M : Nat → Int) (k q : Nat) : Int := if q < k then pw (M q) - 1 else 0

set_option maxRecDepth 100000 in
set_option maxHeartbeats 3200000 in
theorem serGrid_any (n : Nat) (M : Nat → Int) (w : World) (hn : n ≤ 6) (hM : ∀ k, 0 ≤ M k ∧ M k ≤ 6) :
    Calls Try.prog 56 #[sv n M] w fun e w' => e = .returned (gv n n (mskG M n)) ∧ Below w.heap.size w w' := by
  have L0 := (((Law.start w).has (sl n M) 59).has (gl 0 0 (fun _ => 0)) 63).has (gl n n (mskG M 0)) 63
  simp only [World.size_alloc] at L0
  have HL := Lib.hid L0
  have HY := Lib.hid hM
  clear L0 hM
  go_enter Try.func56, Try.ntmps56
  go_upto_region 2 with fail
  rw [show ((w.alloc (.cells (sl n M).toArray 59)).alloc (.cells (gl 0 0 (fun _ => 0)).toArray 63)).alloc (.cells (gl n n (mskG M 0)).toArray 63) = ((w.alloc (.cells #[.int .i64 n, .int .i64 (M 0), .int .i64 (M 1), .int .i64 (M 2), .int .i64 (M 3), .int .i64 (M 4), .int .i64 (M 5)] 59)).alloc (.cells #[.int .i64 0, .int .i64 0, .int .i64 0, .int .i64 0, .int .i64 0, .int .i64 0, .int .i64 0, .int .i64 0] 63)).alloc (.cells #[.int .i64 n, .int .i64 n, .int .i64 0, .int .i64 0, .int .i64 0, .int .i64 0, .int .i64 0, .int .i64 0] 63) from rfl] at HL
  generalize ((w.alloc _).alloc _).alloc _ = w6 at *
  have ⟨e0, _⟩ := HL.out.tl.tl.ownHas.seven
  go_wp2_with fail
  clear e0
  go_loopw [12] (fun i wr => ∃ k : Nat, k ≤ n ∧ i = .int .i64 k ∧ Law w [tHas (w.heap.size + 1 + 1) (gl n n (mskG M k)) 63, tHas (w.heap.size + 1) (gl 0 0 (fun _ => 0)) 63, tHas w.heap.size (sl n M) 59] wr) (fun i _ => n - (intOf i).toNat)
  case atStart => exact ⟨0, Nat.zero_le _, rfl, HL.out⟩
  case round =>
    clear HL
    obtain ⟨k, hk, rfl, L⟩ := hrel
    obtain ⟨wo, rfl⟩ : ∃ wo : World, wo = wr := ⟨_, rfl⟩
    by_cases hlt : k < n
    · have hcx := L.tl.tl.ownHas.cell (1 + k)
      rw [sl_get _ _ k (by omega)] at hcx
      have hcz := L.ownHas.cell (2 + k)
      rw [gl_get _ _ _ k (by omega)] at hcz
      have hfz := L.ownHas.free (2 + k)
      have hy := HY.out k
      have HF := Lib.hid (fun W => firstCols_any (M k) W hy)
      have hS := (Law.setHas (ts := []) L (2 + k) (.int .i64 (pw (M k) - 1)))
      rw [gl_set _ _ (mskG M k) (mskG M (k + 1)) k (by omega) _ (by unfold mskG; rw [if_pos (by omega)]) (fun q hq => by
        unfold mskG
        by_cases h : q < k
        · rw [if_pos h, if_pos (by omega)]
        · rw [if_neg h, if_neg (by omega)])] at hS
      have HS := Lib.hid hS
      generalize mskG M k k = u at *
      generalize M k = x at *
      clear L hS hy
      go_wp2_with fail
      refine (HF.out _).mono ?_
      rintro e w' ⟨rfl, hww⟩
      subst hww
      go_wp2_with fail
      go_roundw
      case rel => exact ⟨k + 1, by omega, by go_num, HS.out⟩
      case measure => simp [intOf]; omega
    · obtain rfl : k = n := by omega
      obtain ⟨c0, c1, c2, c3, c4, c5, c6, c7, _⟩ := L.ownHas.eight
      obtain ⟨f0, f1, f2, f3, f4, f5, f6, f7, ff⟩ := L.tl.ownHas.eight
      have hrow : wo.heap[w.heap.size + 1 + 1]? = some (.cells #[.int .i64 k, .int .i64 k, .int .i64 (mskG M k 0), .int .i64 (mskG M k 1), .int .i64 (mskG M k 2), .int .i64 (mskG M k 3), .int .i64 (mskG M k 4), .int .i64 (mskG M k 5)] 63 (0, 0)) := L.ownHas.row
      have HB := Lib.hid L.below
      clear L hlt
      go_wp2_with (refine wpList_load_row rfl 63 _ rfl _ rfl _ _ _ _ hrow Try.underlying63 rfl (by kernel_rfl) ?_)
      refine bodyPost_ret (v := gv k k (mskG M k)) (by simp [results, Try.results56, go_sem, f0, f1, f2, f3, f4, f5, f6, f7]) rfl ⟨rfl, ?_⟩
      have h2 := HB.out
      repeat (refine Below.setCell ?_ (by simp <;> omega) _)
      exact h2
end Go.Proofs.Ytdgkcfpfldaopaa
end

section
namespace Go.Proofs.Ytdgkcfpfldaopaa
open Go.RowKit Go.WideShapes

/-- Before which column free cells of a row are. -/
def limP (xs P : List Int) (i : Nat) : Nat := if P.getD i 0 = -1 then lenN xs i else (P.getD i 0).toNat
/-- The free cells of the first rows. -/
def frN (xs P : List Int) : Nat → Nat
  | 0 => 0
  | i + 1 => frN xs P i + cntF (tkn P i) (limP xs P i)
theorem freeW_frN (xs P : List Int) (i : Nat) (hi : i ≤ P.length) : frN xs P i + freeW xs (P.drop i) i (tkn P i) = freeW xs P 0 0 := by
  induction i with
  | zero => simp [frN, tkn]
  | succ i ih =>
    rw [← ih (by omega), List.drop_eq_getElem_cons (by omega : i < P.length), freeW, frN]
    have e : P[i] = P.getD i 0 := by simp [List.getD, show i < P.length by omega]
    rw [e]
    have h1 : tkn P (i + 1) = if P.getD i 0 = -1 then tkn P i else tkn P i ||| 2 ^ (P.getD i 0).toNat := rfl
    have h2 : cntF (tkn P i) (limP xs P i) = if P.getD i 0 = -1 then cntF (tkn P i) (lenN xs i) else cntF (tkn P i) (P.getD i 0).toNat := by
      unfold limP
      split <;> rfl
    rw [h1, h2]
    omega
theorem freeW_all (xs P : List Int) : freeW xs P 0 0 = frN xs P P.length := by
  have := freeW_frN xs P P.length (Nat.le_refl _)
  rw [List.drop_length] at this
  simpa [freeW] using this.symm

/-- The columns before c that are not in t, as a set. -/
def lft (t c : Nat) : Nat := (2 ^ c - 1) &&& (63 ^^^ t)
theorem lft_facts : ∀ t : Fin 64, ∀ m : Fin 7, lft t m < 64 ∧ pop (lft t m : Nat) = cntF t m ∧ bits .andNot .i64 (pw ((m : Nat) : Int) - 1) ((t : Nat) : Int) = ((lft t m : Nat) : Int) ∧
    ∀ c : Fin 7, (c : Nat) ≤ m → bits .and .i64 ((lft t m : Nat) : Int) (pw ((c : Nat) : Int) - 1) = ((lft t c : Nat) : Int) := by decide +kernel
theorem lft_at (t m : Nat) (ht : t < 64) (hm : m ≤ 6) : lft t m < 64 ∧ pop (lft t m : Nat) = cntF t m ∧ bits .andNot .i64 (pw (m : Int) - 1) (t : Int) = ((lft t m : Nat) : Int) ∧
    ∀ c : Nat, c ≤ m → bits .and .i64 ((lft t m : Nat) : Int) (pw (c : Int) - 1) = ((lft t c : Nat) : Int) := by
  obtain ⟨a, b, c, d⟩ := lft_facts ⟨t, ht⟩ ⟨m, by omega⟩
  exact ⟨a, b, c, fun k hk => d ⟨k, by omega⟩ hk⟩
theorem frN_le (xs P : List Int) (h : ∀ i, limP xs P i ≤ 6) (i : Nat) : frN xs P i ≤ 6 * i := by
  induction i with
  | zero => simp [frN]
  | succ i ih =>
    have := cntF_le (tkn P i) (limP xs P i)
    have := h i
    rw [frN]
    omega

set_option maxRecDepth 100000 in
set_option maxHeartbeats 6400000 in
theorem freeCells_any (n : Nat) (xs P : List Int) (M F : Nat → Int) (w : World) (hn : n ≤ 6) (hM : ∀ k, M k = xs.getD k 0) (hx : ∀ k, 0 ≤ xs.getD k 0 ∧ xs.getD k 0 ≤ 6) (hF : ∀ k, k < n → F k = P.getD k 0)
    (hP : ∀ i, i < n → P.getD i 0 = -1 ∨ (0 ≤ P.getD i 0 ∧ P.getD i 0 < xs.getD i 0)) (ht : ∀ i, i ≤ n → tkn P i < 64) :
    Calls Try.prog 69 #[sv n M, pv6 F] w fun e w' => e = .returned (.int .i64 (frN xs P n : Nat)) ∧ Below w.heap.size w w' := by
  have L0 := ((Law.start w).has (sl n M) 59).has (pl6 F) 75
  simp only [World.size_alloc] at L0
  rw [show (w.alloc (.cells (sl n M).toArray 59)).alloc (.cells (pl6 F).toArray 75) = (w.alloc (.cells #[.int .i64 n, .int .i64 (M 0), .int .i64 (M 1), .int .i64 (M 2), .int .i64 (M 3), .int .i64 (M 4), .int .i64 (M 5)] 59)).alloc (.cells #[.int .i64 (F 0), .int .i64 (F 1), .int .i64 (F 2), .int .i64 (F 3), .int .i64 (F 4), .int .i64 (F 5)] 75) from rfl] at L0
  have hlim : ∀ i, i < n → limP xs P i ≤ 6 := fun i hi => by
    unfold limP lenN
    have := hx i
    rcases hP i hi with h | h
    · rw [if_pos h]; omega
    · rw [if_neg (by omega)]; omega
  have hfr : ∀ i, i ≤ n → frN xs P i ≤ 6 * i := fun i hi => by
    induction i with
    | zero => simp [frN]
    | succ i ih =>
      have := ih (by omega)
      have := cntF_le (tkn P i) (limP xs P i)
      have := hlim i (by omega)
      rw [frN]
      omega
  have HFR := Lib.hid hfr
  have HX := Lib.hid hx
  have HM := Lib.hid hM
  have HF := Lib.hid hF
  have HP := Lib.hid hP
  have HT := Lib.hid ht
  have HL := Lib.hid L0
  clear L0 hx hM hF hP ht hlim hfr
  go_enter Try.func69, Try.ntmps69
  go_upto_region 2 with fail
  generalize (w.alloc _).alloc _ = w5 at *
  have ⟨e0, _⟩ := HL.out.tl.ownHas.seven
  go_wp2_with fail
  clear e0
  go_loopw [5, 6, 11] (fun f t i wr => ∃ k : Nat, k ≤ n ∧ i = .int .i64 k ∧ f = .int .i64 (frN xs P k : Nat) ∧ t = .int .i64 (tkn P k : Nat) ∧ Law w [tHas (w.heap.size + 1) (pl6 F) 75, tHas w.heap.size (sl n M) 59] wr) (fun _ _ i _ => n - (intOf i).toNat)
  case atStart => exact ⟨0, Nat.zero_le _, rfl, rfl, rfl, HL.out⟩
  case round =>
    clear HL
    obtain ⟨k, hk, rfl, rfl, rfl, L⟩ := hrel
    by_cases hlt : k < n
    · have hcx := L.tl.ownHas.cell (1 + k)
      rw [sl_get _ _ k (by omega), HM.out] at hcx
      have hcp := L.ownHas.cell k
      rw [pl6_get _ k (by omega), HF.out k hlt] at hcp
      have hy := HX.out k
      have ht := HT.out k hk
      have hp := HP.out k hlt
      have hf0 := HFR.out k hk
      have hf1 := HFR.out (k + 1) hlt
      obtain ⟨m, hm⟩ := Int.eq_ofNat_of_zero_le hy.1
      have hlen : lenN xs k = m := by unfold lenN; rw [hm]; simp
      have hlimd : limP xs P k = if P.getD k 0 = -1 then lenN xs k else (P.getD k 0).toNat := rfl
      have htk : tkn P (k + 1) = if P.getD k 0 = -1 then tkn P k else tkn P k ||| 2 ^ (P.getD k 0).toNat := rfl
      have hfs : frN xs P (k + 1) = frN xs P k + cntF (tkn P k) (limP xs P k) := rfl
      rw [hlen] at hlimd
      rw [hm] at hcx hy hp
      obtain ⟨a1, a2, a3, a4⟩ := lft_at (tkn P k) m ht (by omega)
      have HC1 := Lib.hid (fun W => firstCols_any (m : Int) W (by omega))
      have hk0 : (0 : Int) ≤ k := by omega
      have hk6 : (k : Int) < 6 := by omega
      have HL := Lib.hid L
      clear L
      generalize hx0 : P.getD k 0 = x at *
      generalize tkn P k = t at *
      rcases hp with hx1 | ⟨hx1, hx2⟩
      · subst hx1
        rw [if_pos rfl] at hlimd htk
        rw [hlimd] at hfs
        have HO := Lib.hid (fun W => ones_any (lft t m) W a1)
        rw [a2] at HO
        have HFS := Lib.hid hfs
        have HTK := Lib.hid htk
        have hw : wrap64 ((frN xs P k : Int) + (cntF t m : Int)) = ((frN xs P k : Int) + (cntF t m : Int)) := IntWalk.wrap64_in _ (by omega)
        have hlu : IntKind.u64.wrap ((lft t m : Nat) : Int) = ((lft t m : Nat) : Int) := by rw [IntKind.wrap_u64]; omega
        clear a4 hfs htk hlimd hx0 hlen
        generalize frN xs P k = f at *
        generalize cntF t m = u at *
        generalize lft t m = l at *
        go_wp2_with fail
        refine (HC1.out _).mono ?_
        rintro e w' ⟨rfl, hww⟩
        subst hww
        go_wp2_with fail
        refine (HO.out _).mono ?_
        rintro e w'' ⟨rfl, hww⟩
        subst hww
        go_wp2_with fail
        go_roundw
        case rel => exact ⟨k + 1, by omega, by go_num, by rw [hw, HFS.out]; push_cast; rfl, by rw [HTK.out], HL.out⟩
        case measure => simp [intOf]; omega
      · obtain ⟨c, rfl⟩ := Int.eq_ofNat_of_zero_le hx1
        have hcm : c < m := by omega
        rw [if_neg (by omega), Int.toNat_natCast] at hlimd htk
        rw [hlimd] at hfs
        obtain ⟨b1, b2, _, _⟩ := lft_at t c ht (by omega)
        have a5 := a4 c (by omega)
        have HC2 := Lib.hid (fun W => firstCols_any (c : Int) W (by omega))
        have HO := Lib.hid (fun W => ones_any (lft t c) W b1)
        rw [b2] at HO
        have HFS := Lib.hid hfs
        have HTK := Lib.hid htk
        have hw : wrap64 ((frN xs P k : Int) + (cntF t c : Int)) = ((frN xs P k : Int) + (cntF t c : Int)) := IntWalk.wrap64_in _ (by have := cntF_le t c; omega)
        have hlu : IntKind.u64.wrap ((lft t c : Nat) : Int) = ((lft t c : Nat) : Int) := by rw [IntKind.wrap_u64]; omega
        have hor := or_nat t c ht (by omega)
        have hor2 := or_nat2 t c ht (by omega)
        have hc64 : (c : Int) < 64 := by omega
        have hne : ((c : Int) != -1) = true := by simp
        clear a4 hfs htk hlimd hx0 hlen a2 b2
        generalize frN xs P k = f at *
        generalize cntF t c = u at *
        generalize lft t m = l at *
        generalize lft t c = l2 at *
        go_wp2_with fail
        refine (HC1.out _).mono ?_
        rintro e w' ⟨rfl, hww⟩
        subst hww
        go_wp2_with fail
        refine (HC2.out _).mono ?_
        rintro e w' ⟨rfl, hww⟩
        subst hww
        go_wp2_with fail
        refine (HO.out _).mono ?_
        rintro e w'' ⟨rfl, hww⟩
        subst hww
        go_wp2_with fail
        go_roundw
        case rel => exact ⟨k + 1, by omega, by go_num, by rw [hw, HFS.out]; push_cast; rfl, by rw [HTK.out], HL.out⟩
        case measure => simp [intOf]; omega
    · obtain rfl : k = n := by omega
      have HB := Lib.hid L.below
      clear L
      go_wp2_with fail
      go_ret
      exact ⟨rfl, HB.out⟩
end Go.Proofs.Ytdgkcfpfldaopaa
end

section
namespace Go.Proofs.Ytdgkcfpfldaopaa
open Go.RowKit Go.WideShapes

set_option maxRecDepth 100000 in
set_option maxHeartbeats 6400000 in
/-- A walk whose visitor keeps things that are made on the way: of what the walk itself writes, the places alone are named to it. -/
theorem walk_any2 (n m k : Nat) (M : Nat → Int) (V : FuncId) (first cap : Array Value) (foot : Nat → Prop) (I : Nat → Nat → World → Prop) (cont : Nat → Bool) (w : World)
    (hn : n ≤ 6) (hm : m ≤ 6) (hk : k ≤ 6) (hgc : ∀ k, k < 6 → 0 ≤ M k ∧ M k < 64)
    (hfoot : ∀ b, foot b → b < w.heap.size) (hkeep : ∀ bp j w1 w2, w.heap.size ≤ bp → Chg (fun b => b = bp) w1 w2 → I bp j w1 → I bp j w2)
    (hcall : ∀ (args : Array Value) (w : World), (callFunc V args).run Try.prog w = .ok (.enter V args) w)
    (hvis : ∀ bp, w.heap.size ≤ bp → ∀ j P, (pl m (bM M) n 0 0 k)[j]? = some P → ∀ w, I bp j w → Calls Try.prog V (first.push (pv6 (plF P n)) ++ cap) w fun e w' => e = .returned (.bool (cont j)) ∧ I bp (j + 1) w' ∧ Chg foot w w')
    (hI : ∀ bp w', w.heap.size ≤ bp → bp < w'.heap.size → Below w.heap.size w w' → I bp 0 w') :
    Calls Try.prog 111 #[gv n m M, .int .i64 k, .func (.func V) first cap] w fun e w' => e = .returned (.tuple #[]) ∧ ∃ bp, w.heap.size ≤ bp ∧ I bp (runV cont 0 (wR m (bM M) n 0 0 k)).1 w' ∧ Chg foot w w' := by
  have L0 := ((Law.start w).has (gl n m M) 63).has [.func (.func V) first cap] 114
  simp only [World.size_alloc] at L0
  have HL := Lib.hid L0
  have HV := Lib.hid hvis
  have HKP := Lib.hid hkeep
  have HFT := Lib.hid hfoot
  have HIW := Lib.hid hI
  have HGC := Lib.hid hgc
  have HLEN := Lib.hid (pl_len m (bM M) n 0 0 k)
  clear L0 hvis hkeep hfoot hI hgc
  go_enter Try.func111, Try.ntmps111
  go_wp2_with fail
  refine (noPlaces_any _).mono ?_
  rintro e w1 ⟨rfl, hb⟩
  have L1 := ((HL.out.kept hb).has (pl6 (fun _ => -1)) 75).has [.func (.func 126) #[] #[.pointer (some ⟨w.heap.size, 0, none⟩), .pointer (some ⟨w.heap.size + 1, 0, none⟩), .pointer (some ⟨w1.heap.size, 0, none⟩), .pointer (some ⟨w1.heap.size + 1, 0, none⟩)]] 67
  simp only [World.size_alloc] at L1
  rw [show (w1.alloc (.cells (pl6 (fun _ => -1)).toArray 75)) = (w1.alloc (.cells #[.int .i64 (-1), .int .i64 (-1), .int .i64 (-1), .int .i64 (-1), .int .i64 (-1), .int .i64 (-1)] 75)) from rfl] at L1
  have hz1 := hb.size
  simp only [World.size_alloc] at hz1
  have L2 : Law w [tHas (w1.heap.size + 1) [.func (.func 126) #[] #[.pointer (some ⟨w.heap.size, 0, none⟩), .pointer (some ⟨w.heap.size + 1, 0, none⟩), .pointer (some ⟨w1.heap.size, 0, none⟩), .pointer (some ⟨w1.heap.size + 1, 0, none⟩)]] 67, tHas w1.heap.size (pl6 (fun _ => -1)) 75, tHas (w.heap.size + 1) [.func (.func V) first cap] 114, tHas w.heap.size (gl n m M) 63] ((w1.alloc (.cells #[.int .i64 (-1), .int .i64 (-1), .int .i64 (-1), .int .i64 (-1), .int .i64 (-1), .int .i64 (-1)] 75)).alloc (.cells #[.func (.func 126) #[] #[.pointer (some ⟨w.heap.size, 0, none⟩), .pointer (some ⟨w.heap.size + 1, 0, none⟩), .pointer (some ⟨w1.heap.size, 0, none⟩), .pointer (some ⟨w1.heap.size + 1, 0, none⟩)]] 67)) := L1
  have HL1 := Lib.hid L2
  clear L1 L2 hb HL
  go_upto_region 4 with fail
  generalize (w1.alloc (.cells #[.int .i64 (-1), .int .i64 (-1), .int .i64 (-1), .int .i64 (-1), .int .i64 (-1), .int .i64 (-1)] 75)).alloc (.cells #[.func (.func 126) #[] #[.pointer (some ⟨w.heap.size, 0, none⟩), .pointer (some ⟨w.heap.size + 1, 0, none⟩), .pointer (some ⟨w1.heap.size, 0, none⟩), .pointer (some ⟨w1.heap.size + 1, 0, none⟩)]] 67) = w5 at *
  have v0 := HL1.out.ownHas.cell 0
  simp only [List.getElem?_cons_zero] at v0
  have hok : WkOk n V first cap w.heap.size (w.heap.size + 1) w1.heap.size (w1.heap.size + 1) foot (I w1.heap.size) cont (pl m (bM M) n 0 0 k) :=
    ⟨by omega, by omega, by omega, fun h => by have := HFT.out _ h; omega, fun h => by have := HFT.out _ h; omega, fun h => by have := HFT.out _ h; omega, fun h => by have := HFT.out _ h; omega,
      fun j a b hc hi => HKP.out w1.heap.size j a b (by omega) hc hi, hcall, HV.out w1.heap.size (by omega)⟩
  have hwk : Wk n m M V first cap w.heap.size (w.heap.size + 1) w1.heap.size (w1.heap.size + 1) (I w1.heap.size) (plF [] 0) 0 w5 :=
    ⟨HL1.out.tl.tl.tl.ownHas, HL1.out.tl.tl.ownHas, HL1.out.tl.ownHas, HL1.out.ownHas, HIW.out w1.heap.size w5 (by omega) HL1.out.tl.ownHas.lt HL1.out.below⟩
  have hr := walk1_any n m M V first cap w.heap.size (w.heap.size + 1) w1.heap.size (w1.heap.size + 1) foot (I w1.heap.size) cont (pl m (bM M) n 0 0 k) hn hm HGC.out hok n 0 0 k [] (by omega) (by omega) hk rfl 0 [] (by simp) w5 hwk
  rw [show ((0 : Nat) : Int) = 0 from rfl, HLEN.out] at hr
  have HR := Lib.hid hr
  have HB := Lib.hid HL1.out.below
  clear hr hwk hok HL1 hcall
  go_wp2_with fail
  refine HR.out.mono ?_
  rintro e w6 ⟨rfl, hW, hC⟩
  rw [Nat.zero_add] at hW
  have HE := Lib.hid (show ∃ bp, w.heap.size ≤ bp ∧ I bp (runV cont 0 (wR m (bM M) n 0 0 k)).1 w6 ∧ Chg foot w w6 from
    ⟨w1.heap.size, by omega, hW.inv, hC.os.trans HB.out.os, hC.tape.trans HB.out.tape, hC.output.trans HB.out.output, Nat.le_trans HB.out.size hC.size, fun b hb hf => (hC.block b (Nat.lt_of_lt_of_le hb HB.out.size) (fun h => h.elim (fun h2 => by omega) hf)).trans (HB.out.block b hb)⟩)
  clear hW hC HR
  go_wp2_with fail
  go_end0
  exact ⟨rfl, HE.out⟩

end Go.Proofs.Ytdgkcfpfldaopaa
end
