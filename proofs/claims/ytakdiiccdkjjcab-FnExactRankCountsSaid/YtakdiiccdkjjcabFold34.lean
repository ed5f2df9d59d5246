import Derived.Test.YtakdiiccdkjjcabFold14
import Derived.Test.YtakdiiccdkjjcabFold4
import Derived.Test.YtakdiiccdkjjcabFold25
import Derived.Deep.RegionWith
import Derived.Test.YtakdiiccdkjjcabFold33
import Derived.Test.YtakdiiccdkjjcabFold7
import Derived.Deep.RegionHeld3

section
namespace Go.Proofs.Ytakdiiccdkjjcab
open Go.RowKit Go.WideShapes

theorem rowM_at {w0 w : World} {ts : List Thing} {g n c : Nat} {vs : List Value} {rss : List (List Int)} (L : Law w0 (tM (.slice (some ⟨g, 0, none⟩) n c) vs rss :: ts) w) (hn : rss.length = n) (k : Nat) (hk : k < n) (ys : List Int) (hy : ∀ h : k < rss.length, rss[k] = ys) :
    ∃ a2 p2, w.cell? ⟨g, k, none⟩ = some (.slice a2 ys.length p2) ∧ Reads w a2 ys.length ys := by
  have hlen := L.ownM.len
  have hrow := L.ownM.row k (by omega)
  rw [hy] at hrow
  obtain ⟨a2, p2, hv, hr⟩ := hrow.reads
  refine ⟨a2, p2, ?_, hr⟩
  rw [← hv, World.ownsRow.cellAt (by have := L.ownM.outer; rw [show vs.length = n by omega] at this; exact this) k (by omega)]
  simp
theorem rowM_own {w0 w : World} {ts : List Thing} {g n c : Nat} {vs : List Value} {rss : List (List Int)} (L : Law w0 (tM (.slice (some ⟨g, 0, none⟩) n c) vs rss :: ts) w) (hn : rss.length = n) (k : Nat) (hk : k < n) (ys : List Int) (hy : ∀ h : k < rss.length, rss[k] = ys) :
    ∃ a2 p2, w.cell? ⟨g, k, none⟩ = some (.slice a2 ys.length p2) ∧ Reads w a2 ys.length ys ∧ Own w w0.heap.size (.slice a2 ys.length p2) ys := by
  have hlen := L.ownM.len
  have hrow := L.ownMLo.row k (by omega)
  rw [hy] at hrow
  obtain ⟨a2, p2, hv, hr⟩ := hrow.reads
  refine ⟨a2, p2, ?_, hr, by rw [← hv]; exact hrow⟩
  rw [← hv, World.ownsRow.cellAt (by have := L.ownM.outer; rw [show vs.length = n by omega] at this; exact this) k (by omega)]
  simp

end Go.Proofs.Ytakdiiccdkjjcab
end

section
namespace Go.Proofs.Ytakdiiccdkjjcab
open Go.RowKit Go.WideShapes

theorem wValue_any (xs : List Int) (q : Nat) (hq : q ≤ 3) (n k : Nat) (hg : lenB xs = true) (hn : n = xs.length) (a2 : Option Addr) (p2 : Nat) (W : World) (h : Reads W a2 (wts xs n k).length (wts xs n k)) :
    Calls Try.prog 94 #[.slice a2 (wts xs n k).length p2, .int .i64 q] W fun e w' => e = .returned (.int .i64 (valW q (wts xs n k))) ∧ Below W.heap.size W w' := by
  subst hn
  obtain ⟨l1, l2, l3, _⟩ := len_facts hg
  have hwp := valW_parts q hq xs (fun k => (l3 k).2) xs.length k l2
  have hwl := wts_len xs (fun k => (l3 k).2) xs.length k
  exact valueAt_any (wts xs xs.length k) q a2 p2 W (by omega) h (fun j hj W => powerq_any q hq j W (by omega))
    (fun j hj => by
      have := hwp j hj
      rw [show trmV (wts xs xs.length k) q j = trmW q (wts xs xs.length k) j from rfl]
      exact IntWalk.i64_in _ (by omega))
    (fun j hj => by
      have := hwp j hj
      rw [show trmV (wts xs xs.length k) q = trmW q (wts xs xs.length k) from rfl]
      exact IntWalk.i64_in _ (by omega))
set_option maxRecDepth 100000 in
set_option maxHeartbeats 6400000 in
theorem implWgt_2 (xs : List Int) (k : Nat) (w : World) (hx : xs.length ≤ 1048576) (a : Option Addr) (p : Nat) (hr : Reads w a xs.length xs) (hg : lenB xs = true) (hk : k ≤ xs.length) :
    Calls Try.prog 48 #[.slice a xs.length p, .int .i64 k, .int .i64 2] w fun e w' => e = .returned (.tuple #[.int .i64 (valW 2 (wts xs xs.length k)), .bool true]) ∧ Below w.heap.size w w' := by
  have L0 := Law.start w
  obtain ⟨l1, l2, l3, _⟩ := len_facts hg
  have HC := Lib.hid (over_yes a p xs 2 w hx hr hg (by decide))
  obtain ⟨n, hn⟩ : ∃ n, n = xs.length := ⟨_, rfl⟩
  obtain ⟨M, hM⟩ : ∃ M : Nat → Int, M = fun k => xs.getD k 0 := ⟨_, rfl⟩
  rw [← hM, ← hn] at HC
  have hV := fun a2 p2 W h => wValue_any xs 2 (by decide) n k hg hn a2 p2 W h
  rw [← hn] at hk ⊢
  have HA := Lib.hid (fun W => allWeights_any n xs M W hn hM hg)
  have hzg : ∀ (h : k < (lstR (n + 1) (wts xs n)).length), (lstR (n + 1) (wts xs n))[k] = wts xs n k := fun h => lstR_get _ _ k h
  have hzl := lstR_len (n + 1) (wts xs n)
  have hk6 : n ≤ 6 := by omega
  have HV := Lib.hid hV
  have HZ := Lib.hid size_2
  have hmt := fun w => meth_size2 w
  have HZG := Lib.hid hzg
  have HZL := Lib.hid hzl
  have hk0 : (0 : Int) ≤ k := by omega
  have hk1 : (k : Int) ≤ n := by omega
  have hk2 : (k : Int) < (n : Int) + 1 := by omega
  clear hr hg hM hn l1 l2 l3 hV hzg hzl hx
  generalize lstR (n + 1) (wts xs n) = zz at *
  generalize wts xs n k = ys at *
  rw [fV_two] at HC
  simp only [show ((2 : Nat) : Int) = 2 from rfl] at HC HV
  go_enter Try.func48, Try.ntmps48
  go_wp2_with fail
  refine HC.out.mono ?_
  rintro e w2 ⟨rfl, hb⟩
  have L2 := (L0.kept hb).has (sl n M) 90
  rw [show w2.alloc (.cells (sl n M).toArray 90) = w2.alloc (.cells #[.int .i64 n, .int .i64 (M 0), .int .i64 (M 1), .int .i64 (M 2), .int .i64 (M 3), .int .i64 (M 4), .int .i64 (M 5)] 90) from rfl] at L2
  have HL := Lib.hid L2.drew
  obtain ⟨e0, e1, e2, e3, e4, e5, e6, _⟩ := L2.ownHas.seven
  clear hb L2 HC L0
  go_upto_region 2 with fail
  generalize w2.alloc _ = w5 at *
  go_wp2_with fail
  go_region_with (first
    | (go_at_call 89; ((with_reducible refine (HA.out _).mono ?_); rintro e wA ⟨g, vs, rfl, hO, hb⟩; have HLM := Lib.hid (HL.out.addM hb hO); obtain ⟨a2, p2, hc1, hr2⟩ := rowM_at HLM.out HZL.out k (by omega) _ HZG.out; have HR2 := Lib.hid hr2; clear hO hb hr2))
    | (go_at_call 167; ((with_reducible refine (HZ.out _).mono ?_); rintro e wB ⟨rfl, hb⟩; (try (have hc1 := cell_later hb hc1)); (try (replace HR2 := Lib.hid (HR2.out.kept hb))); (try (replace HLM := Lib.hid (HLM.out.kept hb))); (try (replace HL := Lib.hid (HL.out.kept hb); have e0 := cell_later hb e0; have e1 := cell_later hb e1; have e2 := cell_later hb e2; have e3 := cell_later hb e3; have e4 := cell_later hb e4; have e5 := cell_later hb e5; have e6 := cell_later hb e6)); clear hb))
    | (go_at_call 94; ((with_reducible refine (HV.out _ _ _ HR2.out).mono ?_); rintro e wC ⟨rfl, hb⟩; replace HLM := Lib.hid (HLM.out.kept hb); clear hb))
    | fail)
  all_goals
    have HB := Lib.hid HLM.out.below
    clear HL HLM HR2
    go_wp2_with fail
    go_ret2
    exact ⟨rfl, HB.out⟩
set_option maxRecDepth 100000 in
set_option maxHeartbeats 6400000 in
theorem implWgt_3 (xs : List Int) (k : Nat) (w : World) (hx : xs.length ≤ 1048576) (a : Option Addr) (p : Nat) (hr : Reads w a xs.length xs) (hg : lenB xs = true) (hk : k ≤ xs.length) :
    Calls Try.prog 48 #[.slice a xs.length p, .int .i64 k, .int .i64 3] w fun e w' => e = .returned (.tuple #[.int .i64 (valW 3 (wts xs xs.length k)), .bool true]) ∧ Below w.heap.size w w' := by
  have L0 := Law.start w
  obtain ⟨l1, l2, l3, _⟩ := len_facts hg
  have HC := Lib.hid (over_yes a p xs 3 w hx hr hg (by decide))
  obtain ⟨n, hn⟩ : ∃ n, n = xs.length := ⟨_, rfl⟩
  obtain ⟨M, hM⟩ : ∃ M : Nat → Int, M = fun k => xs.getD k 0 := ⟨_, rfl⟩
  rw [← hM, ← hn] at HC
  have hV := fun a2 p2 W h => wValue_any xs 3 (by decide) n k hg hn a2 p2 W h
  rw [← hn] at hk ⊢
  have HA := Lib.hid (fun W => allWeights_any n xs M W hn hM hg)
  have hzg : ∀ (h : k < (lstR (n + 1) (wts xs n)).length), (lstR (n + 1) (wts xs n))[k] = wts xs n k := fun h => lstR_get _ _ k h
  have hzl := lstR_len (n + 1) (wts xs n)
  have hk6 : n ≤ 6 := by omega
  have HV := Lib.hid hV
  have HZ := Lib.hid size_3
  have hmt := fun w => meth_size3 w
  have HZG := Lib.hid hzg
  have HZL := Lib.hid hzl
  have hk0 : (0 : Int) ≤ k := by omega
  have hk1 : (k : Int) ≤ n := by omega
  have hk2 : (k : Int) < (n : Int) + 1 := by omega
  clear hr hg hM hn l1 l2 l3 hV hzg hzl hx
  generalize lstR (n + 1) (wts xs n) = zz at *
  generalize wts xs n k = ys at *
  rw [fV_three] at HC
  simp only [show ((3 : Nat) : Int) = 3 from rfl] at HC HV
  go_enter Try.func48, Try.ntmps48
  go_wp2_with fail
  refine HC.out.mono ?_
  rintro e w2 ⟨rfl, hb⟩
  have L2 := (L0.kept hb).has (sl n M) 90
  rw [show w2.alloc (.cells (sl n M).toArray 90) = w2.alloc (.cells #[.int .i64 n, .int .i64 (M 0), .int .i64 (M 1), .int .i64 (M 2), .int .i64 (M 3), .int .i64 (M 4), .int .i64 (M 5)] 90) from rfl] at L2
  have HL := Lib.hid L2.drew
  obtain ⟨e0, e1, e2, e3, e4, e5, e6, _⟩ := L2.ownHas.seven
  clear hb L2 HC L0
  go_upto_region 2 with fail
  generalize w2.alloc _ = w5 at *
  go_wp2_with fail
  go_region_with (first
    | (go_at_call 89; ((with_reducible refine (HA.out _).mono ?_); rintro e wA ⟨g, vs, rfl, hO, hb⟩; have HLM := Lib.hid (HL.out.addM hb hO); obtain ⟨a2, p2, hc1, hr2⟩ := rowM_at HLM.out HZL.out k (by omega) _ HZG.out; have HR2 := Lib.hid hr2; clear hO hb hr2))
    | (go_at_call 171; ((with_reducible refine (HZ.out _).mono ?_); rintro e wB ⟨rfl, hb⟩; (try (have hc1 := cell_later hb hc1)); (try (replace HR2 := Lib.hid (HR2.out.kept hb))); (try (replace HLM := Lib.hid (HLM.out.kept hb))); (try (replace HL := Lib.hid (HL.out.kept hb); have e0 := cell_later hb e0; have e1 := cell_later hb e1; have e2 := cell_later hb e2; have e3 := cell_later hb e3; have e4 := cell_later hb e4; have e5 := cell_later hb e5; have e6 := cell_later hb e6)); clear hb))
    | (go_at_call 94; ((with_reducible refine (HV.out _ _ _ HR2.out).mono ?_); rintro e wC ⟨rfl, hb⟩; replace HLM := Lib.hid (HLM.out.kept hb); clear hb))
    | fail)
  all_goals
    have HB := Lib.hid HLM.out.below
    clear HL HLM HR2
    go_wp2_with fail
    go_ret2
    exact ⟨rfl, HB.out⟩
end Go.Proofs.Ytakdiiccdkjjcab
end

section
namespace Go.Proofs.Ytakdiiccdkjjcab
open Go.RowKit Go.WideShapes

/-- One term. -/
def rkT (xs : List Int) (q k e : Nat) : Int := (wts xs xs.length k).getD e 0 * (q : Int) ^ ((celN xs xs.length : Int) - k - e).toNat
/-- The sum for k rooks. -/
def rkS (xs : List Int) (q k : Nat) : Int := sumT (rkT xs q k) (wts xs xs.length k).length
/-- How many matrices have the rank k. -/
def rkN (xs : List Int) (q k : Nat) : Int := ((q : Int) - 1) ^ k * rkS xs q k
def rkR (xs : List Int) (q : Int) : LR := if lenB xs && (isQ q && decide ((celN xs xs.length : Int) ≤ 20)) then ⟨lstI (xs.length + 1) (rkN xs q.toNat), true⟩ else ⟨[], false⟩
theorem rkR_len (xs : List Int) (q : Int) : (rkR xs q).ys.length ≤ 1048576 := by
  unfold rkR
  split
  · rename_i h
    simp only [Bool.and_eq_true] at h
    have := (len_facts h.1).2.1
    show (lstI _ _).length ≤ _
    rw [lstI_len]
    omega
  · simp
theorem pow20 : ∀ q : Fin 4, ∀ k : Fin 21, 0 ≤ (((q : Nat) : Int)) ^ (k : Nat) ∧ (((q : Nat) : Int)) ^ (k : Nat) ≤ 3486784401 := by decide +kernel
theorem pow2k : ∀ q : Fin 4, ∀ k : Fin 7, 2 ≤ (q : Nat) → 0 ≤ (((q : Nat) : Int) - 1) ^ (k : Nat) ∧ (((q : Nat) : Int) - 1) ^ (k : Nat) ≤ 64 := by decide +kernel
/-- Nothing on the way is too great. -/
theorem rk_in (xs : List Int) (hg : lenB xs = true) (q : Nat) (hq : 2 ≤ q ∧ q ≤ 3) (hc : celN xs xs.length ≤ 20) (k : Nat) (hk : k ≤ 6) :
    (∀ e, 0 ≤ rkT xs q k e ∧ rkT xs q k e ≤ 914039610015744) ∧ (∀ e, e ≤ 37 → 0 ≤ sumT (rkT xs q k) e ∧ sumT (rkT xs q k) e ≤ 33819465570582528) ∧ (0 ≤ rkN xs q k ∧ rkN xs q k ≤ 2164445796517281792) := by
  obtain ⟨l1, l2, l3, _⟩ := len_facts hg
  have h1 : ∀ e, 0 ≤ rkT xs q k e ∧ rkT xs q k e ≤ 914039610015744 := fun e => by
    have a := wts_in xs (fun k => (l3 k).2) xs.length k e l2
    have b := pow20 ⟨q, by omega⟩ ⟨((celN xs xs.length : Int) - k - e).toNat, by omega⟩
    simp only at b
    refine ⟨Int.mul_nonneg a.1 b.1, ?_⟩
    have := Int.mul_le_mul a.2 b.2 b.1 (by decide)
    unfold rkT
    omega
  have h2 : ∀ e, e ≤ 37 → 0 ≤ sumT (rkT xs q k) e ∧ sumT (rkT xs q k) e ≤ 33819465570582528 := fun e he => by
    refine ⟨sumT_pos _ (fun j => (h1 j).1) e, ?_⟩
    have := sumT_abs (rkT xs q k) 914039610015744 e (fun j _ => by have := h1 j; unfold Abs; omega)
    unfold Abs at this
    omega
  refine ⟨h1, h2, ?_⟩
  have hl := wts_len xs (fun k => (l3 k).2) xs.length k
  have a := h2 (wts xs xs.length k).length (by omega)
  have b := pow2k ⟨q, by omega⟩ ⟨k, by omega⟩ hq.1
  simp only at b
  refine ⟨Int.mul_nonneg b.1 a.1, ?_⟩
  have := Int.mul_le_mul b.2 a.2 a.1 (by decide)
  unfold rkN rkS
  omega

set_option maxRecDepth 100000 in
set_option maxHeartbeats 1600000 in
theorem weCells_any (n : Nat) (xs : List Int) (a : Option Addr) (p : Nat) (w : World) (hn : xs.length = n) (hn6 : n ≤ 6) (hx : ∀ k, 0 ≤ xs.getD k 0 ∧ xs.getD k 0 ≤ 6) (hr : Reads w a n xs) :
    Calls Try.prog 101 #[.slice a n p] w fun e w' => e = .returned (.int .i64 (celN xs n : Nat)) ∧ w = w' := by
  have HC := Lib.hid (celN_le xs hx)
  have hs : ∀ j, (celN xs (j + 1) : Int) = (celN xs j : Int) + xs.getD j 0 := fun j => by
    have := hx j
    rw [celN]
    unfold lenN
    omega
  have HS := Lib.hid hs
  have HR := Lib.hid (show Reads w a xs.length xs by rw [hn]; exact hr)
  have HN := Lib.hid hn
  have HX := Lib.hid hx
  clear hx hr hs hn
  go_enter Try.func101, Try.ntmps101
  go_wp2_with fail
  go_loopw [3, 8] (fun f i wr => ∃ k : Nat, k ≤ n ∧ i = .int .i64 k ∧ f = .int .i64 (celN xs k : Nat) ∧ w = wr) (fun _ i _ => n - (intOf i).toNat)
  case atStart => exact ⟨0, Nat.zero_le _, rfl, rfl, rfl⟩
  case round =>
    obtain ⟨k, hk, rfl, rfl, hww⟩ := hrel
    subst hww
    by_cases hlt : k < n
    · obtain ⟨b, off, ha, hb0, hcc⟩ := reads_row HR.out (by have := HN.out; omega)
      subst ha
      have hck := hcc k (by have := HN.out; omega)
      have hst := HS.out k
      have hc0 := HC.out k
      have hxk := HX.out k
      have HW := Lib.hid ((show wrap64 ((celN xs k : Int) + xs.getD k 0) = (celN xs k : Int) + xs.getD k 0 from IntWalk.wrap64_in _ (by omega)).trans hst.symm)
      clear hst hc0 hxk hcc
      generalize xs.getD k 0 = y at *
      go_wp2_with fail
      go_roundw
      case rel => exact ⟨k + 1, by omega, by go_num, by rw [HW.out], trivial⟩
      case measure => simp [intOf]; omega
    · obtain rfl : k = n := by omega
      go_wp2_with fail
      go_ret
      exact ⟨rfl, rfl⟩
end Go.Proofs.Ytakdiiccdkjjcab
end

section
namespace Go.Proofs.Ytakdiiccdkjjcab
open Go.RowKit Go.WideShapes

theorem powerZ_any (q : Nat) (hq : q ≤ 3) (K : Int) (w : World) (hK : K ≤ 39) : Calls Try.prog 104 #[.int .i64 q, .int .i64 K] w fun e w' => e = .returned (.int .i64 ((q : Int) ^ K.toNat)) ∧ w' = w := by
  by_cases h : K ≤ 0
  · rw [show K.toNat = 0 by omega]
    exact power_neg q K w h
  · obtain ⟨k, rfl⟩ := Int.eq_ofNat_of_zero_le (show 0 ≤ K by omega)
    exact powerq_any q hq k w (by omega)
set_option maxRecDepth 100000 in
set_option maxHeartbeats 6400000 in
theorem rk1_2 (bw bf bs bk b o len p2 n k e C : Nat) (M : Nat → Int) (y : Int) (w : World) (he : e < len) (hk : k ≤ 6) (he37 : len ≤ 37) (hC : C ≤ 20)
    (h1 : w.cell? ⟨bw, 0, none⟩ = some (.slice (some ⟨b, o, none⟩) len p2)) (h2 : w.cell? ⟨bf, 0, none⟩ = some fV2) (h3 : w.cell? ⟨bk, 0, none⟩ = some (.int .i64 k)) (h4 : w.cell? ⟨b, o + e, none⟩ = some (.int .i64 y)) (hs : Has w bs (sl n M) 90)
    (hCE : ∀ W, Calls Try.prog 103 #[sv n M] W fun e w' => e = .returned (.int .i64 (C : Nat)) ∧ Below W.heap.size W w')
    (hm : IntKind.i64.wrap (y * (2 : Int) ^ ((C : Int) - k - e).toNat) = y * (2 : Int) ^ ((C : Int) - k - e).toNat) :
    Calls Try.prog 105 (#[.int .i64 e] ++ #[.pointer (some ⟨bw, 0, none⟩), .pointer (some ⟨bf, 0, none⟩), .pointer (some ⟨bs, 0, none⟩), .pointer (some ⟨bk, 0, none⟩)]) w fun r w' => r = .returned (.int .i64 (y * (2 : Int) ^ ((C : Int) - k - e).toNat)) ∧ Below w.heap.size w w' := by
  have HCE := Lib.hid hCE
  have HPW := Lib.hid (fun W => powerZ_any 2 (by decide) ((C : Int) - k - e) W (by omega))
  simp only [show ((2 : Nat) : Int) = 2 from rfl] at HPW
  have HZ := Lib.hid size_2
  have hmt := fun w => meth_size2 w
  have hk0 : (0 : Int) ≤ e := by omega
  have hk1 : (e : Int) < (len : Int) := by omega
  have hsub1 : IntKind.i64.wrap ((C : Int) - k) = (C : Int) - k := IntWalk.i64_in _ (by omega)
  have hsub : IntKind.i64.wrap ((C : Int) - k - e) = (C : Int) - k - e := IntWalk.i64_in _ (by omega)
  have HB := Lib.hid (show Below w.heap.size w w.drew from (Below.refl _ _).drew)
  have j1 : w.drew.cell? ⟨bw, 0, none⟩ = some (.slice (some ⟨b, o, none⟩) len p2) := h1
  have j2 : w.drew.cell? ⟨bf, 0, none⟩ = some fV2 := h2
  have j3 : w.drew.cell? ⟨bk, 0, none⟩ = some (.int .i64 k) := h3
  have j4 : w.drew.cell? ⟨b, o + e, none⟩ = some (.int .i64 y) := h4
  obtain ⟨j5, j6, j7, j8, j9, j10, j11, _⟩ := (show Has w.drew bs (sl n M) _ from hs.drew).seven
  clear hCE hs h1 h2 h3 h4
  generalize (2 : Int) ^ ((C : Int) - k - e).toNat = P at *
  go_enter Try.func105, Try.ntmps105
  go_wp2_with fail
  go_region_held3 (fun w' => w'.cell? ⟨bw, 0, none⟩ = some (.slice (some ⟨b, o, none⟩) len p2) ∧ w'.cell? ⟨bf, 0, none⟩ = some fV2 ∧ w'.cell? ⟨bk, 0, none⟩ = some (.int .i64 k) ∧ w'.cell? ⟨b, o + e, none⟩ = some (.int .i64 y) ∧ w'.cell? ⟨bs, 0, none⟩ = some (.int .i64 n) ∧ w'.cell? ⟨bs, 1, none⟩ = some (.int .i64 (M 0)) ∧ w'.cell? ⟨bs, 2, none⟩ = some (.int .i64 (M 1)) ∧ w'.cell? ⟨bs, 3, none⟩ = some (.int .i64 (M 2)) ∧ w'.cell? ⟨bs, 4, none⟩ = some (.int .i64 (M 3)) ∧ w'.cell? ⟨bs, 5, none⟩ = some (.int .i64 (M 4)) ∧ w'.cell? ⟨bs, 6, none⟩ = some (.int .i64 (M 5))) (first | (repeat' apply And.intro) <;> first | with_reducible assumption | assumption) ((first
    | (go_at_call 167; ((with_reducible refine (HZ.out _).mono ?_); rintro r wA ⟨rfl, hb⟩; replace j1 := cell_later hb j1; replace j2 := cell_later hb j2; replace j3 := cell_later hb j3; replace j4 := cell_later hb j4; replace j5 := cell_later hb j5; replace j6 := cell_later hb j6; replace j7 := cell_later hb j7; replace j8 := cell_later hb j8; replace j9 := cell_later hb j9; replace j10 := cell_later hb j10; replace j11 := cell_later hb j11; replace HB := Lib.hid (below_on HB.out hb); clear hb))
    | (go_at_call 103; ((with_reducible refine (HCE.out _).mono ?_); rintro r wB ⟨rfl, hb⟩; replace j1 := cell_later hb j1; replace j2 := cell_later hb j2; replace j3 := cell_later hb j3; replace j4 := cell_later hb j4; replace j5 := cell_later hb j5; replace j6 := cell_later hb j6; replace j7 := cell_later hb j7; replace j8 := cell_later hb j8; replace j9 := cell_later hb j9; replace j10 := cell_later hb j10; replace j11 := cell_later hb j11; replace HB := Lib.hid (below_on HB.out hb); clear hb))
    | (go_at_call 104; ((with_reducible refine (HPW.out _).mono ?_); rintro r wC ⟨rfl, hww⟩; subst hww))
    | fail))
  all_goals
    clear j1 j2 j3 j4 j5 j6 j7 j8 j9 j10 j11
    go_wp2_with fail
    go_ret
    exact ⟨rfl, HB.out⟩
set_option maxRecDepth 100000 in
set_option maxHeartbeats 6400000 in
theorem rk1_3 (bw bf bs bk b o len p2 n k e C : Nat) (M : Nat → Int) (y : Int) (w : World) (he : e < len) (hk : k ≤ 6) (he37 : len ≤ 37) (hC : C ≤ 20)
    (h1 : w.cell? ⟨bw, 0, none⟩ = some (.slice (some ⟨b, o, none⟩) len p2)) (h2 : w.cell? ⟨bf, 0, none⟩ = some fV3) (h3 : w.cell? ⟨bk, 0, none⟩ = some (.int .i64 k)) (h4 : w.cell? ⟨b, o + e, none⟩ = some (.int .i64 y)) (hs : Has w bs (sl n M) 90)
    (hCE : ∀ W, Calls Try.prog 103 #[sv n M] W fun e w' => e = .returned (.int .i64 (C : Nat)) ∧ Below W.heap.size W w')
    (hm : IntKind.i64.wrap (y * (3 : Int) ^ ((C : Int) - k - e).toNat) = y * (3 : Int) ^ ((C : Int) - k - e).toNat) :
    Calls Try.prog 105 (#[.int .i64 e] ++ #[.pointer (some ⟨bw, 0, none⟩), .pointer (some ⟨bf, 0, none⟩), .pointer (some ⟨bs, 0, none⟩), .pointer (some ⟨bk, 0, none⟩)]) w fun r w' => r = .returned (.int .i64 (y * (3 : Int) ^ ((C : Int) - k - e).toNat)) ∧ Below w.heap.size w w' := by
  have HCE := Lib.hid hCE
  have HPW := Lib.hid (fun W => powerZ_any 3 (by decide) ((C : Int) - k - e) W (by omega))
  simp only [show ((3 : Nat) : Int) = 3 from rfl] at HPW
  have HZ := Lib.hid size_3
  have hmt := fun w => meth_size3 w
  have hk0 : (0 : Int) ≤ e := by omega
  have hk1 : (e : Int) < (len : Int) := by omega
  have hsub1 : IntKind.i64.wrap ((C : Int) - k) = (C : Int) - k := IntWalk.i64_in _ (by omega)
  have hsub : IntKind.i64.wrap ((C : Int) - k - e) = (C : Int) - k - e := IntWalk.i64_in _ (by omega)
  have HB := Lib.hid (show Below w.heap.size w w.drew from (Below.refl _ _).drew)
  have j1 : w.drew.cell? ⟨bw, 0, none⟩ = some (.slice (some ⟨b, o, none⟩) len p2) := h1
  have j2 : w.drew.cell? ⟨bf, 0, none⟩ = some fV3 := h2
  have j3 : w.drew.cell? ⟨bk, 0, none⟩ = some (.int .i64 k) := h3
  have j4 : w.drew.cell? ⟨b, o + e, none⟩ = some (.int .i64 y) := h4
  obtain ⟨j5, j6, j7, j8, j9, j10, j11, _⟩ := (show Has w.drew bs (sl n M) _ from hs.drew).seven
  clear hCE hs h1 h2 h3 h4
  generalize (3 : Int) ^ ((C : Int) - k - e).toNat = P at *
  go_enter Try.func105, Try.ntmps105
  go_wp2_with fail
  go_region_held3 (fun w' => w'.cell? ⟨bw, 0, none⟩ = some (.slice (some ⟨b, o, none⟩) len p2) ∧ w'.cell? ⟨bf, 0, none⟩ = some fV3 ∧ w'.cell? ⟨bk, 0, none⟩ = some (.int .i64 k) ∧ w'.cell? ⟨b, o + e, none⟩ = some (.int .i64 y) ∧ w'.cell? ⟨bs, 0, none⟩ = some (.int .i64 n) ∧ w'.cell? ⟨bs, 1, none⟩ = some (.int .i64 (M 0)) ∧ w'.cell? ⟨bs, 2, none⟩ = some (.int .i64 (M 1)) ∧ w'.cell? ⟨bs, 3, none⟩ = some (.int .i64 (M 2)) ∧ w'.cell? ⟨bs, 4, none⟩ = some (.int .i64 (M 3)) ∧ w'.cell? ⟨bs, 5, none⟩ = some (.int .i64 (M 4)) ∧ w'.cell? ⟨bs, 6, none⟩ = some (.int .i64 (M 5))) (first | (repeat' apply And.intro) <;> first | with_reducible assumption | assumption) ((first
    | (go_at_call 171; ((with_reducible refine (HZ.out _).mono ?_); rintro r wA ⟨rfl, hb⟩; replace j1 := cell_later hb j1; replace j2 := cell_later hb j2; replace j3 := cell_later hb j3; replace j4 := cell_later hb j4; replace j5 := cell_later hb j5; replace j6 := cell_later hb j6; replace j7 := cell_later hb j7; replace j8 := cell_later hb j8; replace j9 := cell_later hb j9; replace j10 := cell_later hb j10; replace j11 := cell_later hb j11; replace HB := Lib.hid (below_on HB.out hb); clear hb))
    | (go_at_call 103; ((with_reducible refine (HCE.out _).mono ?_); rintro r wB ⟨rfl, hb⟩; replace j1 := cell_later hb j1; replace j2 := cell_later hb j2; replace j3 := cell_later hb j3; replace j4 := cell_later hb j4; replace j5 := cell_later hb j5; replace j6 := cell_later hb j6; replace j7 := cell_later hb j7; replace j8 := cell_later hb j8; replace j9 := cell_later hb j9; replace j10 := cell_later hb j10; replace j11 := cell_later hb j11; replace HB := Lib.hid (below_on HB.out hb); clear hb))
    | (go_at_call 104; ((with_reducible refine (HPW.out _).mono ?_); rintro r wC ⟨rfl, hww⟩; subst hww))
    | fail))
  all_goals
    clear j1 j2 j3 j4 j5 j6 j7 j8 j9 j10 j11
    go_wp2_with fail
    go_ret
    exact ⟨rfl, HB.out⟩
end Go.Proofs.Ytakdiiccdkjjcab
end
