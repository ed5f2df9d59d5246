import Derived.Test.YtdimbnkgomfojaaFold29
import Derived.Test.YtdimbnkgomfojaaFold36
import Derived.Test.YtdimbnkgomfojaaFold4
namespace Go.Proofs.Ytdimbnkgomfojaa
open Go.RowKit Go.WideShapes

/-- A list at the head of a row that goes on behind it. -/
def ClipN (w : World) (lo : Nat) (v : Value) (xs : List Int) : Prop := ∃ g q N zs, v = .slice (some ⟨g, 0, none⟩) xs.length xs.length ∧ (xs ++ zs).length = N ∧ Own w lo (.slice (some ⟨g, 0, none⟩) N q) (xs ++ zs)
theorem clipN_reads {w : World} {lo g q N : Nat} {zs xs : List Int} (hN : (xs ++ zs).length = N) (h : Own w lo (.slice (some ⟨g, 0, none⟩) N q) (xs ++ zs)) : Reads w (some ⟨g, 0, none⟩) xs.length xs := by
  subst hN
  refine ⟨rfl, .inr ⟨g, 0, rfl, ?_, fun j hj => ?_⟩⟩
  · rcases h.cases with ⟨e, _⟩ | ⟨g', cap, e, _, h2, _⟩
    · cases e
    · injection e with e1 _ _
      injection e1 with e1
      injection e1 with e1
      omega
  · have := Own.cell h j (by rw [List.length_append]; omega)
    rw [Nat.zero_add, this, List.getD_eq_getElem?_getD, List.getElem?_append_left hj]
    rfl
set_option maxRecDepth 100000 in
set_option maxHeartbeats 1600000 in
theorem markN_row (lo g cap N : Nat) (xs zs : List Int) (m : Int) (w : World) (hx : xs.length ≤ 1048576) (h0 : 0 ≤ m) (h1 : m ≤ 4294967296) (hN : (xs ++ zs).length = N)
    (hO : Own w lo (.slice (some ⟨g, 0, none⟩) N cap) (xs ++ zs)) :
    Calls Try.prog 30 #[.slice (some ⟨g, 0, none⟩) xs.length xs.length, .int .i64 m] w fun e w' => e = .returned (.int .i64 (m + xs.length)) ∧
      Own w' lo (.slice (some ⟨g, 0, none⟩) N cap) (run m xs.length ++ zs) ∧ Only g w w' := by
  have hml : ∀ k, k ≤ xs.length → (marked xs m k ++ zs).length = N := fun k hk => by rw [List.length_append, marked_len xs m k hk, ← List.length_append, hN]
  have HML := Lib.hid hml
  have hNx : xs.length ≤ N := by rw [← hN, List.length_append]; omega
  clear hml hN
  go_enter Try.func30, Try.ntmps30
  go_wp2
  go_loopw [1, 5] (fun q i wr => ∃ k : Nat, k ≤ xs.length ∧ i = .int .i64 k ∧ q = .int .i64 (m + k) ∧ Own wr lo (.slice (some ⟨g, 0, none⟩) N cap) (marked xs m k ++ zs) ∧ Only g w wr) (fun _ i _ => xs.length - (intOf i).toNat)
  case atStart => exact ⟨0, Nat.zero_le _, rfl, by simp, by rw [marked_zero]; exact hO, World.grownBy.refl _ _⟩
  case round =>
    obtain ⟨k, hk, rfl, rfl, hOr, hBr⟩ := hrel
    clear hO
    by_cases hlt : k < xs.length
    · have HL := Lib.hid (HML.out k hk)
      have hcy := Own.cell (by rw [HL.out]; exact hOr) k (by rw [HL.out]; omega)
      have hfy := Own.free (by rw [HL.out]; exact hOr) k
      have hs := own_store hOr HL.out k (m + k)
      rw [List.set_append_left _ _ (by rw [marked_len xs m k hk]; exact hlt), marked_step xs m k hlt] at hs
      have HS := Lib.hid hs
      have HB := Lib.hid (World.ownsRow.stored (by unfold Own at hOr; rw [HL.out] at hOr; exact hOr) k (.int .i64 (m + k))).2
      clear hOr hs
      go_wp2
      go_roundw
      case rel => exact ⟨k + 1, by omega, by go_num, by go_num, HS.out, grownBy_trans hBr HB.out⟩
      case measure => simp [intOf]; omega
    · go_wp2
      go_ret
      obtain rfl : k = xs.length := by omega
      rw [marked_full] at hOr
      exact ⟨rfl, hOr, hBr⟩
set_option maxHeartbeats 800000 in
theorem heldN_any (a : Option Addr) (cap : Nat) (n : Nat) (m : Int) (w : World) (hn : n ≤ 1048576) (h0 : 0 ≤ m) (h1 : m ≤ 4294967296) (hr : Reads w a n (run m n)) :
    Calls Try.prog 31 #[.slice a n cap, .int .i64 m] w fun e w' => e = .returned (.int .i64 (m + n)) ∧ Drawn w w' := by
  go_enter Try.func31, Try.ntmps31
  go_wp2
  go_loopw [1, 5] (fun q i wr => ∃ k : Nat, k ≤ n ∧ i = .int .i64 k ∧ q = .int .i64 (m + k) ∧ Drawn w wr) (fun _ i _ => n - (intOf i).toNat)
  case atStart => exact ⟨0, Nat.zero_le _, rfl, by simp, Drawn.refl _⟩
  case round =>
    obtain ⟨k, hk, rfl, rfl, d, rfl⟩ := hrel
    by_cases hlt : k < n
    · obtain ⟨b, off, rfl, hb, hc⟩ := reads_row hr (by omega)
      have hck := hc k hlt
      rw [run_get m n k hlt] at hck
      clear hc
      go_wp2
      go_roundw
      case rel => exact ⟨k + 1, by omega, by go_num, by go_num, _, rfl⟩
      case measure => simp [intOf]; omega
    · go_wp2
      go_ret
      obtain rfl : k = n := by omega
      exact ⟨rfl, _, rfl⟩
theorem eqN_any (a a' : Option Addr) (cap cap' : Nat) (xs : List Int) (w : World) (hx : xs.length ≤ 1048576) (r1 : Reads w a xs.length xs) (r2 : Reads w a' xs.length xs) :
    Calls Try.prog 29 #[.slice a xs.length cap, .slice a' xs.length cap'] w fun e w' => e = .returned (.bool true) ∧ Below w.heap.size w w' := by
  refine (eqIntS_any a a' cap cap' xs xs w hx hx r1 r2).mono fun e w' ⟨he, hd⟩ => ⟨?_, hd.below⟩
  rw [he]
  simp

theorem rowM_own {w0 w : World} {ts : List Thing} {g n c : Nat} {vs : List Value} {rss : List (List Int)} (L : Law w0 (tM (.slice (some ⟨g, 0, none⟩) n c) vs rss :: ts) w) (hn : rss.length = n) (k : Nat) (hk : k < n) (ys : List Int) (hy : ∀ h : k < rss.length, rss[k] = ys) :
    ∃ v, w.cell? ⟨g, k, none⟩ = some v ∧ Own w w0.heap.size v ys := by
  have hM := L.ownMLo
  have hlen := hM.len
  have hrow := hM.row k (by omega)
  rw [hy] at hrow
  refine ⟨_, ?_, hrow⟩
  rw [World.ownsRow.cellAt (by have := hM.outer; rw [show vs.length = n by omega] at this; exact this) k (by omega)]
  simp
def wofR (xs : List Int) (k : Int) : LR := if askW xs k then ⟨wts xs xs.length k.toNat, true⟩ else ⟨[], false⟩
theorem wofR_len (xs : List Int) (k : Int) : (wofR xs k).ys.length ≤ 1048576 := by
  unfold wofR
  split
  · rename_i h
    simp only [askW, Bool.and_eq_true] at h
    obtain ⟨l1, l2, l3, _⟩ := len_facts h.1
    have := wts_len xs (fun k => (l3 k).2) xs.length k.toNat
    show (wts xs xs.length k.toNat).length ≤ _
    omega
  · simp

set_option maxRecDepth 100000 in
set_option maxHeartbeats 1600000 in
theorem specWof_any (xs : List Int) (k : Int) (w : World) (hx : xs.length ≤ 1048576) (lo : Nat) (s : Value) (hO : Own w lo s xs) :
    Calls Try.prog 45 #[s, .int .i64 k] w (AnsL (wofR xs k) w) := by
  obtain ⟨a, p, rfl, hr⟩ := hO.reads
  clear hO
  have HA := Lib.hid (weAsked_any xs k a p w hx hr)
  cases hk : askW xs k
  · rw [show wofR xs k = ⟨[], false⟩ by simp [wofR, hk]]
    rw [hk] at HA
    clear hk hr
    go_enter Try.func45, Try.ntmps45
    go_wp2_with fail
    refine HA.out.mono ?_
    rintro e w2 ⟨rfl, hb⟩
    have HB := Lib.hid hb
    clear hb
    go_wp2_with fail
    go_ret2
    exact ⟨_, rfl, Own.nil _ _, HB.out⟩
  · rw [hk] at HA
    have hk1 := hk
    simp only [askW, Bool.and_eq_true] at hk1
    obtain ⟨hg, hk2⟩ := hk1
    have hk3 := inB_iff.1 hk2
    obtain ⟨k, rfl⟩ := Int.eq_ofNat_of_zero_le hk3.1
    obtain ⟨l1, l2, l3, _⟩ := len_facts hg
    rw [show wofR xs k = ⟨wts xs xs.length k, true⟩ by simp [wofR, hk]]
    have HW := Lib.hid (fun W h => weAll_any xs a p W l1 l2 l3 h)
    have HZG := Lib.hid (fun h => lstR_get (xs.length + 1) (wts xs xs.length) k h)
    have HZL := Lib.hid (lstR_len (xs.length + 1) (wts xs xs.length))
    have HR := Lib.hid hr
    have hq0 : (0 : Int) ≤ k := by omega
    have hq1 : (k : Int) < (xs.length : Int) + 1 := by omega
    clear hk hr hg hk2 hk3 l3 hx
    generalize lstR (xs.length + 1) (wts xs xs.length) = zz at *
    generalize wts xs xs.length k = ys at *
    go_enter Try.func45, Try.ntmps45
    go_wp2_with fail
    refine HA.out.mono ?_
    rintro e w2 ⟨rfl, hb⟩
    have HB := Lib.hid hb
    clear hb
    go_wp2_with fail
    refine (HW.out _ (HR.out.kept HB.out)).mono ?_
    rintro e w4 ⟨g, vs, rfl, hO, hb⟩
    have HL := Lib.hid (((Law.start w).kept HB.out).addM hb hO)
    obtain ⟨v2, hc1, hr2⟩ := rowM_own HL.out HZL.out k (by omega) _ HZG.out
    obtain ⟨a2, p2, hv2, _⟩ := hr2.reads
    subst hv2
    have HR2 := Lib.hid hr2
    clear hO hb hr2
    go_wp2_with fail
    go_ret2
    exact ⟨_, rfl, HR2.out, HL.out.below⟩

set_option maxRecDepth 100000 in
set_option maxHeartbeats 3200000 in
theorem implWof_no (xs : List Int) (k : Int) (w : World) (hx : xs.length ≤ 1048576) (lo : Nat) (s : Value) (hO : Own w lo s xs) (hk : askW xs k = false) :
    Calls Try.prog 46 #[s, .int .i64 k] w fun e w' => e = .returned (.tuple #[.slice none 0 0, .bool false]) ∧ Below w.heap.size w w' := by
  obtain ⟨a, p, rfl, hr⟩ := hO.reads
  clear hO
  have L0 := Law.start w
  cases hg : lenB xs
  · have HC := Lib.hid (lengthsOf_no a p xs _ hx hr hg)
    clear hg hr hk
    go_enter Try.func46, Try.ntmps46
    go_wp2_with fail
    refine HC.out.mono ?_
    rintro e w2 ⟨rfl, hb⟩
    have HB := Lib.hid (below_on hb (below_new (.cells #[.int .i64 0, .int .i64 0, .int .i64 0, .int .i64 0, .int .i64 0, .int .i64 0, .int .i64 0] 88)))
    clear hb HC
    go_wp2_with fail
    go_ret2
    exact ⟨rfl, HB.out⟩
  · rw [askW, hg, Bool.true_and] at hk
    have hkk : k < 0 ∨ (0 ≤ k ∧ (xs.length : Int) < k) := by
      rw [← Bool.not_eq_true, inB_iff] at hk
      omega
    have hc := lengthsOf_yes a p xs _ hx hr hg
    obtain ⟨n, hn⟩ : ∃ n, n = xs.length := ⟨_, rfl⟩
    obtain ⟨M, hM⟩ : ∃ M : Nat → Int, M = fun k => xs.getD k 0 := ⟨_, rfl⟩
    rw [← hM, ← hn] at hc
    rw [← hn] at hkk ⊢
    have HC := Lib.hid hc
    clear hg hk hr hM hn hx hc
    rcases hkk with hk1 | ⟨hk1, hk2⟩
    · go_enter Try.func46, Try.ntmps46
      go_wp2_with fail
      refine HC.out.mono ?_
      rintro e w2 ⟨rfl, hb⟩
      have HB := Lib.hid (below_on hb (below_new (.cells #[.int .i64 n, .int .i64 (M 0), .int .i64 (M 1), .int .i64 (M 2), .int .i64 (M 3), .int .i64 (M 4), .int .i64 (M 5)] 88)))
      clear hb HC
      go_wp2_with fail
      go_ret2
      exact ⟨rfl, HB.out⟩
    · go_enter Try.func46, Try.ntmps46
      go_wp2_with fail
      refine HC.out.mono ?_
      rintro e w2 ⟨rfl, hb⟩
      have L2 := (L0.kept hb).has (sl n M) 88
      rw [show w2.alloc (.cells (sl n M).toArray 88) = w2.alloc (.cells #[.int .i64 n, .int .i64 (M 0), .int .i64 (M 1), .int .i64 (M 2), .int .i64 (M 3), .int .i64 (M 4), .int .i64 (M 5)] 88) from rfl] at L2
      have ⟨e0, _⟩ := L2.ownHas.seven
      have HB := Lib.hid L2.below
      clear hb HC L0 L2
      go_upto_region 2 with fail
      generalize w2.alloc _ = w5 at *
      go_wp2_with fail
      go_ret2
      exact ⟨rfl, HB.out⟩
set_option maxRecDepth 100000 in
set_option maxHeartbeats 3200000 in
theorem implWof_yes (xs : List Int) (k : Int) (w : World) (hx : xs.length ≤ 1048576) (lo : Nat) (s : Value) (hO : Own w lo s xs) (hk : askW xs k = true) :
    Calls Try.prog 46 #[s, .int .i64 k] w fun e w' => ∃ v, e = .returned (.tuple #[v, .bool true]) ∧ ClipN w' w.heap.size v (wts xs xs.length k.toNat) ∧ Below w.heap.size w w' := by
  obtain ⟨a, p, rfl, hr⟩ := hO.reads
  clear hO
  have L0 := Law.start w
  simp only [askW, Bool.and_eq_true] at hk
  obtain ⟨hg, hk2⟩ := hk
  have hk3 := inB_iff.1 hk2
  obtain ⟨k, rfl⟩ := Int.eq_ofNat_of_zero_le hk3.1
  rw [Int.toNat_natCast]
  obtain ⟨l1, l2, l3, _⟩ := len_facts hg
  have hc := lengthsOf_yes a p xs _ hx hr hg
  obtain ⟨n, hn⟩ : ∃ n, n = xs.length := ⟨_, rfl⟩
  obtain ⟨M, hM⟩ : ∃ M : Nat → Int, M = fun k => xs.getD k 0 := ⟨_, rfl⟩
  rw [← hM, ← hn] at hc
  rw [← hn] at hk3 ⊢
  have HC := Lib.hid hc
  have HW := Lib.hid (fun W => weightsOf_any n k xs M W hn.symm (fun j => by rw [hM]) hg (by omega))
  have hq0 : (0 : Int) ≤ k := by omega
  have hq1 : (k : Int) ≤ n := by omega
  clear hg hk2 hk3 hr hM hn hx hc l1 l2 l3
  generalize wts xs n k = ys at *
  go_enter Try.func46, Try.ntmps46
  go_wp2_with fail
  refine HC.out.mono ?_
  rintro e w2 ⟨rfl, hb⟩
  have L2 := (L0.kept hb).has (sl n M) 88
  rw [show w2.alloc (.cells (sl n M).toArray 88) = w2.alloc (.cells #[.int .i64 n, .int .i64 (M 0), .int .i64 (M 1), .int .i64 (M 2), .int .i64 (M 3), .int .i64 (M 4), .int .i64 (M 5)] 88) from rfl] at L2
  have HL := Lib.hid L2
  obtain ⟨e0, e1, e2, e3, e4, e5, e6, _⟩ := L2.ownHas.seven
  clear hb HC L0 L2
  go_upto_region 2 with fail
  generalize w2.alloc _ = w5 at *
  go_wp2_with fail
  refine (HW.out _).mono ?_
  rintro e w6 ⟨g, q, zs, rfl, hO, hb⟩
  have HF := Lib.hid (show ClipN w6 w.heap.size (.slice (some ⟨g, 0, none⟩) ys.length ys.length) ys ∧ Below w.heap.size w w6 from ⟨⟨g, q, _, zs, rfl, rfl, hO.lower HL.out.below.size⟩, (HL.out.kept hb).below⟩)
  clear hO hb HL
  go_wp2_with fail
  go_ret2
  exact ⟨_, rfl, HF.out.1, HF.out.2⟩
end Go.Proofs.Ytdimbnkgomfojaa
