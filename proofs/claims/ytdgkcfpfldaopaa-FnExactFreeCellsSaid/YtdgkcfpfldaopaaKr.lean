/- Free cells, in both texts. No condition but the sizes. -/
import Derived.Test.YtdgkcfpfldaopaaKq
import Derived.Test.YtdgkcfpfldaopaaFi
import Derived.Test.YtdgkcfpfldaopaaPb
import Derived.Test.YtdgkcfpfldaopaaPi
namespace Go.Proofs.Ytdgkcfpfldaopaa
open Go.RowKit Go.WideShapes

/-- The rows of the board of lengths. -/
abbrev mskL (xs : List Int) : List Int := xs.map (fun x => pw x - 1)
theorem msk_bit (x : Int) (h : 0 ≤ x ∧ x ≤ 6) (c : Nat) (hc : c < 6) : (pw x - 1).toNat.testBit c = decide ((c : Int) < x) := by
  obtain ⟨n, rfl⟩ := Int.eq_ofNat_of_zero_le h.1
  have key : ∀ n : Fin 7, ∀ c : Fin 6, (pw ((n : Nat) : Int) - 1).toNat.testBit c = decide (((c : Nat) : Int) < ((n : Nat) : Int)) := by decide +kernel
  exact key ⟨n, by omega⟩ ⟨c, hc⟩
theorem mskL_get (xs : List Int) (k : Nat) (h : k < xs.length) : (mskL xs).getD k 0 = pw (xs.getD k 0) - 1 := pwmap_get xs k h
theorem mskL_bd (xs : List Int) (h : ∀ k, 0 ≤ xs.getD k 0 ∧ xs.getD k 0 ≤ 6) (k : Nat) : 0 ≤ (mskL xs).getD k 0 ∧ (mskL xs).getD k 0 < 64 := by
  by_cases hk : k < xs.length
  · rw [mskL_get xs k hk]
    have := pw_bd (h k)
    omega
  · rw [List.getD_eq_getElem?_getD, List.getElem?_eq_none (by rw [List.length_map]; omega)]
    simp
theorem mskL_good (xs : List Int) (hg : lenB xs = true) : goodB xs.length xs.length (mskL xs) = true := by
  obtain ⟨l1, l2, l3, l4, _⟩ := len_facts hg
  have := all_lens (fun xs => goodB xs.length xs.length (mskL xs)) (by decide +kernel) hg
  exact this
/-- What a placement on the board of lengths is. -/
theorem place_facts (xs P : List Int) (n : Nat) (hn : n = xs.length) (hg : lenB xs = true) (h : placeP n n (mskL xs) P = true) :
    P.length = n ∧ (∀ i, i < n → P.getD i 0 = -1 ∨ (0 ≤ P.getD i 0 ∧ P.getD i 0 < xs.getD i 0)) ∧ (∀ i, i ≤ n → tkn P i < 64) ∧ (∀ i, i ≤ n → ∀ c, c < 6 → (tkn P i).testBit c = hasI (P.take i) (c : Int)) := by
  obtain ⟨l1, l2, l3, l4, _⟩ := len_facts hg
  unfold placeP at h
  rw [Bool.and_eq_true, decide_eq_true_eq] at h
  obtain ⟨h1, h2⟩ := h
  have up : ∀ i, i ≤ n → goodUp (mskL xs) n P i = true := fun i hi => by
    cases e : goodUp (mskL xs) n P i
    · exfalso
      have : ∀ j, i ≤ j → goodUp (mskL xs) n P j = false := fun j hj => by
        induction j with
        | zero => rw [show i = 0 by omega] at e; exact e
        | succ j ih =>
          by_cases e2 : i = j + 1
          · rw [← e2]; exact e
          · rw [goodUp, ih (by omega), Bool.false_and]
      rw [this n hi] at h2
      cases h2
    · rfl
  refine ⟨h1, fun i hi => ?_, fun i hi => tkn_lt (mskL xs) n (by omega) P i (up i hi), fun i hi c hc => tkn_mem (mskL xs) n (by omega) P i (by omega) (up i hi) c hc⟩
  by_cases e : P.getD i 0 = -1
  · exact .inl e
  · have h3 := goodUp_at (mskL xs) n P n i h2 hi
    obtain ⟨q1, q2, q3, _⟩ := good_col h3 e
    obtain ⟨c, hc⟩ := Int.eq_ofNat_of_zero_le q1
    rw [hc] at q1 q2 q3 ⊢
    rw [mskL_get xs i (by omega), Int.toNat_natCast, msk_bit _ (l3 i) c (by omega), decide_eq_true_eq] at q3
    exact .inr ⟨q1, q3⟩

def freeR (xs P : List Int) : R1 := if lenB xs && placeP xs.length xs.length (mskL xs) P then ⟨(frN xs P xs.length : Nat), true⟩ else ⟨0, false⟩

set_option maxRecDepth 100000 in
set_option maxHeartbeats 6400000 in
theorem implFree_any (xs P : List Int) (w : World) (hx : xs.length ≤ 1048576) (hp : P.length ≤ 1048576) (lo : Nat) (s : Value) (lo2 : Nat) (s2 : Value) (hO : Own w lo s xs) (hO2 : Own w lo2 s2 P) :
    Calls Try.prog 28 #[s, s2] w (AnsIO (freeR xs P) w) := by
  have L0 := Law.start w
  obtain ⟨a, p, rfl, hr⟩ := hO.reads
  obtain ⟨a2, p2, rfl, hr2⟩ := hO2.reads
  clear hO hO2
  cases hg : lenB xs
  · rw [show freeR xs P = ⟨0, false⟩ by simp [freeR, hg]]
    have HC := Lib.hid (lengthsOf_no a p xs _ hx hr hg)
    clear hg hr hr2
    go_enter Try.func28, Try.ntmps28
    go_wp2_with fail
    refine HC.out.mono ?_
    rintro e w2 ⟨rfl, hb⟩
    have HB := Lib.hid (below_on hb (below_new (.cells #[.int .i64 0, .int .i64 0, .int .i64 0, .int .i64 0, .int .i64 0, .int .i64 0, .int .i64 0] 59)))
    clear hb HC
    go_wp2_with fail
    go_ret2
    exact ⟨rfl, HB.out⟩
  · obtain ⟨l1, l2, l3, _⟩ := len_facts hg
    have hc := lengthsOf_yes a p xs _ hx hr hg
    obtain ⟨n, hn⟩ : ∃ n, n = xs.length := ⟨_, rfl⟩
    obtain ⟨M, hM⟩ : ∃ M : Nat → Int, M = fun k => xs.getD k 0 := ⟨_, rfl⟩
    rw [← hM] at hc
    have hpf := fun h => place_facts xs P n hn hg h
    have hR : freeR xs P = if placeP n n (mskL xs) P then ⟨(frN xs P n : Nat), true⟩ else ⟨0, false⟩ := by rw [hn]; simp [freeR, hg]
    rw [← hn] at hc hr ⊢
    have hM6 : ∀ k, 0 ≤ M k ∧ M k ≤ 6 := fun k => by rw [hM]; exact l3 k
    have hmsk : ∀ k, mskG M n k = (mskL xs).getD k 0 := fun k => by
      unfold mskG
      by_cases h : k < n
      · rw [if_pos h, mskL_get xs k (by omega), hM]
      · rw [if_neg h, List.getD_eq_getElem?_getD, List.getElem?_eq_none (by rw [List.length_map]; omega)]
        rfl
    have HG := Lib.hid (fun W => serGrid_any n M W (by omega) hM6)
    have HPL := Lib.hid (fun W h => placesOf_any n n (mskL xs) P (mskG M n) hmsk a2 p2 W hp (by omega) (by omega) (fun k => mskL_bd xs l3 k) h)
    have HC := Lib.hid hc
    have HR2 := Lib.hid hr2
    have hFC := fun (h : placeP n n (mskL xs) P = true) W => freeCells_any n xs P M (plF P n) W (by omega) (fun k => by rw [hM]) l3 (fun k hk => by unfold plF; rw [if_pos hk]) (hpf h).2.1 (hpf h).2.2.1
    have HFC := Lib.hid hFC
    cases hpl : placeP n n (mskL xs) P
    · rw [hR, hpl]
      simp only [Bool.false_eq_true, if_false]
      have HPP := Lib.hid hpl
      clear hpl
      clear hg hr hr2 hM hc l3 hn l1 l2 hpf hR hM6 hmsk hFC hx hp
      generalize mskG M n = u at *
      go_enter Try.func28, Try.ntmps28
      go_wp2_with fail
      refine HC.out.mono ?_
      rintro e w2 ⟨rfl, hb⟩
      have L2 := (L0.kept hb).has (sl n M) 59
      rw [show w2.alloc (.cells (sl n M).toArray 59) = w2.alloc (.cells #[.int .i64 n, .int .i64 (M 0), .int .i64 (M 1), .int .i64 (M 2), .int .i64 (M 3), .int .i64 (M 4), .int .i64 (M 5)] 59) from rfl] at L2
      have HL2 := Lib.hid L2
      clear hb L2 HC L0
      go_upto_region 2 with fail
      generalize w2.alloc _ = w5 at *
      have ⟨e0, e1, e2, e3, e4, e5, e6, _⟩ := HL2.out.ownHas.seven
      go_wp2_with fail
      refine (HG.out _).mono ?_
      rintro e w6 ⟨rfl, hb⟩
      have HL6 := Lib.hid (HL2.out.kept hb)
      clear hb e0 e1 e2 e3 e4 e5 e6 HL2
      go_wp2_with fail
      refine (HPL.out _ (HL6.out.reads HR2.out)).mono ?_
      rintro e w7 ⟨F, rfl, hF, hb⟩
      rw [HPP.out]
      have L7 := (HL6.out.kept hb).has (pl6 F) 75
      rw [show w7.alloc (.cells (pl6 F).toArray 75) = w7.alloc (.cells #[.int .i64 (F 0), .int .i64 (F 1), .int .i64 (F 2), .int .i64 (F 3), .int .i64 (F 4), .int .i64 (F 5)] 75) from rfl] at L7
      have HL7 := Lib.hid L7
      clear hb L7 HL6
      clear hF
      have HB := Lib.hid HL7.out.below
      clear HL7
      go_wp2_with fail
      go_ret2
      exact ⟨rfl, HB.out⟩
    · rw [hR, hpl]
      simp only [if_true]
      have HPP := Lib.hid hpl
      clear hpl
      clear hg hr hr2 hM hc l3 hn l1 l2 hpf hR hM6 hmsk hFC hx hp
      generalize mskG M n = u at *
      go_enter Try.func28, Try.ntmps28
      go_wp2_with fail
      refine HC.out.mono ?_
      rintro e w2 ⟨rfl, hb⟩
      have L2 := (L0.kept hb).has (sl n M) 59
      rw [show w2.alloc (.cells (sl n M).toArray 59) = w2.alloc (.cells #[.int .i64 n, .int .i64 (M 0), .int .i64 (M 1), .int .i64 (M 2), .int .i64 (M 3), .int .i64 (M 4), .int .i64 (M 5)] 59) from rfl] at L2
      have HL2 := Lib.hid L2
      clear hb L2 HC L0
      go_upto_region 2 with fail
      generalize w2.alloc _ = w5 at *
      have ⟨e0, e1, e2, e3, e4, e5, e6, _⟩ := HL2.out.ownHas.seven
      go_wp2_with fail
      refine (HG.out _).mono ?_
      rintro e w6 ⟨rfl, hb⟩
      have HL6 := Lib.hid (HL2.out.kept hb)
      clear hb e0 e1 e2 e3 e4 e5 e6 HL2
      go_wp2_with fail
      refine (HPL.out _ (HL6.out.reads HR2.out)).mono ?_
      rintro e w7 ⟨F, rfl, hF, hb⟩
      rw [HPP.out]
      have L7 := (HL6.out.kept hb).has (pl6 F) 75
      rw [show w7.alloc (.cells (pl6 F).toArray 75) = w7.alloc (.cells #[.int .i64 (F 0), .int .i64 (F 1), .int .i64 (F 2), .int .i64 (F 3), .int .i64 (F 4), .int .i64 (F 5)] 75) from rfl] at L7
      have HL7 := Lib.hid L7
      clear hb L7 HL6
      have hF := hF HPP.out
      subst hF
      have HF2 := Lib.hid (HFC.out HPP.out)
      go_upto_region 5 with fail
      generalize w7.alloc _ = w8 at *
      have ⟨e0, e1, e2, e3, e4, e5, e6, _⟩ := HL7.out.tl.ownHas.seven
      have ⟨f0, f1, f2, f3, f4, f5, _⟩ := HL7.out.ownHas.six
      go_wp2_with fail
      refine (HF2.out _).mono ?_
      rintro e w9 ⟨rfl, hb⟩
      have HB := Lib.hid (HL7.out.kept hb).below
      clear hb HL7
      go_wp2_with fail
      go_ret2
      exact ⟨rfl, HB.out⟩
end Go.Proofs.Ytdgkcfpfldaopaa
