import Derived.Test.YtdimbnkgomfojaaFold28
import Derived.Test.YtdimbnkgomfojaaFold30
import Derived.Test.YtdimbnkgomfojaaFold31
namespace Go.Proofs.Ytdimbnkgomfojaa
open Go.RowKit Go.WideShapes

/-- What PlacementsOf answers. -/
def plcR (r c : Int) (xs : List Int) (k : Int) : MR := if goodB r c xs && (inB 0 k 6 && decide (wR c.toNat (bt xs) r.toNat 0 0 k.toNat ≤ 500)) then ⟨pl c.toNat (bt xs) r.toNat 0 0 k.toNat, true⟩ else ⟨[], false⟩
theorem total_bd (rss : List (List Int)) (c : Nat) (h : ∀ r ∈ rss, r.length ≤ c) : total rss ≤ c * rss.length := by
  induction rss with
  | nil => simp [total]
  | cons a l ih =>
    have h1 := h a (by simp)
    have h2 := ih (fun r hr => h r (by simp [hr]))
    rw [total_cons, List.length_cons, Nat.mul_succ]
    omega
theorem plcR_len (r c : Int) (xs : List Int) (k : Int) : (plcR r c xs k).zz.length ≤ 1048576 ∧ total (plcR r c xs k).zz ≤ 1048576 := by
  unfold plcR
  split
  · rename_i h
    rw [Bool.and_eq_true, Bool.and_eq_true, decide_eq_true_eq] at h
    obtain ⟨hg, _, h5⟩ := h
    obtain ⟨g1, _⟩ := good_facts hg
    show (pl c.toNat (bt xs) r.toNat 0 0 k.toNat).length ≤ _ ∧ total (pl c.toNat (bt xs) r.toNat 0 0 k.toNat) ≤ _
    have hl := pl_len c.toNat (bt xs) r.toNat 0 0 k.toNat
    have ht := total_bd (pl c.toNat (bt xs) r.toNat 0 0 k.toNat) 6 (fun P hP => by rw [pl_rows c.toNat (bt xs) r.toNat 0 0 k.toNat P hP]; omega)
    omega
  · simp [total]

set_option maxRecDepth 100000 in
set_option maxHeartbeats 3200000 in
theorem implPlc_any (r c : Int) (xs : List Int) (k : Int) (w : World) (hx : xs.length ≤ 1048576) (lo : Nat) (s : Value) (hO : Own w lo s xs) :
    Calls Try.prog 26 #[.agg #[.int .i64 r, .int .i64 c, s], .int .i64 k] w fun e w' => AnsM (plcR r c xs k) w e w' := by
  have L0 := (Law.start w).box (.int .i64 r) (.int .i64 c) s 29
  obtain ⟨a, cap, rfl, hr⟩ := hO.reads
  have hr0 := L0.reads hr
  clear hO
  cases hg : goodB r c xs
  · rw [show plcR r c xs k = ⟨[], false⟩ by unfold plcR; rw [hg]; rfl]
    have HC := Lib.hid (gridOf_no r c a cap xs _ hx hr0 hg)
    have HL := Lib.hid L0
    clear L0 hg hr0
    go_enter Try.func26, Try.ntmps26
    go_wp2_with fail
    refine HC.out.mono ?_
    rintro e w1 ⟨rfl, hb⟩
    have HB := Lib.hid (((HL.out.kept hb).kept (below_new (.cells #[.int .i64 0, .int .i64 0, .int .i64 0, .int .i64 0, .int .i64 0, .int .i64 0, .int .i64 0, .int .i64 0] 59))).below)
    clear HL hb
    go_wp2_with fail
    go_ret2
    exact ⟨_, [], rfl, OwnM.nil _ _, HB.out⟩
  · obtain ⟨g1, g2, g3, _⟩ := good_facts hg
    have hgc := good_cell hg
    obtain ⟨n, rfl⟩ := Int.eq_ofNat_of_zero_le (show 0 ≤ r by omega)
    obtain ⟨m, rfl⟩ := Int.eq_ofNat_of_zero_le (show 0 ≤ c by omega)
    obtain ⟨M, hM, hc⟩ := gridOf_good n m a cap xs _ hx hr0 hg
    have HC := Lib.hid hc
    have HL := Lib.hid L0
    have hBM : bM M = bt xs := by funext a b; simp only [bM, bt, hM]
    simp only [← hM] at hgc
    have hn6 : n ≤ 6 := by omega
    have hm6 : m ≤ 6 := by omega
    cases hk : inB 0 k 6
    · rw [show plcR n m xs k = ⟨[], false⟩ by unfold plcR; rw [hk, Bool.false_and, Bool.and_false]; rfl]
      have HK := Lib.hid (at_bool (rookCount_any k) hk)
      clear L0 hg hr0 hM hc hgc hBM hk g1 g2 g3
      go_enter Try.func26, Try.ntmps26
      go_wp2_with fail
      refine HC.out.mono ?_
      rintro e w1 ⟨rfl, hb⟩
      have HB := Lib.hid (((HL.out.kept hb).kept (below_new (.cells #[.int .i64 n, .int .i64 m, .int .i64 (M 0), .int .i64 (M 1), .int .i64 (M 2), .int .i64 (M 3), .int .i64 (M 4), .int .i64 (M 5)] 59))).below)
      clear HL hb HC
      go_wp2_with fail
      refine (HK.out _).mono ?_
      rintro e w2 ⟨rfl, rfl⟩
      go_wp2_with fail
      go_ret2
      exact ⟨_, [], rfl, OwnM.nil _ _, HB.out⟩
    · have hk6 := inB_iff.1 hk
      obtain ⟨q, rfl⟩ := Int.eq_ofNat_of_zero_le hk6.1
      have hq6 : q ≤ 6 := by omega
      have HK := Lib.hid (at_bool (rookCount_any q) hk)
      have hrn := fun W => rookNumber_any n m q M W hn6 hm6 (fun k _ => hgc k)
      rw [numL_all n m hm6] at hrn
      have hwalk := fun g bl bgr W (d1 : bl ≠ g) (d2 : bgr ≠ g) (d3 : bl ≠ bgr) => plWalk_any g bl bgr n m q M W hn6 hm6 hq6 (fun k _ => hgc k) d1 d2 d3
      have hpc : plcR n m xs q = if wR m (bM M) n 0 0 q ≤ 500 then ⟨pl m (bM M) n 0 0 q, true⟩ else ⟨[], false⟩ := by
        unfold plcR
        rw [hg, hk, Bool.true_and, Bool.true_and, hBM]
        simp only [Int.toNat_natCast, decide_eq_true_eq]
      rw [hpc]
      generalize pl m (bM M) n 0 0 q = LL at *
      generalize wR m (bM M) n 0 0 q = cnt at *
      have HRN := Lib.hid hrn
      have HW := Lib.hid hwalk
      by_cases h5 : cnt ≤ 500
      · rw [if_pos h5]
        have h5I : ¬ (500 : Int) < cnt := by omega
        clear L0 hg hr0 hM hc hgc hBM hk g1 g2 g3 hk6 hrn hwalk hpc
        go_enter Try.func26, Try.ntmps26
        go_wp2_with fail
        refine HC.out.mono ?_
        rintro e w1 ⟨rfl, hb⟩
        have L1 := (HL.out.kept hb).has (gl n m M) 59
        rw [show w1.alloc (.cells (gl n m M).toArray 59) = w1.alloc (.cells #[.int .i64 n, .int .i64 m, .int .i64 (M 0), .int .i64 (M 1), .int .i64 (M 2), .int .i64 (M 3), .int .i64 (M 4), .int .i64 (M 5)] 59) from rfl] at L1
        have HL1 := Lib.hid L1
        clear HL hb HC L1
        go_wp2_with fail
        refine (HK.out _).mono ?_
        rintro e w2 ⟨rfl, rfl⟩
        go_upto_region 4 with fail
        generalize w1.alloc (.cells #[.int .i64 n, .int .i64 m, .int .i64 (M 0), .int .i64 (M 1), .int .i64 (M 2), .int .i64 (M 3), .int .i64 (M 4), .int .i64 (M 5)] 59) = w5 at *
        obtain ⟨e0, e1, e2, e3, e4, e5, e6, e7, _⟩ := HL1.out.ownHas.eight
        go_wp2_with fail
        refine (HRN.out _).mono ?_
        rintro e w6 ⟨rfl, hb⟩
        have HL2 := Lib.hid (HL1.out.kept hb)
        clear HL1 hb e0 e1 e2 e3 e4 e5 e6 e7 HRN HK
        obtain ⟨i0, hi, hz0, hz1, hz2⟩ := info_parts Try.infoL
        go_wp2_with (at_make; refine wpList_make_own _ rfl _ _ 26 rfl _ 22 i0 (.slice none 0 0) 1 Try.underlying26 hi hz0 hz1 .i64 .i64 (cnt : Int) cnt rfl rfl rfl (by rw [hz2]; omega) (by unfold maxLen; omega) (Nat.le_refl _) ?_)
        intro w7 hown hgw
        have hgl : w6.heap.size < w7.heap.size := ((own_freshM hown).lt.1 w6.heap.size rfl).2
        have hb7 : Below w6.heap.size w6 w7 := (Below.refl _ _).grown hgw (Nat.le_refl _) (by simp)
        have L3 := HL2.out.kept hb7
        have L4 := L3.kept (below_new (.cells #[.slice (some ⟨w6.heap.size, 0, none⟩) 0 cnt] 26))
        have HM := Lib.hid (((own_freshM hown).stayB (below_new (.cells #[.slice (some ⟨w6.heap.size, 0, none⟩) 0 cnt] 26))).lower (Nat.zero_le _))
        have HB := Lib.hid (Has.new w7 [.slice (some ⟨w6.heap.size, 0, none⟩) 0 cnt] 26)
        rw [show w7.alloc (.cells ([.slice (some ⟨w6.heap.size, 0, none⟩) 0 cnt] : List Value).toArray 26) = w7.alloc (.cells #[.slice (some ⟨w6.heap.size, 0, none⟩) 0 cnt] 26) from rfl] at HB
        have hlo : w.heap.size ≤ w6.heap.size := HL2.out.below.size
        have hgr := HL2.out.ownHas.lt
        have HL4 := Lib.hid L4
        clear HL2 L3 L4 hown hgw hb7 hi hz0 hz1 hz2
        go_upto_region 8 with fail
        obtain ⟨bl, hbl⟩ : ∃ bl, bl = w7.heap.size := ⟨_, rfl⟩
        have hs8 : (w7.alloc (.cells #[.slice (some ⟨w6.heap.size, 0, none⟩) 0 cnt] 26)).heap.size = bl + 1 := by rw [World.size_alloc, hbl]
        generalize w7.alloc (.cells #[.slice (some ⟨w6.heap.size, 0, none⟩) 0 cnt] 26) = w8 at *
        rw [← hbl] at HB hgl ⊢
        clear hbl
        generalize w6.heap.size = g at *
        generalize w1.heap.size = bg at *
        obtain ⟨e0, e1, e2, e3, e4, e5, e6, e7, _⟩ := HL4.out.ownHas.eight
        have HWK := Lib.hid (HW.out g bl bg w8 (by omega) (by omega) (by omega) (by omega) HM.out HB.out HL4.out.ownHas)
        clear HW
        go_wp2_with fail
        refine HWK.out.mono ?_
        rintro e w9 ⟨rfl, ⟨vs, hM9, hk9⟩, hb9, hC⟩
        obtain ⟨f0, _⟩ := hb9.one
        have HB9 := Lib.hid (show Below w.heap.size w w9 from HL4.out.below.trans ⟨hC.os, hC.tape, hC.output, hC.size, fun k hk => hC.block k (by have := HL4.out.below.size; omega) (fun e => by omega)⟩)
        have HM9 := Lib.hid (show OwnM w9 w.heap.size (.slice (some ⟨g, 0, none⟩) cnt cnt) vs LL from hM9.raise (fun k hk => by
          have e : g = k := by simpa [Value.ownBlock] using hk
          omega) (fun u hu k hk => by have := hk9 u hu k hk; have := HL4.out.below.size; omega))
        clear hM9 hk9 hb9 hC HWK HL4 HM HB e0 e1 e2 e3 e4 e5 e6 e7
        go_wp2_with fail
        go_ret2
        exact ⟨_, vs, rfl, HM9.out, HB9.out⟩
      · rw [if_neg h5]
        have h5I : (500 : Int) < cnt := by omega
        clear L0 hg hr0 hM hc hgc hBM hk g1 g2 g3 hk6 hrn hwalk hpc HW
        go_enter Try.func26, Try.ntmps26
        go_wp2_with fail
        refine HC.out.mono ?_
        rintro e w1 ⟨rfl, hb⟩
        have L1 := (HL.out.kept hb).has (gl n m M) 59
        rw [show w1.alloc (.cells (gl n m M).toArray 59) = w1.alloc (.cells #[.int .i64 n, .int .i64 m, .int .i64 (M 0), .int .i64 (M 1), .int .i64 (M 2), .int .i64 (M 3), .int .i64 (M 4), .int .i64 (M 5)] 59) from rfl] at L1
        have HL1 := Lib.hid L1
        clear HL hb HC L1
        go_wp2_with fail
        refine (HK.out _).mono ?_
        rintro e w2 ⟨rfl, rfl⟩
        go_upto_region 4 with fail
        generalize w1.alloc (.cells #[.int .i64 n, .int .i64 m, .int .i64 (M 0), .int .i64 (M 1), .int .i64 (M 2), .int .i64 (M 3), .int .i64 (M 4), .int .i64 (M 5)] 59) = w5 at *
        obtain ⟨e0, e1, e2, e3, e4, e5, e6, e7, _⟩ := HL1.out.ownHas.eight
        go_wp2_with fail
        refine (HRN.out _).mono ?_
        rintro e w6 ⟨rfl, hb⟩
        have HB := Lib.hid (HL1.out.kept hb).below
        clear HL1 hb e0 e1 e2 e3 e4 e5 e6 e7 HRN HK
        go_wp2_with fail
        go_ret2
        exact ⟨_, [], rfl, OwnM.nil _ _, HB.out⟩

set_option maxRecDepth 100000 in
set_option maxHeartbeats 3200000 in
theorem specPlc_any (r c : Int) (xs : List Int) (k : Int) (w : World) (hx : xs.length ≤ 1048576) (lo : Nat) (s : Value) (hO : Own w lo s xs) :
    Calls Try.prog 25 #[.agg #[.int .i64 r, .int .i64 c, s], .int .i64 k] w fun e w' => AnsM (plcR r c xs k) w e w' := by
  have L0 := (Law.start w).box (.int .i64 r) (.int .i64 c) s 29
  have hO0 := hO.kept L0.below
  have HC := Lib.hid (roAskedP_any r c xs k _ hx lo s hO0)
  have HO := Lib.hid hO
  obtain ⟨a, cap, rfl, _⟩ := hO.reads
  have ⟨_, k0, k1, k2, _⟩ := L0.ownBox
  have HL := Lib.hid L0
  clear L0 hO hO0
  cases hq : goodB r c xs && inB 0 k 6
  · rw [show plcR r c xs k = ⟨[], false⟩ by unfold plcR; rw [← Bool.and_assoc, hq]; rfl]
    rw [hq] at HC
    clear hq
    go_enter Try.func25, Try.ntmps25
    go_wp2_with fail
    refine HC.out.mono ?_
    rintro e w1 ⟨rfl, hb⟩
    have HB := Lib.hid (HL.out.kept hb).below
    clear HL hb k0 k1 k2
    go_wp2_with fail
    go_ret2
    exact ⟨_, [], rfl, OwnM.nil _ _, HB.out⟩
  · rw [hq] at HC
    rw [Bool.and_eq_true] at hq
    obtain ⟨hg, hk⟩ := hq
    obtain ⟨g1, g2, g3, _⟩ := good_facts hg
    have hk6 := inB_iff.1 hk
    have hgc := good_cell hg
    obtain ⟨n, rfl⟩ := Int.eq_ofNat_of_zero_le (show 0 ≤ r by omega)
    obtain ⟨m, rfl⟩ := Int.eq_ofNat_of_zero_le (show 0 ≤ c by omega)
    obtain ⟨q, rfl⟩ := Int.eq_ofNat_of_zero_le hk6.1
    have hn6 : n ≤ 6 := by omega
    have hm6 : m ≤ 6 := by omega
    have hof := fun W (h : Own W lo (.slice a xs.length cap) xs) => roOf_any n m q xs W hx hn6 hm6 (by omega) hgc lo _ h
    rw [numL_all n m hm6] at hof
    have hroll := fun W (hO : Own W lo (.slice a xs.length cap) xs) => roAll_any n m xs hx hn6 hm6 (by omega) hgc n 0 0 q 500 [] (by omega) rfl (fun c _ => by simp [hasI_nil]) (by omega) (by omega) (by omega) W lo _ 0 (.slice none 0 0) hO (Own.nil _ _)
    simp only [show ((500 : Nat) : Int) = 500 from rfl] at hroll
    have hpc : plcR n m xs q = if wR m (bt xs) n 0 0 q ≤ 500 then ⟨pl m (bt xs) n 0 0 q, true⟩ else ⟨[], false⟩ := by
      unfold plcR
      rw [hg, hk, Bool.true_and, Bool.true_and]
      simp only [Int.toNat_natCast, decide_eq_true_eq]
    rw [hpc]
    have hall := allL_all m (bt xs) n q 500
    generalize wR m (bt xs) n 0 0 q = cnt at *
    have HOF := Lib.hid hof
    by_cases h5 : cnt ≤ 500
    · rw [if_pos h5]
      rw [hall h5] at hroll
      have HRA := Lib.hid hroll
      have h5I : ¬ (500 : Int) < cnt := by omega
      generalize pl m (bt xs) n 0 0 q = LL at *
      clear hg hk g1 g2 g3 hk6 hgc hof hroll hpc hall
      go_enter Try.func25, Try.ntmps25
      go_wp2_with fail
      refine HC.out.mono ?_
      rintro e w1 ⟨rfl, hb⟩
      have L1 := HL.out.kept hb
      clear HL hb k0 k1 k2 HC
      have hO1 := HO.out.kept L1.below
      have ⟨_, k0, k1, k2, _⟩ := L1.ownBox
      have HL := Lib.hid L1
      clear L1
      go_wp2_with fail
      refine (HOF.out _ hO1).mono ?_
      rintro e w2 ⟨rfl, hb⟩
      have L1 := HL.out.kept hb
      clear HL hb k0 k1 k2 hO1 HOF
      have hO1 := HO.out.kept L1.below
      have ⟨_, k0, k1, k2, _⟩ := L1.ownBox
      have HL := Lib.hid L1
      clear L1
      go_wp2_with fail
      refine (HRA.out _ hO1).mono ?_
      rintro e w4 ⟨v, vs, rfl, hM, _, hb⟩
      have L4 := HL.out.addM hb hM
      have HL4 := Lib.hid L4
      clear HL hb k0 k1 k2 hO1 L4 hM
      go_wp2_with fail
      go_ret2
      exact ⟨_, vs, rfl, HL4.out.ownMLo, HL4.out.below⟩
    · rw [if_neg h5]
      have h5I : (500 : Int) < cnt := by omega
      clear hg hk g1 g2 g3 hk6 hgc hof hroll hpc hall
      go_enter Try.func25, Try.ntmps25
      go_wp2_with fail
      refine HC.out.mono ?_
      rintro e w1 ⟨rfl, hb⟩
      have L1 := HL.out.kept hb
      clear HL hb k0 k1 k2 HC
      have hO1 := HO.out.kept L1.below
      have ⟨_, k0, k1, k2, _⟩ := L1.ownBox
      have HL := Lib.hid L1
      clear L1
      go_wp2_with fail
      refine (HOF.out _ hO1).mono ?_
      rintro e w2 ⟨rfl, hb⟩
      have HB := Lib.hid (HL.out.kept hb).below
      clear HL hb k0 k1 k2 hO1
      go_wp2_with fail
      go_ret2
      exact ⟨_, [], rfl, OwnM.nil _ _, HB.out⟩

end Go.Proofs.Ytdimbnkgomfojaa
