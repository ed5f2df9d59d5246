import Derived.Test.YtdimbnkgomfojaaFold25
import Derived.Deep.RegionHeld3
namespace Go.Proofs.Ytdimbnkgomfojaa
open Go.RowKit Go.WideShapes

def turnB (r c : Int) (xs P : List Int) : LR := if okPl r c xs P then ⟨lstI c.toNat (trF (fun j => P.getD j 0) r.toNat), true⟩ else ⟨[], false⟩
theorem turnB_len (r c : Int) (xs P : List Int) : (turnB r c xs P).ys.length ≤ 1048576 := by
  unfold turnB
  split
  · rename_i h
    unfold okPl at h
    rw [Bool.and_eq_true] at h
    have := good_facts h.1
    show (lstI _ _).length ≤ _
    rw [lstI_len]
    omega
  · simp

theorem placeP_facts {n m : Nat} {xs P : List Int} (h : placeP n m xs P = true) : P.length = n ∧ ∀ k, k < n → P.getD k 0 = -1 ∨ (0 ≤ P.getD k 0 ∧ P.getD k 0 < m) := by
  unfold placeP at h
  rw [Bool.and_eq_true, decide_eq_true_eq] at h
  refine ⟨h.1, fun k hk => ?_⟩
  by_cases e : P.getD k 0 = -1
  · exact .inl e
  · have := good_col (goodUp_at xs m P n k h.2 hk) e
    exact .inr ⟨this.1, this.2.1⟩

set_option maxRecDepth 100000 in
set_option maxHeartbeats 3200000 in
theorem specTurnP_any (r c : Int) (xs P : List Int) (w : World) (hx : xs.length ≤ 1048576) (hp : P.length ≤ 1048576) (lo : Nat) (s : Value) (lo2 : Nat) (s2 : Value) (hO : Own w lo s xs) (hO2 : Own w lo2 s2 P) :
    Calls Try.prog 37 #[.agg #[.int .i64 r, .int .i64 c, s], s2] w fun e w' => AnsL (turnB r c xs P) w e w' := by
  have L0 := (Law.start w).box (.int .i64 r) (.int .i64 c) s 29
  have hO0 := hO.kept L0.below
  obtain ⟨a, cap, rfl, hr⟩ := hO.reads
  obtain ⟨a2, p2, rfl, hr2⟩ := hO2.reads
  have hp2 := own_cap hO2
  have hr0 := L0.reads hr
  clear hO hO2
  cases hg : goodB r c xs
  · rw [show turnB r c xs P = ⟨[], false⟩ by simp [turnB, okPl, hg]]
    go_enter Try.func37, Try.ntmps37
    go_wp2_with fail
    refine (at_boolB (boGood_any r c a cap xs _ hx hr0) hg).mono ?_
    rintro e w1 ⟨rfl, hb⟩
    have HB := Lib.hid (L0.kept hb).below
    clear L0 hb hg hr0 hO0
    go_wp2_with fail
    go_ret2
    exact ⟨_, rfl, Own.nil _ _, HB.out⟩
  · obtain ⟨g1, g2, g3, _⟩ := good_facts hg
    obtain ⟨n, rfl⟩ := Int.eq_ofNat_of_zero_le (show 0 ≤ r by omega)
    obtain ⟨m, rfl⟩ := Int.eq_ofNat_of_zero_le (show 0 ≤ c by omega)
    have HC := Lib.hid (at_boolB (boGood_any n m a cap xs _ hx hr0) hg)
    have HP := Lib.hid (fun W (hO : Own W lo (.slice a xs.length cap) xs) (h : Reads W a2 P.length P) => roGood_any n m xs P a2 p2 W hx hp hp2 hg lo _ hO h)
    cases hq : placeP n m xs P
    · rw [show turnB n m xs P = ⟨[], false⟩ by simp [turnB, okPl, hq]]
      rw [hq] at HP
      clear hg hr0 hq
      go_enter Try.func37, Try.ntmps37
      go_wp2_with fail
      refine HC.out.mono ?_
      rintro e w1 ⟨rfl, hb⟩
      have L1 := L0.kept hb
      have hO1 := hO0.kept hb
      have HR := Lib.hid (L1.reads hr2)
      have ⟨_, k0, k1, k2, _⟩ := L1.ownBox
      have HL := Lib.hid L1
      clear L0 L1 hb HC hO0
      go_wp2_with fail
      refine (HP.out _ hO1 HR.out).mono ?_
      rintro e w2 ⟨rfl, hb⟩
      have HB := Lib.hid (HL.out.kept hb).below
      clear HL hO1 hb k0 k1 k2 HR
      go_wp2_with fail
      go_ret2
      exact ⟨_, rfl, Own.nil _ _, HB.out⟩
    · rw [show turnB n m xs P = ⟨lstI m (trF (fun j => P.getD j 0) n), true⟩ by simp [turnB, okPl, hq, hg]]
      rw [hq] at HP
      obtain ⟨hpn, hpf⟩ := placeP_facts hq
      have HPN := Lib.hid hpn
      have HPF := Lib.hid hpf
      clear hg hr0 hq hpn hpf
      go_enter Try.func37, Try.ntmps37
      go_wp2_with fail
      refine HC.out.mono ?_
      rintro e w1 ⟨rfl, hb⟩
      have L1 := L0.kept hb
      have hO1 := hO0.kept hb
      have HR := Lib.hid (L1.reads hr2)
      have ⟨_, k0, k1, k2, _⟩ := L1.ownBox
      have HL := Lib.hid L1
      clear L0 L1 hb HC hO0
      go_wp2_with fail
      refine (HP.out _ hO1 HR.out).mono ?_
      rintro e w2 ⟨rfl, hb⟩
      have HL2 := Lib.hid ((HL.out.kept hb).own (Below.refl _ _) (Own.nil _ _))
      clear HL hO1 hb k0 k1 k2 HR HP
      go_wp2_with fail
      go_loopw [6, 7] (fun v i wr => ∃ k : Nat, k ≤ m ∧ i = .int .i64 k ∧ Law w [tOwn v (lstI k (fun _ => -1)), tBox w.heap.size (.int .i64 n) (.int .i64 m) (.slice a xs.length cap)] wr) (fun _ i _ => m - (intOf i).toNat)
      case atStart => exact ⟨0, Nat.zero_le _, rfl, HL2.out⟩
      case round =>
        clear HL2
        obtain ⟨k, hk, rfl, L⟩ := hrel
        have ⟨_, k0, k1, k2, _⟩ := L.tl.ownBox
        by_cases hkm : k < m
        · have hkm' : (k : Int) < m := by omega
          have HL := Lib.hid (L.kept (below_new (.cells #[.int .i64 (-1)] 3)))
          have HC1 := Lib.hid (show (wr.alloc (.cells #[.int .i64 (-1)] 3)).cell? ⟨wr.heap.size, 0, none⟩ = some (.int .i64 (-1)) by simp)
          have HT := Lib.hid (show lstI k (fun _ => (-1 : Int)) ++ [-1] = lstI (k + 1) (fun _ => -1) from lstI_snoc k _)
          have hlen : (lstI k (fun _ => (-1 : Int))).length + 1 ≤ 1048576 := by rw [lstI_len]; omega
          clear L
          go_wp2_with (at_builtin; refine wp_appendI rfl _ _ rfl (-1) HL.out wr.heap.size rfl rfl HC1.out hlen _ HT.out ?_)
          intro g2 cp w3 L3
          have HL3 := Lib.hid L3
          clear L3 HL
          go_wp2_with fail
          go_roundw
          case rel => exact ⟨k + 1, by omega, by go_num, HL3.out⟩
          case measure => simp [intOf]; omega
        · obtain rfl : k = m := by omega
          have hkm' : ¬ ((k : Int) < k) := by omega
          have hm1 : 1 ≤ k := by omega
          rcases L.ownInts.cases with ⟨_, h0⟩ | ⟨g, cap2, hv, _, _, hc1, _⟩
          · have := congrArg List.length h0
            rw [lstI_len] at this
            simp at this
            omega
          · rw [lstI_len] at hv hc1
            subst hv
            rw [show lstI k (fun _ => (-1 : Int)) = lstI k (trF (fun j => P.getD j 0) 0) from rfl] at L
            have HL := Lib.hid L
            clear L hk
            go_wp2_with fail
            clear k0 k1 k2
            go_loopw [30] (fun i wr => ∃ j : Nat, j ≤ P.length ∧ i = .int .i64 j ∧ Law w [tOwn (.slice (some ⟨g, 0, none⟩) k cap2) (lstI k (trF (fun j => P.getD j 0) j)), tBox w.heap.size (.int .i64 n) (.int .i64 k) (.slice a xs.length cap)] wr) (fun i _ => P.length - (intOf i).toNat)
            case atStart => exact ⟨0, Nat.zero_le _, rfl, HL.out⟩
            case round =>
              clear HL
              obtain ⟨j, hj, rfl, L⟩ := hrel
              by_cases hlt : j < P.length
              · have hr3 := L.reads hr2
                obtain ⟨b, off, rfl, hb, hc⟩ := reads_row hr3 (by omega)
                have hck := hc j hlt
                have hjf := HPF.out j (by have := HPN.out; omega)
                have hsk := trF_skip (fun j => P.getD j 0) j
                have hst := trF_set (fun j => P.getD j 0) j
                try simp only at hsk hst
                clear hc hb hr3
                generalize P.getD j 0 = x at hck hjf hsk hst
                rcases hjf with hx1 | ⟨hx1, hx2⟩
                · have hx0 : x < 0 := by omega
                  have HL := Lib.hid (show Law w [tOwn (.slice (some ⟨g, 0, none⟩) k cap2) (lstI k (trF (fun j => P.getD j 0) (j + 1))), tBox w.heap.size (.int .i64 n) (.int .i64 k) (.slice a xs.length cap)] wr by
                    rw [lstI_congr k (trF (fun j => P.getD j 0) (j + 1)) (trF (fun j => P.getD j 0) j) (fun c _ => hsk hx1 c)]
                    exact L)
                  clear L hx1 hsk hst
                  go_wp2_with fail
                  go_roundw
                  case rel => exact ⟨j + 1, by omega, by go_num, HL.out⟩
                  case measure => simp [intOf]; omega
                · obtain ⟨d, rfl⟩ := Int.eq_ofNat_of_zero_le hx1
                  obtain ⟨hs1, hs2⟩ := hst d rfl
                  have oK := L.ownInts
                  have y1 := Own.cell (by rw [lstI_len]; exact oK) d (by rw [lstI_len]; omega)
                  have y2 := Own.free (by rw [lstI_len]; exact oK) d
                  have hS := Law.store (ts := []) L (lstI_len _ _) d (j : Int)
                  rw [lstI_set k _ (trF (fun j => P.getD j 0) (j + 1)) d _ hs1 (fun c _ hc => hs2 c hc)] at hS
                  have HS := Lib.hid hS
                  have hd0 : (0 : Int) ≤ d := by omega
                  have hd1 : (d : Int) < k := by omega
                  rw [lstI_get k _ d (by omega)] at y1
                  clear L hS oK hsk hst hs1 hs2 hx1 hx2
                  go_wp2_with fail
                  go_roundw
                  case rel => exact ⟨j + 1, by omega, by go_num, HS.out⟩
                  case measure => simp [intOf]; omega
              · obtain rfl : j = P.length := by omega
                have HL := Lib.hid L
                have HF := Lib.hid (show lstI k (trF (fun j => P.getD j 0) P.length) = lstI k (trF (fun j => P.getD j 0) n) by rw [HPN.out])
                clear L
                go_wp2_with fail
                go_ret2
                exact ⟨_, rfl, by show Own _ _ _ (lstI k (trF (fun j => P.getD j 0) n)); rw [← HF.out]; exact HL.out.ownLo, HL.out.below⟩

set_option maxRecDepth 100000 in
set_option maxHeartbeats 3200000 in
theorem implTurnP_any (r c : Int) (xs P : List Int) (w : World) (hx : xs.length ≤ 1048576) (hp : P.length ≤ 1048576) (lo : Nat) (s : Value) (lo2 : Nat) (s2 : Value) (hO : Own w lo s xs) (hO2 : Own w lo2 s2 P) :
    Calls Try.prog 38 #[.agg #[.int .i64 r, .int .i64 c, s], s2] w fun e w' => AnsL (turnB r c xs P) w e w' := by
  have L0 := (Law.start w).box (.int .i64 r) (.int .i64 c) s 29
  obtain ⟨a, cap, rfl, hr⟩ := hO.reads
  obtain ⟨a2, p2, rfl, hr2⟩ := hO2.reads
  have HP := Lib.hid (placementOn_any r c xs P _ hx hp a cap (L0.reads hr) a2 p2 (L0.reads hr2))
  clear hO hO2
  have HT : Hid (turnB r c xs P = if okPl r c xs P then ⟨lstI c.toNat (trF (fun j => P.getD j 0) r.toNat), true⟩ else ⟨[], false⟩) := Lib.hid rfl
  cases hok : okPl r c xs P
  · rw [hok] at HT
    have HOK := Lib.hid hok
    clear hok
    go_enter Try.func38, Try.ntmps38
    go_wp2_with fail
    refine HP.out.mono ?_
    rintro e w1 ⟨r', c', M, F, rfl, _, hb⟩
    rw [HOK.out]
    have L1 := ((L0.kept hb).has (gl r' c' M) 59).has (pl6 F) 70
    have HB := Lib.hid L1.below
    clear L0 hb L1 HP
    go_wp2_with fail
    go_ret2
    exact by rw [HT.out]; exact ⟨_, rfl, Own.nil _ _, HB.out⟩
  · rw [hok] at HT
    have hok' := hok
    unfold okPl at hok'
    rw [Bool.and_eq_true] at hok'
    obtain ⟨hg, hq⟩ := hok'
    obtain ⟨g1, g2, g3, _⟩ := good_facts hg
    obtain ⟨n, rfl⟩ := Int.eq_ofNat_of_zero_le (show 0 ≤ r by omega)
    obtain ⟨m, rfl⟩ := Int.eq_ofNat_of_zero_le (show 0 ≤ c by omega)
    obtain ⟨hpn, hpf⟩ := placeP_facts hq
    simp only [Int.toNat_natCast] at hpn hpf
    have HPN := Lib.hid hpn
    have HPF := Lib.hid hpf
    have HOK := Lib.hid hok
    clear hok hg hq hpn hpf
    go_enter Try.func38, Try.ntmps38
    go_wp2_with fail
    refine HP.out.mono ?_
    rintro e w1 ⟨r', c', M, F, rfl, hfr, hb⟩
    obtain ⟨rfl, rfl, hMM, hF⟩ := hfr HOK.out
    clear hMM
    simp only [Int.toNat_natCast] at hF
    subst hF
    rw [HOK.out]
    have L1 := ((L0.kept hb).has (gl n m M) 59).has (pl6 (plF P n)) 70
    rw [show (w1.alloc (.cells (gl n m M).toArray 59)).alloc (.cells (pl6 (plF P n)).toArray 70) = (w1.alloc (.cells #[.int .i64 n, .int .i64 m, .int .i64 (M 0), .int .i64 (M 1), .int .i64 (M 2), .int .i64 (M 3), .int .i64 (M 4), .int .i64 (M 5)] 59)).alloc (.cells #[.int .i64 (plF P n 0), .int .i64 (plF P n 1), .int .i64 (plF P n 2), .int .i64 (plF P n 3), .int .i64 (plF P n 4), .int .i64 (plF P n 5)] 70) from rfl] at L1
    simp only [World.size_alloc] at L1
    have HL := Lib.hid L1
    have HPF2 := Lib.hid (show ∀ k, k < 6 → plF P n k = -1 ∨ (0 ≤ plF P n k ∧ plF P n k < m) from fun k _ => by
      unfold plF
      split
      · exact HPF.out k (by assumption)
      · exact .inl rfl)
    have HFM := Lib.hid (fun c => trF_more P n 6 c (by omega))
    clear L0 hb L1 HP hfr
    go_upto_region 2 with fail
    generalize (w1.alloc (.cells #[.int .i64 n, .int .i64 m, .int .i64 (M 0), .int .i64 (M 1), .int .i64 (M 2), .int .i64 (M 3), .int .i64 (M 4), .int .i64 (M 5)] 59)).alloc (.cells #[.int .i64 (plF P n 0), .int .i64 (plF P n 1), .int .i64 (plF P n 2), .int .i64 (plF P n 3), .int .i64 (plF P n 4), .int .i64 (plF P n 5)] 70) = w5 at *
    have HTN := Lib.hid (fun W => turned_any (plF P n) W (fun k hk => by have := HPF2.out k hk; omega))
    have HLI := Lib.hid (show lstI m (trF (plF P n) 6) = lstI m (trF (fun j => P.getD j 0) n) from lstI_congr m _ _ (fun c _ => HFM.out c))
    have hm6 : m ≤ 6 := by omega
    replace HL := Lib.hid HL.out.drew
    obtain ⟨p0, p1, p2, p3, p4, p5, _⟩ := HL.out.ownHas.six
    obtain ⟨e0, e1, _⟩ := HL.out.tl.ownHas.eight
    clear e0
    go_upto_region 4 with fail
    go_region_held3 (fun w' => w'.cell? ⟨w1.heap.size + 1, 0, none⟩ = some (.int .i64 (plF P n 0)) ∧ w'.cell? ⟨w1.heap.size + 1, 1, none⟩ = some (.int .i64 (plF P n 1)) ∧ w'.cell? ⟨w1.heap.size + 1, 2, none⟩ = some (.int .i64 (plF P n 2)) ∧ w'.cell? ⟨w1.heap.size + 1, 3, none⟩ = some (.int .i64 (plF P n 3)) ∧ w'.cell? ⟨w1.heap.size + 1, 4, none⟩ = some (.int .i64 (plF P n 4)) ∧ w'.cell? ⟨w1.heap.size + 1, 5, none⟩ = some (.int .i64 (plF P n 5)) ∧ w'.cell? ⟨w1.heap.size, 1, none⟩ = some (.int .i64 m)) (first | (repeat' apply And.intro) <;> first | with_reducible assumption | assumption | exact cell_later (below_new _) (by assumption)) ((first
      | (go_at_call 77; ((with_reducible refine (HTN.out _).mono ?_); rintro e w6 ⟨rfl, hb⟩; replace HL := Lib.hid (HL.out.kept hb); replace p0 := cell_later hb p0; replace p1 := cell_later hb p1; replace p2 := cell_later hb p2; replace p3 := cell_later hb p3; replace p4 := cell_later hb p4; replace p5 := cell_later hb p5; replace e1 := cell_later hb e1; clear hb))
      | (go_at_call 62; ((with_reducible refine (list_any (trF (plF P n) 6) m _ hm6).mono ?_); rintro e w7 ⟨g, rfl, hO, hb⟩; rw [HLI.out] at hO; have HO := Lib.hid (hO.lower HL.out.below.size); replace HL := Lib.hid (HL.out.kept hb); replace p0 := cell_later hb p0; replace p1 := cell_later hb p1; replace p2 := cell_later hb p2; replace p3 := cell_later hb p3; replace p4 := cell_later hb p4; replace p5 := cell_later hb p5; replace e1 := cell_later hb e1; clear hb hO))
      | fail))
    all_goals
      have HB := Lib.hid HL.out.below
      clear HL p0 p1 p2 p3 p4 p5 e1
      go_wp2_with fail
      go_ret2
      exact by rw [HT.out]; exact ⟨_, rfl, HO.out, HB.out⟩
end Go.Proofs.Ytdimbnkgomfojaa
