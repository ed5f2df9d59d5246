import Derived.Test.YtakdiiccdkjjcacFold31
namespace Go.Proofs.Ytakdiiccdkjjcac
open Go.RowKit Go.WideShapes

set_option maxRecDepth 100000 in
set_option maxHeartbeats 1600000 in
theorem specIsFil_any (r c : Int) (xs F : List Int) (w : World) (hx : xs.length ≤ 1048576) (hp : F.length ≤ 1048576) (lo : Nat) (s : Value) (lo2 : Nat) (s2 : Value) (hO : Own w lo s xs) (hO2 : Own w lo2 s2 F) :
    Calls Try.prog 32 #[.agg #[.int .i64 r, .int .i64 c, s], s2] w fun e w' => AnsOO (isFilB r c xs F) w e w' := by
  have L0 := (Law.start w).box (.int .i64 r) (.int .i64 c) s 28
  have hO0 := hO.kept L0.below
  obtain ⟨a, cap, rfl, hr⟩ := hO.reads
  obtain ⟨a2, p2, rfl, hr2⟩ := hO2.reads
  have hr0 := L0.reads hr
  clear hO hO2
  cases hg : goodB r c xs
  · rw [show isFilB r c xs F = ⟨false, false⟩ by simp [isFilB, hg]]
    go_enter Try.func32, Try.ntmps32
    go_wp2_with fail
    refine (at_boolB (boGood_any r c a cap xs _ hx hr0) hg).mono ?_
    rintro e w1 ⟨rfl, hb⟩
    have HB := Lib.hid (L0.kept hb).below
    clear L0 hb hg hr0 hO0
    go_wp2_with fail
    go_ret2
    exact ⟨rfl, HB.out⟩
  · obtain ⟨g1, g2, g3, _⟩ := good_facts hg
    obtain ⟨n, rfl⟩ := Int.eq_ofNat_of_zero_le (show 0 ≤ r by omega)
    obtain ⟨m, rfl⟩ := Int.eq_ofNat_of_zero_le (show 0 ≤ c by omega)
    have HC := Lib.hid (at_boolB (boGood_any n m a cap xs _ hx hr0) hg)
    have HG := Lib.hid hg
    by_cases hn : F.length = m
    · have hne : ((F.length : Int) != m) = false := by simp [hn]
      have hde : decide ((F.length : Int) = m) = true := by simp [hn]
      cases hw : within (-1) 999 F
      · rw [show isFilB n m xs F = ⟨false, false⟩ by simp [isFilB, hw]]
        have HA := Lib.hid (fun W (h : Reads W a2 F.length F) => l1All_any a2 p2 F (-1) 999 W hp h)
        rw [hw] at HA
        clear hg hr0 hde hn hw
        go_enter Try.func32, Try.ntmps32
        go_wp2_with fail
        refine HC.out.mono ?_
        rintro e w1 ⟨rfl, hb⟩
        have L1 := L0.kept hb
        have HR := Lib.hid (L1.reads hr2)
        have ⟨_, k0, k1, k2, _⟩ := L1.ownBox
        have HL := Lib.hid L1
        clear L0 L1 hb HC hO0
        go_wp2_with fail
        refine (HA.out _ HR.out).mono ?_
        rintro e w' ⟨rfl, rfl⟩
        have HB := Lib.hid HL.out.below
        clear HL HR k0 k1 k2
        go_wp2_with fail
        go_ret2
        exact ⟨rfl, HB.out⟩
      · rw [show isFilB n m xs F = ⟨filUp xs n F F.length, true⟩ by simp [isFilB, hw, hg, hn]]
        have HA := Lib.hid (fun W (h : Reads W a2 F.length F) => l1All_any a2 p2 F (-1) 999 W hp h)
        rw [hw] at HA
        have HN := Lib.hid hn
        clear hg hr0 hde hn hw
        go_enter Try.func32, Try.ntmps32
        go_wp2_with fail
        refine HC.out.mono ?_
        rintro e w1 ⟨rfl, hb⟩
        have L1 := L0.kept hb
        have HO1 := Lib.hid (hO0.kept hb)
        have HR := Lib.hid (L1.reads hr2)
        have ⟨_, k0, k1, k2, _⟩ := L1.ownBox
        have HL := Lib.hid L1
        clear L0 L1 hb HC hO0
        go_wp2_with fail
        refine (HA.out _ HR.out).mono ?_
        rintro e w' ⟨rfl, rfl⟩
        go_wp2_with fail
        refine (fiGood_any n m xs F a2 p2 _ hx hp HG.out HN.out lo _ HO1.out HR.out).mono ?_
        rintro e w2 ⟨rfl, hb⟩
        have HB := Lib.hid (HL.out.kept hb).below
        clear HL HO1 hb k0 k1 k2 HR
        go_wp2_with fail
        go_ret2
        exact ⟨rfl, HB.out⟩
    · have hne : ((F.length : Int) != m) = true := by simp; omega
      rw [show isFilB n m xs F = ⟨false, false⟩ by simp [isFilB]; intro _ h; omega]
      clear hg hr0 hn
      go_enter Try.func32, Try.ntmps32
      go_wp2_with fail
      refine HC.out.mono ?_
      rintro e w1 ⟨rfl, hb⟩
      have L1 := L0.kept hb
      have ⟨_, k0, k1, k2, _⟩ := L1.ownBox
      have HB := Lib.hid L1.below
      clear L0 L1 hb HC hO0
      go_wp2_with fail
      go_ret2
      exact ⟨rfl, HB.out⟩

theorem within_stop (lo hi : Int) (F : List Int) (k : Nat) (hk : k < F.length) (h : within lo hi F = true) : lo ≤ F.getD k 0 ∧ F.getD k 0 ≤ hi := within_at lo hi F h k hk
set_option maxRecDepth 100000 in
set_option maxHeartbeats 3200000 in
theorem implIsFil_any (r c : Int) (xs F : List Int) (w : World) (hx : xs.length ≤ 1048576) (hp : F.length ≤ 1048576) (lo : Nat) (s : Value) (lo2 : Nat) (s2 : Value) (hO : Own w lo s xs) (hO2 : Own w lo2 s2 F) :
    Calls Try.prog 31 #[.agg #[.int .i64 r, .int .i64 c, s], s2] w fun e w' => AnsOO (isFilB r c xs F) w e w' := by
  have L0 := (Law.start w).box (.int .i64 r) (.int .i64 c) s 28
  obtain ⟨a, cap, rfl, hr⟩ := hO.reads
  obtain ⟨a2, p2, rfl, hr2⟩ := hO2.reads
  have hr0 := L0.reads hr
  clear hO hO2
  cases hg : goodB r c xs
  · rw [show isFilB r c xs F = ⟨false, false⟩ by simp [isFilB, hg]]
    go_enter Try.func31, Try.ntmps31
    go_wp2_with fail
    refine (gridOf_no r c a cap xs _ hx hr0 hg).mono ?_
    rintro e w1 ⟨rfl, hb⟩
    have HB := Lib.hid (((L0.kept hb).kept (below_new (.cells #[.int .i64 0, .int .i64 0, .int .i64 0, .int .i64 0, .int .i64 0, .int .i64 0, .int .i64 0, .int .i64 0] 83))).below)
    clear L0 hb hg hr0
    go_wp2_with fail
    go_ret2
    exact ⟨rfl, HB.out⟩
  · obtain ⟨g1, g2, g3, _⟩ := good_facts hg
    have hgc := good_cell hg
    obtain ⟨n, rfl⟩ := Int.eq_ofNat_of_zero_le (show 0 ≤ r by omega)
    obtain ⟨m, rfl⟩ := Int.eq_ofNat_of_zero_le (show 0 ≤ c by omega)
    obtain ⟨M, hM, hc⟩ := gridOf_good n m a cap xs _ hx hr0 hg
    have HC := Lib.hid hc
    by_cases hn : F.length = m
    · have hne : ((F.length : Int) != m) = false := by simp [hn]
      have HI := Lib.hid (fun W (h : Reads W a2 F.length F) => isFiles_any n m xs F M hM a2 p2 W hp (by omega) (by omega) hn hgc h)
      have HRES := Lib.hid (show isFilB n m xs F = if within (-1) 999 F then ⟨filUp xs n F F.length, true⟩ else ⟨false, false⟩ by simp [isFilB, hg, hn])
      have HR2 := Lib.hid hr2
      clear hg hr0 hgc hc hM hn hr hr2
      go_enter Try.func31, Try.ntmps31
      go_wp2_with fail
      refine HC.out.mono ?_
      rintro e w1 ⟨rfl, hb⟩
      have L1 := ((L0.kept hb).kept (below_new (.cells (gl n m M).toArray 83)))
      have HL := Lib.hid ((L0.kept hb).has (gl n m M) 83)
      obtain ⟨g0, g1, g2, g3, g4, g5, g6, g7, _⟩ := HL.out.ownHas.eight
      clear L0 hb HC L1
      go_upto_region 4 with fail

      obtain ⟨bg, hbg⟩ : ∃ bg, bg = w1.heap.size := ⟨_, rfl⟩
      rw [← hbg] at HL ⊢
      clear g0 g1 g2 g3 g4 g5 g6 g7 hbg
      go_wp2_with fail
      go_loopw [26] (fun i wr => ∃ k : Nat, k ≤ F.length ∧ i = .int .i64 k ∧ Hid (within (-1) 999 (F.take k) = true) ∧ Law w [tHas bg (gl n m M) 83, tBox w.heap.size (.int .i64 n) (.int .i64 m) (.slice a xs.length cap)] wr) (fun i _ => F.length - (intOf i).toNat)
      case atStart => exact ⟨0, Nat.zero_le _, rfl, Lib.hid rfl, HL.out⟩
      case round =>
        clear HL
        obtain ⟨k, hk, rfl, HU, L⟩ := hrel
        have HL := Lib.hid L
        by_cases hlt : k < F.length
        · have hr2 := L.reads HR2.out
          obtain ⟨b, off, rfl, hb, hc⟩ := reads_row hr2 (by omega)
          have hck := hc k hlt
          have hnx := within_upto (-1) 999 F k hlt HU.out
          have hno := within_no (-1) 999 F k hlt
          clear hc hb L hr2
          generalize F.getD k 0 = x at *
          by_cases h1 : x < -1
          · have HNX := Lib.hid (hno (by omega))
            rw [HNX.out] at HRES
            clear hno hnx
            have HB := Lib.hid HL.out.below
            go_wp2_with fail
            go_ret2
            exact ⟨by rw [HRES.out]; rfl, HB.out⟩
          · by_cases h2 : x < 1000
            · have HNX := Lib.hid (hnx (by omega))
              clear hno hnx
              go_wp2_with fail
              go_roundw
              case rel => exact ⟨k + 1, by omega, by go_num, HNX, HL.out⟩
              case measure => simp [intOf]; omega
            · have HNX := Lib.hid (hno (by omega))
              rw [HNX.out] at HRES
              clear hno hnx
              have HB := Lib.hid HL.out.below
              go_wp2_with fail
              go_ret2
              exact ⟨by rw [HRES.out]; rfl, HB.out⟩
        · obtain rfl : k = F.length := by omega
          have hw := HU.out
          rw [List.take_length] at hw
          rw [hw] at HRES
          obtain ⟨g0, g1, g2, g3, g4, g5, g6, g7, _⟩ := L.ownHas.eight
          have HR3 := Lib.hid (L.reads HR2.out)
          clear L hw HU
          go_wp2_with fail
          refine (HI.out _ HR3.out).mono ?_
          rintro e w2 ⟨rfl, hb⟩
          have HB := Lib.hid (HL.out.kept hb).below
          clear hb g0 g1 g2 g3 g4 g5 g6 g7
          go_wp2_with fail
          go_ret2
          exact ⟨by rw [HRES.out]; rfl, HB.out⟩
    · have hne : ((F.length : Int) != m) = true := by simp; omega
      rw [show isFilB n m xs F = ⟨false, false⟩ by simp [isFilB]; intro _ h; omega]
      clear hg hr0 hn hgc hc hM
      go_enter Try.func31, Try.ntmps31
      go_wp2_with fail
      refine HC.out.mono ?_
      rintro e w1 ⟨rfl, hb⟩
      have HL := Lib.hid ((L0.kept hb).has (gl n m M) 83)
      obtain ⟨g0, g1, g2, g3, g4, g5, g6, g7, _⟩ := HL.out.ownHas.eight
      have HB := Lib.hid HL.out.below
      clear L0 hb HC HL
      go_wp2_with fail
      go_ret2
      exact ⟨rfl, HB.out⟩
end Go.Proofs.Ytakdiiccdkjjcac
