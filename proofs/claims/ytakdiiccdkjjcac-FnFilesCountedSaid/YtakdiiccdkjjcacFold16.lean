import Derived.Test.YtakdiiccdkjjcacFold15
import Derived.Test.YtakdiiccdkjjcacFold9
import Derived.Test.YtakdiiccdkjjcacFold7

section
namespace Go.Proofs.Ytakdiiccdkjjcac
open Go.RowKit Go.WideShapes

/-- The product over the first columns. -/
def prdF (c : Nat → Int) (x : Int) : Nat → Int
  | 0 => 1
  | k + 1 => wrap64 (prdF c x k * (x + c k))
def valR (r c : Int) (xs : List Int) (x : Int) : R1 := if goodB r c xs && inB (-100) x 100 then ⟨prdF (hgtF xs r.toNat c.toNat) x c.toNat, true⟩ else ⟨0, false⟩

set_option maxRecDepth 100000 in
set_option maxHeartbeats 1600000 in
theorem implFileV_any (r c : Int) (xs : List Int) (x : Int) (w : World) (hx : xs.length ≤ 1048576) (lo : Nat) (s : Value) (hO : Own w lo s xs) :
    Calls Try.prog 18 #[.agg #[.int .i64 r, .int .i64 c, s], .int .i64 x] w fun e w' => AnsIO (valR r c xs x) w e w' := by
  have HC := Lib.hid (fun W (h : Own W lo s xs) => columnCounts_any r c xs W hx lo s h)
  have L0 := (Law.start w).box (.int .i64 r) (.int .i64 c) s 28
  have HO0 := Lib.hid (hO.kept L0.below)
  have HL := Lib.hid L0
  clear hO L0
  cases hg : goodB r c xs
  · rw [show valR r c xs x = ⟨0, false⟩ by simp [valR, hg]]
    rw [show hgtR r c xs = ⟨[], false⟩ by simp [hgtR, hg]] at HC
    clear hg
    go_enter Try.func18, Try.ntmps18
    go_wp2_with fail
    refine (HC.out _ HO0.out).mono ?_
    rintro e w1 ⟨s1, rfl, hO, hb⟩
    have HB := Lib.hid (HL.out.kept hb).below
    clear hO hb HL HO0 HC
    go_wp2_with fail
    go_ret2
    exact ⟨rfl, HB.out⟩
  · obtain ⟨g1, g2, g3, _⟩ := good_facts hg
    obtain ⟨n, rfl⟩ := Int.eq_ofNat_of_zero_le (show 0 ≤ r by omega)
    obtain ⟨m, rfl⟩ := Int.eq_ofNat_of_zero_le (show 0 ≤ c by omega)
    rw [show hgtR n m xs = ⟨hgtL xs n m, true⟩ by simp [hgtR, hg]] at HC
    have HHL := Lib.hid (hgtL_len xs n m)
    by_cases h1 : x < -100
    · rw [show valR n m xs x = ⟨0, false⟩ by simp [valR, inB]; omega]
      generalize hgtL xs n m = hs at *
      clear hg g1 g2 g3
      go_enter Try.func18, Try.ntmps18
      go_wp2_with fail
      refine (HC.out _ HO0.out).mono ?_
      rintro e w1 ⟨s1, rfl, hO, hb⟩
      have HB := Lib.hid (HL.out.kept hb).below
      clear hO hb HL HO0 HC
      go_wp2_with fail
      go_ret2
      exact ⟨rfl, HB.out⟩
    · by_cases h2 : 100 < x
      · rw [show valR n m xs x = ⟨0, false⟩ by simp [valR, inB]; omega]
        generalize hgtL xs n m = hs at *
        clear hg g1 g2 g3
        go_enter Try.func18, Try.ntmps18
        go_wp2_with fail
        refine (HC.out _ HO0.out).mono ?_
        rintro e w1 ⟨s1, rfl, hO, hb⟩
        have HB := Lib.hid (HL.out.kept hb).below
        clear hO hb HL HO0 HC
        go_wp2_with fail
        go_ret2
        exact ⟨rfl, HB.out⟩
      · rw [show valR n m xs x = ⟨prdF (hgtF xs n m) x m, true⟩ by simp [valR, hg, inB_yes (show -100 ≤ x by omega) (show x ≤ 100 by omega)]]
        obtain ⟨C, hC⟩ : ∃ C : Nat → Int, C = hgtF xs n m := ⟨_, rfl⟩
        rw [← hC]
        have HCB := Lib.hid (fun i => show 0 ≤ C i ∧ C i ≤ 11 by rw [hC]; exact hgtL_bd xs n m (by omega) i)
        have HCE := Lib.hid (fun i => show (hgtL xs n m).getD i 0 = C i by rw [hC]; rfl)
        generalize hgtL xs n m = hs at *
        have hm6 : m ≤ 6 := by omega
        clear hg g1 g2 g3 hC
        go_enter Try.func18, Try.ntmps18
        go_wp2_with fail
        refine (HC.out _ HO0.out).mono ?_
        rintro e w1 ⟨s1, rfl, hO, hb⟩
        obtain ⟨a1, p1, hv, hr1⟩ := hO.reads
        subst hv
        have HL1 := Lib.hid (HL.out.own hb hO)
        rw [HHL.out] at hr1 HL1 ⊢
        have HR1 := Lib.hid hr1
        clear hO hb HL HO0 HC hr1
        go_wp2_with fail
        go_loop [8, 28] (fun v i => ∃ k : Nat, k ≤ m ∧ i = .int .i64 k ∧ v = .int .i64 (prdF C x k)) (fun _ i => m - (intOf i).toNat)
        case atStart => exact ⟨0, Nat.zero_le _, rfl, rfl⟩
        case round =>
          obtain ⟨k, hk, rfl, rfl⟩ := hrel
          by_cases hlt : k < m
          · obtain ⟨b, off, rfl, hb, hc⟩ := reads_row HR1.out (by omega)
            have hck := hc k hlt
            rw [HCE.out k] at hck
            have hcb := HCB.out k
            have HN := Lib.hid (show prdF C x (k + 1) = wrap64 (prdF C x k * (x + C k)) from rfl)
            generalize prdF C x k = z at *
            generalize C k = y at *
            have hk1 : (k : Int) < m := by omega
            clear hc hb
            go_wp2_with fail
            go_round
            case rel => exact ⟨k + 1, by omega, by go_num, by rw [HN.out]⟩
            case measure => simp [intOf]; omega
          · obtain rfl : k = m := by omega
            have HB := Lib.hid HL1.out.below
            go_wp2_with fail
            go_ret2
            exact ⟨rfl, HB.out⟩

set_option maxRecDepth 100000 in
set_option maxHeartbeats 1600000 in
theorem specFileV_any (r c : Int) (xs : List Int) (x : Int) (w : World) (hx : xs.length ≤ 1048576) (lo : Nat) (s : Value) (hO : Own w lo s xs) :
    Calls Try.prog 17 #[.agg #[.int .i64 r, .int .i64 c, s], .int .i64 x] w fun e w' => AnsIO (valR r c xs x) w e w' := by
  have L0 := (Law.start w).box (.int .i64 r) (.int .i64 c) s 28
  have hO0 := hO.kept L0.below
  obtain ⟨a, cap, rfl, hr⟩ := hO.reads
  have hr0 := L0.reads hr
  have HI := Lib.hid (fun W => l1In_any x (-100) 100 W)
  clear hO
  cases hg : goodB r c xs
  · rw [show valR r c xs x = ⟨0, false⟩ by simp [valR, hg]]
    go_enter Try.func17, Try.ntmps17
    go_wp2_with fail
    refine (at_boolB (boGood_any r c a cap xs _ hx hr0) hg).mono ?_
    rintro e w1 ⟨rfl, hb⟩
    have HB := Lib.hid (L0.kept hb).below
    clear L0 hb hg hr0 hO0
    go_wp2_with fail
    go_ret2
    exact ⟨rfl, HB.out⟩
  · obtain ⟨g1, g2, g3, _⟩ := good_facts hg
    have hgc := good_cell hg
    obtain ⟨n, rfl⟩ := Int.eq_ofNat_of_zero_le (show 0 ≤ r by omega)
    obtain ⟨m, rfl⟩ := Int.eq_ofNat_of_zero_le (show 0 ≤ c by omega)
    have HC := Lib.hid (at_boolB (boGood_any n m a cap xs _ hx hr0) hg)
    cases hi : inB (-100) x 100
    · rw [show valR n m xs x = ⟨0, false⟩ by simp [valR, hi]]
      rw [hi] at HI
      clear hi hg hr0 hgc g1 g2 g3
      go_enter Try.func17, Try.ntmps17
      go_wp2_with fail
      refine HC.out.mono ?_
      rintro e w1 ⟨rfl, hb⟩
      have HB := Lib.hid (L0.kept hb).below
      clear L0 hb HC hO0
      go_wp2_with fail
      refine (HI.out _).mono ?_
      rintro e w2 ⟨rfl, rfl⟩
      go_wp2_with fail
      go_ret2
      exact ⟨rfl, HB.out⟩
    · rw [show valR n m xs x = ⟨prdF (hgtF xs n m) x m, true⟩ by simp [valR, hg, hi]]
      rw [hi] at HI
      have hn6 : n ≤ 6 := by omega
      have hm6 : m ≤ 6 := by omega
      have hx1 := inB_iff.1 hi
      have HH := Lib.hid (fun W (h : Own W lo (.slice a xs.length cap) xs) => fiHeights_any n m xs W hx hn6 hm6 (by omega) hgc lo _ h)
      obtain ⟨C, hC⟩ : ∃ C : Nat → Int, C = hgtF xs n m := ⟨_, rfl⟩
      rw [← hC]
      have HCB := Lib.hid (fun i => show 0 ≤ C i ∧ C i ≤ 11 by rw [hC]; exact hgtL_bd xs n m hn6 i)
      have HCE := Lib.hid (fun i => show (hgtL xs n m).getD i 0 = C i by rw [hC]; rfl)
      have HHL := Lib.hid (hgtL_len xs n m)
      generalize hgtL xs n m = hs at *
      clear hg hr0 hgc hC g3 g1 g2 hi
      go_enter Try.func17, Try.ntmps17
      go_wp2_with fail
      refine HC.out.mono ?_
      rintro e w1 ⟨rfl, hb⟩
      have L1 := L0.kept hb
      have ⟨_, k0, k1, k2, _⟩ := L1.ownBox
      have hO2 := hO0.kept hb
      have HL1 := Lib.hid L1
      clear L0 L1 hb HC hO0
      go_wp2_with fail
      refine (HI.out _).mono ?_
      rintro e w2 ⟨rfl, hw⟩
      subst w2
      go_wp2_with fail
      refine (HH.out _ hO2).mono ?_
      rintro e w3 ⟨v, rfl, hO, hb⟩
      obtain ⟨ha, hp, rfl, hhr⟩ := hO.reads
      have HL3 := Lib.hid (HL1.out.own hb hO)
      rw [HHL.out] at hhr HL3 ⊢
      have HR1 := Lib.hid hhr
      clear HL1 hO2 hO hb hhr k0 k1 k2 HH
      go_wp2_with fail
      go_loop [6, 20] (fun v i => ∃ k : Nat, k ≤ m ∧ i = .int .i64 k ∧ v = .int .i64 (prdF C x k)) (fun _ i => m - (intOf i).toNat)
      case atStart => exact ⟨0, Nat.zero_le _, rfl, rfl⟩
      case round =>
        obtain ⟨k, hk, rfl, rfl⟩ := hrel
        by_cases hlt : k < m
        · obtain ⟨b, off, rfl, hb, hc⟩ := reads_row HR1.out (by omega)
          have hck := hc k hlt
          rw [HCE.out k] at hck
          have hcb := HCB.out k
          have HN := Lib.hid (show prdF C x (k + 1) = wrap64 (prdF C x k * (x + C k)) from rfl)
          generalize prdF C x k = z at *
          generalize C k = y at *
          have hk1 : (k : Int) < m := by omega
          clear hc hb
          go_wp2_with fail
          go_round
          case rel => exact ⟨k + 1, by omega, by go_num, by rw [HN.out]⟩
          case measure => simp [intOf]; omega
        · obtain rfl : k = m := by omega
          have HB := Lib.hid HL3.out.below
          go_wp2_with fail
          go_ret2
          exact ⟨rfl, HB.out⟩
end Go.Proofs.Ytakdiiccdkjjcac
end

section
namespace Go.Proofs.Ytakdiiccdkjjcac
open Go.RowKit Go.WideShapes

theorem wrap_n9 (q : Nat) (h : q ≤ 1000000000) : wrap64 (q : Int) = q := IntWalk.wrap64_in _ (by omega)
/-- What a number is multiplied by on its way to the next row. -/
def facT (kind m k : Nat) : Nat := if kind = 1 then m else if kind = 2 then m + k else k
def triF (kind : Nat) : Nat → Nat → Nat
  | 0, k => if k = 0 then 1 else 0
  | m + 1, k => (if k = 0 then 0 else triF kind m (k - 1)) + facT kind m k * triF kind m k
/-- What the number before brings. -/
def triP (kind m k : Nat) : Nat := if k = 0 then 0 else triF kind m (k - 1)
theorem triF_next (kind m k : Nat) : triF kind (m + 1) k = triP kind m k + facT kind m k * triF kind m k := rfl
theorem triP_next (kind m k : Nat) : triP kind m (k + 1) = triF kind m k := rfl
theorem tri_bd (kind n k : Nat) (hd : kind ≤ 2) (hn : n ≤ 10) (hk : k ≤ 11) : triF kind n k ≤ 40000000 := by
  have key : ∀ d : Fin 3, ∀ n : Fin 11, ∀ k : Fin 12, triF d n k ≤ 40000000 := by decide +kernel
  exact key ⟨kind, by omega⟩ ⟨n, by omega⟩ ⟨k, by omega⟩
theorem tri_out (kind n : Nat) (hd : kind ≤ 2) (hn : n ≤ 10) : triF kind n (n + 1) = 0 := by
  have key : ∀ d : Fin 3, ∀ n : Fin 11, triF d n (n + 1) = 0 := by decide +kernel
  exact key ⟨kind, by omega⟩ ⟨n, by omega⟩
/-- The next row: the first k told, the next one so far. -/
def triN (kind M k i : Nat) : Nat := if i < k then triF kind (M + 1) i else if i = k then triP kind M k else 0
/-- .. and the one behind, too. -/
def triN2 (kind M k i : Nat) : Nat := if i < k then triF kind (M + 1) i else if i = k then triP kind M k else if i = k + 1 then triF kind M k else 0
theorem triN_zero (kind M L : Nat) : List.replicate L (0 : Int) = lstL L (triN kind M 0) := by
  rw [lstL_zero]
  exact lstL_congr L _ _ (fun k _ => by unfold triN triP; simp)
theorem triN_full (kind M : Nat) (hd : kind ≤ 2) (h : M ≤ 9) : lstL (M + 2) (triN kind M (M + 1)) = lstL (M + 2) (triF kind (M + 1)) := lstL_congr _ _ _ (fun k hk => by
  unfold triN
  by_cases e : k < M + 1
  · rw [if_pos e]
  · have : k = M + 1 := by omega
    subst this
    rw [if_neg e, if_pos rfl, triF_next, tri_out kind M hd (by omega), Nat.mul_zero]
    rfl)
theorem triN_set1 (kind M L k : Nat) : (lstL L (triN kind M k)).set (k + 1) ((triF kind M k : Nat) : Int) = lstL L (triN2 kind M k) :=
  lstL_set L _ _ (k + 1) _ (by unfold triN2; rw [if_neg (by omega), if_neg (by omega), if_pos rfl]) (fun i _ hi => by
    unfold triN triN2
    by_cases h : i < k
    · rw [if_pos h, if_pos h]
    · rw [if_neg h, if_neg h]
      by_cases h2 : i = k
      · rw [if_pos h2, if_pos h2]
      · rw [if_neg h2, if_neg h2, if_neg hi])
theorem triN_set2 (kind M L k : Nat) : (lstL L (triN2 kind M k)).set k ((triF kind (M + 1) k : Nat) : Int) = lstL L (triN kind M (k + 1)) :=
  lstL_set L _ _ k _ (by simp [triN]) (fun i _ hi => by
    unfold triN triN2
    by_cases h : i < k
    · rw [if_pos h, if_pos (by omega)]
    · rw [if_neg h, if_neg hi]
      by_cases h2 : i = k + 1
      · rw [if_pos h2, if_neg (by omega), if_pos h2, triP_next]
      · rw [if_neg h2, if_neg (by omega), if_neg h2])



end Go.Proofs.Ytakdiiccdkjjcac
end

section
namespace Go.Proofs.Ytakdiiccdkjjcac
open Go.RowKit Go.WideShapes

def askedB (n k : Int) : Bool := inB 0 n 10 && inB 0 k n
def triR (kind : Nat) (n k : Int) : R1 := if askedB n k then ⟨(triF kind n.toNat k.toNat : Nat), true⟩ else ⟨0, false⟩
def sumU (f : Nat → Nat) : Nat → Nat
  | 0 => 0
  | k + 1 => sumU f k + f k
def parR (n : Int) : R1 := if inB 0 n 10 then ⟨(sumU (triF 0 n.toNat) (n.toNat + 1) : Nat), true⟩ else ⟨0, false⟩
theorem askedB_facts {n k : Int} (h : askedB n k = true) : ∃ N K : Nat, n = N ∧ k = K ∧ N ≤ 10 ∧ K ≤ N := by
  unfold askedB at h
  rw [Bool.and_eq_true, inB_iff, inB_iff] at h
  exact ⟨n.toNat, k.toNat, by omega, by omega, by omega, by omega⟩
theorem sumU_bd (n k : Nat) (hn : n ≤ 10) (hk : k ≤ n + 1) : sumU (triF 0 n) k ≤ 1000000 := by
  have key : ∀ n : Fin 11, ∀ k : Fin 12, sumU (triF 0 n) k ≤ 1000000 := by decide +kernel
  exact key ⟨n, by omega⟩ ⟨k, by omega⟩




end Go.Proofs.Ytakdiiccdkjjcac
end
