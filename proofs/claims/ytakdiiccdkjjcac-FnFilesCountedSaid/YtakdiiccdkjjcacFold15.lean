import Derived.Test.YtakdiiccdkjjcacFold10
import Derived.Test.YtakdiiccdkjjcacFold13
import Derived.Test.YtakdiiccdkjjcacFold14
namespace Go.Proofs.Ytakdiiccdkjjcac
open Go.RowKit Go.WideShapes

def hgtF (xs : List Int) (n m i : Nat) : Int := (hgtL xs n m).getD i 0
def filR (r c : Int) (xs : List Int) : LR := if goodB r c xs then ⟨lstH (c.toNat + 1) (filF (hgtF xs r.toNat c.toNat) c.toNat), true⟩ else ⟨[], false⟩
theorem filR_len (r c : Int) (xs : List Int) : (filR r c xs).ys.length ≤ 1048576 := by
  unfold filR
  split
  · rename_i h
    have := good_facts h
    show (lstH _ _).length ≤ _
    rw [lstH_len]; omega
  · simp
def hgtR (r c : Int) (xs : List Int) : LR := if goodB r c xs then ⟨hgtL xs r.toNat c.toNat, true⟩ else ⟨[], false⟩
/-- Counted in the list of the first numbers. -/
def cntN (p : Nat → Bool) : Nat → Nat
  | 0 => 0
  | k + 1 => cntN p k + (if p k then 1 else 0)
theorem cntN_filter (p : Nat → Bool) (k : Nat) : ((List.range k).filter p).length = cntN p k := by
  induction k with
  | zero => rfl
  | succ k ih =>
    rw [List.range_succ, List.filter_append, List.length_append, ih, cntN]
    cases h : p k <;> simp [h]
theorem cntN_more (p q : Nat → Bool) (n : Nat) (h1 : ∀ k, k < n → q k = p k) (h2 : ∀ k, n ≤ k → q k = false) (d : Nat) : cntN q (n + d) = cntN p n := by
  induction d with
  | zero =>
    rw [Nat.add_zero]
    clear h2
    induction n with
    | zero => rfl
    | succ n ih => rw [cntN, cntN, ih (fun k hk => h1 k (by omega)), h1 n (by omega)]
  | succ d ih =>
    rw [show n + (d + 1) = (n + d) + 1 from rfl, cntN, ih, h2 (n + d) (by omega)]
    rfl
theorem or_tb (t c x : Nat) : (t ||| 2 ^ c).testBit x = (t.testBit x || decide (c = x)) := by
  rw [Nat.testBit_or, Nat.testBit_two_pow]

theorem rowM_tb (p : Nat → Bool) (m c : Nat) : (rowM p m).testBit c = (decide (c < m) && p c) := by
  induction m with
  | zero => simp [rowM]
  | succ m ih =>
    have hlt := rowM_lt p m
    rw [rowM]
    cases hp : p m
    · simp only [Bool.false_eq_true, if_false, Nat.add_zero]
      rw [ih]
      by_cases e : c = m
      · subst e; simp [hp]
      · have : decide (c < m + 1) = decide (c < m) := by rw [decide_eq_decide]; omega
        rw [this]
    · simp only [if_true]
      have h1 : rowM p m + 2 ^ m = rowM p m ||| 2 ^ m := by
        have := Nat.two_pow_add_eq_or_of_lt hlt 1
        rw [Nat.mul_one] at this
        rw [Nat.add_comm, this, Nat.or_comm]
      rw [h1, or_tb, ih]
      by_cases e : c = m
      · subst e; simp [hp]
      · have h2 : decide (c < m + 1) = decide (c < m) := by rw [decide_eq_decide]; omega
        have h3 : decide (m = c) = false := by rw [decide_eq_false_iff_not]; omega
        rw [h2, h3, Bool.or_false]
theorem pop_rowM (t : Nat → Bool) (n : Nat) (hn : n ≤ 6) : pop (rowM t n : Nat) = (cntN t n : Nat) := by
  unfold pop
  rw [Int.toNat_natCast, cntN_filter]
  have h := cntN_more t (fun b => (rowM t n).testBit b) n (fun k hk => by rw [rowM_tb]; simp [hk]) (fun k hk => by rw [rowM_tb]; simp; omega) (6 - n)
  rw [show n + (6 - n) = 6 by omega] at h
  rw [h]
theorem cntN_col (xs : List Int) (c n : Nat) : cntN (fun a => bit xs a c) n = colN xs c n := by
  induction n with
  | zero => rfl
  | succ n ih => rw [cntN, ih]; rfl
theorem turn_get (xs : List Int) (n m k : Nat) (hm : m ≤ 6) (hk : k < m) : (turnL xs n m).getD k 0 = (rowM (fun a => bit xs a k) n : Nat) := by
  unfold turnL
  have h6 : ([0, 1, 2, 3, 4, 5] : List Nat)[k]? = some k := by
    have : k = 0 ∨ k = 1 ∨ k = 2 ∨ k = 3 ∨ k = 4 ∨ k = 5 := by omega
    rcases this with rfl | rfl | rfl | rfl | rfl | rfl <;> rfl
  rw [List.getD_eq_getElem?_getD, List.getElem?_map, List.getElem?_take, if_pos hk, h6]
  rfl
theorem turn_goodB (xs : List Int) (n m : Nat) (hn : 1 ≤ n ∧ n ≤ 6) (hm : 1 ≤ m ∧ m ≤ 6) : goodB m n (turnL xs n m) = true := by
  unfold goodB
  rw [Bool.and_eq_true, Bool.and_eq_true, Bool.and_eq_true, inB_iff, inB_iff, decide_eq_true_eq]
  refine ⟨by omega, by omega, by rw [turnL_len xs n m hm.2], ?_⟩
  unfold within
  rw [List.all_eq_true]
  intro x hx
  obtain ⟨k, hk, rfl⟩ := List.mem_iff_getElem.1 hx
  have hk2 : k < m := by rw [turnL_len xs n m hm.2] at hk; exact hk
  have hg : (turnL xs n m)[k] = (turnL xs n m).getD k 0 := by simp [List.getD, hk]
  rw [hg, turn_get xs n m k hm.2 hk2]
  have h2 := rowM_lt (fun a => bit xs a k) n
  have h3 : pw n = ((2 ^ n : Nat) : Int) := by unfold pw; simp
  simp only [decide_eq_true_eq]
  rw [h3]
  omega
theorem cnt_turn (r c : Int) (xs : List Int) : cntB (turnB r c xs).r (turnB r c xs).c (turnB r c xs).xs = hgtR r c xs := by
  unfold turnB hgtR
  cases hg : goodB r c xs
  · simp [BR.zero, cntB, goodB, inB]
  · obtain ⟨g1, g2, _, _⟩ := good_facts hg
    obtain ⟨n, rfl⟩ := Int.eq_ofNat_of_zero_le (show 0 ≤ r by omega)
    obtain ⟨m, rfl⟩ := Int.eq_ofNat_of_zero_le (show 0 ≤ c by omega)
    simp only [if_true, Int.toNat_natCast]
    rw [cntB, if_pos (turn_goodB xs n m (by omega) (by omega)), Int.toNat_natCast]
    congr 1
    unfold cntL hgtL lstL
    have hm6 : m ≤ 6 := by omega
    have e : ([0, 1, 2, 3, 4, 5] : List Nat).take m = List.range m := by
      have key : ∀ m : Fin 7, ([0, 1, 2, 3, 4, 5] : List Nat).take m = List.range m := by decide
      exact key ⟨m, by omega⟩
    rw [e]
    refine List.map_congr_left (fun k hk => ?_)
    rw [turn_get xs n m k hm6 (List.mem_range.1 hk), pop_rowM _ _ (by omega), cntN_col]
    rfl

/-- What the number before brings. -/
def filP (c : Nat → Int) (m k : Nat) : Int := if k = 0 then 0 else filF c m (k - 1) * c m
theorem filF_split (c : Nat → Int) (m k : Nat) : filF c (m + 1) k = filF c m k + filP c m k := rfl
theorem filP_next (c : Nat → Int) (m k : Nat) : filP c m (k + 1) = filF c m k * c m := by unfold filP; rw [if_neg (by omega), Nat.add_sub_cancel]
/-- The next numbers, the first k told, and what the next one has so far. -/
def nxtF (c : Nat → Int) (m k i : Nat) : Int := if i < k then filF c (m + 1) i else if i = k then filP c m k else 0
def nxt2 (c : Nat → Int) (m k i : Nat) : Int := if i < k + 1 then filF c (m + 1) i else 0
theorem nxtF_zero (c : Nat → Int) (m L : Nat) : List.replicate L (0 : Int) = lstH L (nxtF c m 0) := by
  rw [lstH_zero]
  exact lstH_congr L _ _ (fun k _ => by unfold nxtF filP; simp)
theorem nxtF_full (c : Nat → Int) (m : Nat) : lstH (m + 2) (nxtF c m (m + 1)) = lstH (m + 2) (filF c (m + 1)) := lstH_congr _ _ _ (fun k hk => by
  unfold nxtF
  by_cases e : k < m + 1
  · rw [if_pos e]
  · have : k = m + 1 := by omega
    subst this
    rw [if_neg e, if_pos rfl, filF_split, filF_out c m (m + 1) (by omega), Int.zero_add])
theorem nxtF_set1 (c : Nat → Int) (m L k : Nat) : (lstH L (nxtF c m k)).set k (filF c (m + 1) k) = lstH L (nxt2 c m k) :=
  lstH_set L _ _ k _ (by unfold nxt2; rw [if_pos (by omega)]) (fun i _ hi => by
    unfold nxtF nxt2
    by_cases h : i < k
    · rw [if_pos h, if_pos (by omega)]
    · rw [if_neg h, if_neg hi, if_neg (by omega)])
theorem nxtF_set2 (c : Nat → Int) (m L k : Nat) : (lstH L (nxt2 c m k)).set (k + 1) (filP c m (k + 1)) = lstH L (nxtF c m (k + 1)) :=
  lstH_set L _ _ (k + 1) _ (by unfold nxtF; rw [if_neg (by omega), if_pos rfl]) (fun i _ hi => by
    unfold nxtF nxt2
    by_cases h : i < k + 1
    · rw [if_pos h, if_pos h]
    · rw [if_neg h, if_neg h, if_neg hi])

set_option maxRecDepth 100000 in
set_option maxHeartbeats 6400000 in
theorem specFileN_any (r c : Int) (xs : List Int) (w : World) (hx : xs.length ≤ 1048576) (lo : Nat) (s : Value) (hO : Own w lo s xs) :
    Calls Try.prog 9 #[.agg #[.int .i64 r, .int .i64 c, s]] w fun e w' => AnsL (filR r c xs) w e w' := by
  have L0 := (Law.start w).box (.int .i64 r) (.int .i64 c) s 28
  have hO0 := hO.kept L0.below
  obtain ⟨a, cap, rfl, hr⟩ := hO.reads
  have hr0 := L0.reads hr
  clear hO
  cases hg : goodB r c xs
  · rw [show filR r c xs = ⟨[], false⟩ by simp [filR, hg]]
    go_enter Try.func9, Try.ntmps9
    go_wp2_with fail
    refine (at_boolB (boGood_any r c a cap xs _ hx hr0) hg).mono ?_
    rintro e w1 ⟨rfl, hb⟩
    have HB := Lib.hid (L0.kept hb).below
    clear L0 hb hg hr0 hO0
    go_wp2_with fail
    go_ret2
    exact ⟨_, rfl, Own.nil _ _, HB.out⟩
  · obtain ⟨g1, g2, g3, _⟩ := good_facts hg
    have hgc := good_cell hg
    obtain ⟨n, rfl⟩ := Int.eq_ofNat_of_zero_le (show 0 ≤ r by omega)
    obtain ⟨m, rfl⟩ := Int.eq_ofNat_of_zero_le (show 0 ≤ c by omega)
    rw [show filR n m xs = ⟨lstH (m + 1) (filF (hgtF xs n m) m), true⟩ by simp [filR, hg]]
    have HC := Lib.hid (at_boolB (boGood_any n m a cap xs _ hx hr0) hg)
    have hn6 : n ≤ 6 := by omega
    have hm6 : m ≤ 6 := by omega
    have HH := Lib.hid (fun W (h : Own W lo (.slice a xs.length cap) xs) => fiHeights_any n m xs W hx hn6 hm6 (by omega) hgc lo _ h)
    obtain ⟨C, hC⟩ : ∃ C : Nat → Int, C = hgtF xs n m := ⟨_, rfl⟩
    rw [← hC]
    have HCB := Lib.hid (fun i => show 0 ≤ C i ∧ C i ≤ 11 by rw [hC]; exact hgtL_bd xs n m hn6 i)
    have HSM := Lib.hid (fun q (hq : q ≤ 11) k => filF_small C HCB.out q hq k)
    have HCE := Lib.hid (fun i => show (hgtL xs n m).getD i 0 = C i by rw [hC]; rfl)
    have HHL := Lib.hid (hgtL_len xs n m)
    generalize hgtL xs n m = hs at *
    clear hg hr0 hgc hC g3 g1 g2
    go_enter Try.func9, Try.ntmps9
    go_wp2_with fail
    refine HC.out.mono ?_
    rintro e w1 ⟨rfl, hb⟩
    have L1 := L0.kept hb
    have ⟨_, k0, k1, k2, _⟩ := L1.ownBox
    have L2 := L1.own (below_new _) (own_of_has (lo := w1.heap.size) (xs := [1]) (Has.new w1 [.int .i64 1] 3) (Nat.le_refl _) rfl (by show 1 ≤ maxLen; unfold maxLen; omega))
    rw [show ([1] : List Int) = lstH 1 (filF C 0) from rfl] at L2
    rw [show w1.alloc (.cells ([.int .i64 1] : List Value).toArray 3) = w1.alloc (.cells #[.int .i64 1] 3) from rfl] at L2
    have hO2 := (hO0.kept hb).kept (below_new (w := w1) (.cells #[.int .i64 1] 3))
    have ⟨_, m0, m1, m2, _⟩ := L2.tl.ownBox
    have HL2 := Lib.hid L2
    clear L0 L1 L2 hb HC hO0
    go_upto_region 4 with fail
    generalize w1.alloc (.cells #[.int .i64 1] 3) = w5 at *
    clear k0 k1 k2
    go_wp2_with fail
    refine (HH.out _ hO2).mono ?_
    rintro e w3 ⟨v, rfl, hO, hb⟩
    obtain ⟨ha, hp, rfl, hhr⟩ := hO.reads
    have L3 := HL2.out.own hb hO
    have L4 : Law w [tOwn (.slice (some ⟨w1.heap.size, 0, none⟩) 1 1) (lstH 1 (filF C 0)), tOwn (.slice ha hs.length hp) hs] w3 := by
      exact (Law.swap (L3.sub (List.Sublist.cons_cons _ (List.Sublist.cons_cons _ (List.nil_sublist _)))))
    have HL4 := Lib.hid L4
    rw [HHL.out] at HL4 ⊢
    clear HL2 hO2 hO hb hhr L3 L4 m0 m1 m2 HH
    go_wp2_with fail
    go_loopw [4, 17] (fun o i wr => ∃ (M g p : Nat), M ≤ m ∧ i = .int .i64 M ∧ o = .slice (some ⟨g, 0, none⟩) (M + 1) p ∧ Law w [tOwn (.slice (some ⟨g, 0, none⟩) (M + 1) p) (lstH (M + 1) (filF C M)), tOwn (.slice ha m hp) hs] wr) (fun _ i _ => m - (intOf i).toNat)
    case atStart => exact ⟨0, _, _, Nat.zero_le _, rfl, rfl, HL4.out⟩
    case round =>
      clear HL4
      obtain ⟨M, g, p, hMm, rfl, rfl, L⟩ := hrel
      obtain ⟨wo, rfl⟩ : ∃ wo : World, wo = wr := ⟨_, rfl⟩
      by_cases hlt : M < m
      · have o3 := L.tl.ownInts
        obtain ⟨ha', hp', he, hrd⟩ := o3.reads
        rw [HHL.out] at he hrd
        injection he with he1 he2 he3
        subst he1
        obtain ⟨hb, hoff, rfl, _, hcell⟩ := reads_row hrd (by omega)
        have hck := hcell M hlt
        rw [HCE.out M] at hck
        have hmk : ∀ w, (Instr.makeSlice 22 (.int .i64 ((M : Int) + 1 + 1)) (.int .i64 ((M : Int) + 1 + 1))).run Try.prog w = .ok (.slice (some ⟨w.heap.size, 0, none⟩) (M + 2) (M + 2)) (w.alloc (.cells (madeCells #[.int .i64 0] (M + 2)) 3)) := by
          intro w
          have := run_make_row' (P := Try.prog) 22 3 (.int .i64 0) 8 Try.underlying22 Try.infoI rfl .i64 .i64 (M + 2) (by omega) (by omega) w
          rwa [show ((M + 2 : Nat) : Int) = (M : Int) + 1 + 1 by omega] at this
        have L1 := L.own (below_new _) (own_made wo (M + 2) _ wo.heap.size rfl (Nat.le_refl _) (by omega))
        rw [nxtF_zero C M (M + 2)] at L1
        have HL1 := Lib.hid L1
        have hM6 : (M : Int) < 6 := by omega
        have hcb := HCB.out M
        obtain ⟨cm, hcm⟩ : ∃ cm, cm = C M := ⟨_, rfl⟩
        rw [← hcm] at hck hcb
        have HCM := Lib.hid hcm
        clear L L1 o3 hrd hcell hcm he2 he3
        go_wp2_with fail
        generalize wo.alloc (.cells (madeCells #[.int .i64 0] (M + 2)) 3) = w6 at *
        obtain ⟨g2, hgg⟩ : ∃ g2, g2 = wo.heap.size := ⟨_, rfl⟩
        rw [← hgg] at HL1 ⊢
        clear hmk hgg
        go_loopw [27] (fun i wr => ∃ k : Nat, k ≤ M + 1 ∧ i = .int .i64 k ∧ Law w [tOwn (.slice (some ⟨g2, 0, none⟩) (M + 2) (M + 2)) (lstH (M + 2) (nxtF C M k)), tOwn (.slice (some ⟨g, 0, none⟩) (M + 1) p) (lstH (M + 1) (filF C M)), tOwn (.slice (some ⟨hb, hoff, none⟩) m hp) hs] wr) (fun i _ => M + 1 - (intOf i).toNat)
        case atStart => exact ⟨0, Nat.zero_le _, rfl, HL1.out⟩
        case round =>
          clear HL1
          obtain ⟨k, hk, rfl, L⟩ := hrel
          by_cases hkM : k < M + 1
          · have o2 := L.tl.ownInts
            have ix := Own.cell (by rw [lstH_len]; exact o2) k (by rw [lstH_len]; exact hkM)
            rw [lstH_get _ _ _ hkM] at ix
            have o1 := L.ownInts
            have y1 := Own.cell (by rw [lstH_len]; exact o1) k (by rw [lstH_len]; omega)
            have y2 := Own.free (by rw [lstH_len]; exact o1) k
            rw [lstH_get _ _ _ (by omega), show nxtF C M k k = filP C M k by simp [nxtF]] at y1
            have hS := Law.store (ts := []) L (lstH_len _ _) k (filF C (M + 1) k)
            rw [nxtF_set1] at hS
            have o3 := Law.ownInts (s := .slice (some ⟨g2, 0, none⟩) (M + 2) (M + 2)) (by simpa using hS)
            have z1 := Own.cell (by rw [lstH_len]; exact o3) (k + 1) (by rw [lstH_len]; omega)
            have z2 := Own.free (by rw [lstH_len]; exact o3) (k + 1)
            rw [lstH_get _ _ _ (by omega), show nxt2 C M k (k + 1) = 0 by simp [nxt2]] at z1
            have hS2 := Law.store (ts := []) (show Law w ([] ++ tOwn (.slice (some ⟨g2, 0, none⟩) (M + 2) (M + 2)) (lstH (M + 2) (nxt2 C M k)) :: [tOwn (.slice (some ⟨g, 0, none⟩) (M + 1) p) (lstH (M + 1) (filF C M)), tOwn (.slice (some ⟨hb, hoff, none⟩) m hp) hs]) _ from hS) (lstH_len _ _) (k + 1) (filP C M (k + 1))
            rw [nxtF_set2] at hS2
            have b1 := HSM.out M (by omega) k
            have b2 := HSM.out (M + 1) (by omega) k
            have hsp := filF_split C M k
            have hpn := filP_next C M k
            rw [← HCM.out] at hpn
            have HS2 := Lib.hid (show Law w [tOwn (.slice (some ⟨g2, 0, none⟩) (M + 2) (M + 2)) (lstH (M + 2) (nxtF C M (k + 1))), tOwn (.slice (some ⟨g, 0, none⟩) (M + 1) p) (lstH (M + 1) (filF C M)), tOwn (.slice (some ⟨hb, hoff, none⟩) m hp) hs] _ from hS2)
            generalize filF C (M + 1) k = e1 at *
            generalize filF C M k = x at *
            generalize filP C M k = pk at *
            generalize filP C M (k + 1) = pn at *
            have b3 : 0 ≤ x * cm := Int.mul_nonneg b1.1 hcb.1
            have b4 : x * cm ≤ 743008370688 * 11 := Int.mul_le_mul b1.2 hcb.2 hcb.1 (by decide)
            rw [← hpn] at b3 b4
            have hmul : cm * x = pn := by rw [hpn, Int.mul_comm]
            have HA := Lib.hid (show wrap64 (pk + x) = e1 by rw [Int.add_comm, ← hsp]; exact IntWalk.wrap64_in _ (by omega))
            have HB0 := Lib.hid (show wrap64 (cm * x) = pn by rw [hmul]; exact IntWalk.wrap64_in _ (by omega))
            have HB1 := Lib.hid (show wrap64 pn = pn from IntWalk.wrap64_in _ (by omega))
            have k0 : (0 : Int) ≤ k := by omega
            have k1 : (k : Int) < (M : Int) + 1 := by omega
            have k2 : (k : Int) < (M : Int) + 2 := by omega
            have k3 : (k : Int) + 1 < (M : Int) + 2 := by omega
            have Z1 := Lib.hid z1
            have Z2 := Lib.hid z2
            clear b1 b2 hsp hpn b3 b4 hmul hcb hS hS2 o1 o2 o3 z1 z2 L hck
            go_upto_region 12 with fail
            rw [HA.out]
            have z1 := Z1.out
            have z2 := Z2.out
            generalize wr.setCell ⟨g2, k, none⟩ (.int .i64 e1) = w7 at *
            clear Z1 Z2 y1 y2 ix HA
            go_wp2_with fail
            go_roundw
            case rel => exact ⟨k + 1, by omega, by go_num, by first | exact HS2.out | (rw [HB0.out]; exact HS2.out) | (rw [HB0.out, HB1.out]; exact HS2.out)⟩
            case measure => simp [intOf]; omega
          · obtain rfl : k = M + 1 := by omega
            rw [nxtF_full] at L
            have HL := Lib.hid (show Law w [tOwn (.slice (some ⟨g2, 0, none⟩) (M + 2) (M + 2)) (lstH (M + 2) (filF C (M + 1))), tOwn (.slice (some ⟨hb, hoff, none⟩) m hp) hs] wr from L.sub (by simp))
            clear L hkM hck
            go_wp2_with fail
            go_roundw
            case rel => exact ⟨M + 1, _, _, by omega, by go_num, rfl, HL.out⟩
            case measure => simp [intOf]; omega
      · obtain rfl : M = m := by omega
        have HL := Lib.hid L
        clear L hlt
        go_wp2_with fail
        go_ret2
        exact ⟨_, rfl, HL.out.ownLo, HL.out.below⟩
set_option maxRecDepth 100000 in
set_option maxHeartbeats 1600000 in
theorem columnCounts_any (r c : Int) (xs : List Int) (w : World) (hx : xs.length ≤ 1048576) (lo : Nat) (s : Value) (hO : Own w lo s xs) :
    Calls Try.prog 69 #[.agg #[.int .i64 r, .int .i64 c, s]] w fun e w' => AnsL (hgtR r c xs) w e w' := by
  have HT := Lib.hid (fun W (h : Own W lo s xs) => implTurn_any r c xs W hx lo s h)
  have HTL := Lib.hid (turnB_len r c xs)
  have HE := Lib.hid (cnt_turn r c xs)
  generalize turnB r c xs = T at *
  generalize hgtR r c xs = R at *
  have L0 := (Law.start w).box (.int .i64 r) (.int .i64 c) s 28
  have hO0 := hO.kept L0.below
  have HO := Lib.hid hO
  have HO0 := Lib.hid hO0
  have HL := Lib.hid L0
  clear hO hO0 L0
  go_enter Try.func69, Try.ntmps69
  go_wp2_with fail
  refine (HT.out _ HO0.out).mono ?_
  rintro e w1 ⟨s1, rfl, hO, hb⟩
  obtain ⟨a1, p1, hv, _⟩ := hO.reads
  subst hv
  have L1 := (HL.out.own hb hO).box (.int .i64 T.r) (.int .i64 T.c) (.slice a1 T.xs.length p1) 28
  have HO2 := Lib.hid (hO.kept (below_new (w := w1) (.cells #[.int .i64 T.r, .int .i64 T.c, .slice a1 T.xs.length p1] 28)))
  have ⟨_, k0, k1, k2, _⟩ := L1.ownBox
  have HL1 := Lib.hid L1
  clear HL hO hb L1 HT HO HO0
  generalize T.r = tr at *
  generalize T.c = tc at *
  generalize T.xs = ts at *
  go_wp2_with fail
  refine (implRowCounts_any tr tc ts _ HTL.out _ _ HO2.out).mono ?_
  rintro e w2 ⟨s2, rfl, hO, hb⟩
  rw [HE.out] at *
  have HF := Lib.hid (HL1.out.own hb hO)
  clear hO hb HL1 k0 k1 k2
  go_wp2_with fail
  go_ret2
  exact ⟨_, rfl, HF.out.ownLo, HF.out.below⟩

set_option maxRecDepth 100000 in
set_option maxHeartbeats 1600000 in
theorem implFileN_any (r c : Int) (xs : List Int) (w : World) (hx : xs.length ≤ 1048576) (lo : Nat) (s : Value) (hO : Own w lo s xs) :
    Calls Try.prog 11 #[.agg #[.int .i64 r, .int .i64 c, s]] w fun e w' => AnsL (filR r c xs) w e w' := by
  have HC := Lib.hid (fun W (h : Own W lo s xs) => columnCounts_any r c xs W hx lo s h)
  have L0 := (Law.start w).box (.int .i64 r) (.int .i64 c) s 28
  have HO0 := Lib.hid (hO.kept L0.below)
  have HL := Lib.hid L0
  clear hO L0
  cases hg : goodB r c xs
  · rw [show filR r c xs = ⟨[], false⟩ by simp [filR, hg]]
    rw [show hgtR r c xs = ⟨[], false⟩ by simp [hgtR, hg]] at HC
    clear hg
    go_enter Try.func11, Try.ntmps11
    go_wp2_with fail
    refine (HC.out _ HO0.out).mono ?_
    rintro e w1 ⟨s1, rfl, hO, hb⟩
    have HB := Lib.hid (HL.out.kept hb).below
    clear hO hb HL HO0 HC
    go_wp2_with fail
    go_ret2
    exact ⟨_, rfl, Own.nil _ _, HB.out⟩
  · obtain ⟨g1, g2, g3, _⟩ := good_facts hg
    obtain ⟨n, rfl⟩ := Int.eq_ofNat_of_zero_le (show 0 ≤ r by omega)
    obtain ⟨m, rfl⟩ := Int.eq_ofNat_of_zero_le (show 0 ≤ c by omega)
    rw [show filR n m xs = ⟨lstH (m + 1) (filF (hgtF xs n m) m), true⟩ by simp [filR, hg]]
    rw [show hgtR n m xs = ⟨hgtL xs n m, true⟩ by simp [hgtR, hg]] at HC
    have HFN := Lib.hid (fun (a : Option Addr) (p : Nat) (W : World) (h : Reads W a m (hgtL xs n m)) => fileNumbers_any m (hgtL xs n m) a p W (hgtL_len _ _ _) (by omega) (hgtL_bd xs n m (by omega)) h)
    have HE : Hid ((fun i => (hgtL xs n m).getD i 0) = hgtF xs n m) := Lib.hid rfl
    rw [HE.out] at HFN
    have HHL := Lib.hid (hgtL_len xs n m)
    generalize hgtF xs n m = C at *
    generalize hgtL xs n m = hs at *
    clear hg g1 g2 g3 HE
    go_enter Try.func11, Try.ntmps11
    go_wp2_with fail
    refine (HC.out _ HO0.out).mono ?_
    rintro e w1 ⟨s1, rfl, hO, hb⟩
    obtain ⟨a1, p1, hv, hr1⟩ := hO.reads
    subst hv
    have HL1 := Lib.hid (HL.out.own hb hO)
    rw [HHL.out] at hr1 HL1 ⊢
    have HR1 := Lib.hid hr1
    clear hO hb HL HO0 HC hr1
    go_wp2_with fail
    refine (HFN.out _ _ _ HR1.out).mono ?_
    rintro e w2 ⟨g, rfl, hO, hb⟩
    have HL2 := Lib.hid (HL1.out.own hb hO)
    clear hO hb HL1 HFN HR1
    go_wp2_with fail
    go_ret2
    exact ⟨_, rfl, HL2.out.ownLo, HL2.out.below⟩
end Go.Proofs.Ytakdiiccdkjjcac
