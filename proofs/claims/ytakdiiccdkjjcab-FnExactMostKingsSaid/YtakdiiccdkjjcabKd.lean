/- Lists added at each index, in the program; the weights behind a row. No condition but the sizes. -/
import Derived.Test.YtakdiiccdkjjcabKc
import Derived.Test.YtakdiiccdkjjcabKb
import Derived.Test.YtakdiiccdkjjcabM4
namespace Go.Proofs.Ytakdiiccdkjjcab
open Go.RowKit Go.WideShapes

/-- All lists added. -/
def sumR (rss : List (List Int)) : List Int := rss.foldl addL []
theorem sumR_snoc (rss : List (List Int)) (x : List Int) : sumR (rss ++ [x]) = addL (sumR rss) x := by simp [sumR]
theorem sumR_take (rss : List (List Int)) (k : Nat) (h : k < rss.length) : sumR (rss.take (k + 1)) = addL (sumR (rss.take k)) rss[k] := by
  rw [List.take_succ_eq_append_getElem h, sumR_snoc]
/-- The longest one of the first k. -/
theorem sumR_len (rss : List (List Int)) (k : Nat) (h : k < rss.length) : (sumR (rss.take (k + 1))).length = max (sumR (rss.take k)).length rss[k].length := by
  rw [sumR_take rss k h, addL_len]
theorem sumR_mono (rss : List (List Int)) (k n : Nat) (hk : k ≤ n) (hn : n ≤ rss.length) : (sumR (rss.take k)).length ≤ (sumR (rss.take n)).length := by
  induction n with
  | zero => rw [show k = 0 by omega]; exact Nat.le_refl _
  | succ n ih =>
    by_cases e : k = n + 1
    · rw [e]; exact Nat.le_refl _
    · have := ih (by omega) (by omega)
      rw [sumR_len rss n (by omega)]
      omega
theorem sumR_row (rss : List (List Int)) (k : Nat) (h : k < rss.length) : rss[k].length ≤ (sumR rss).length := by
  have a := sumR_len rss k h
  have b := sumR_mono rss (k + 1) rss.length (by omega) (Nat.le_refl _)
  rw [List.take_length] at b
  omega
/-- In the midst of the row r: the sums of the first j numbers have it already. -/
def midA (A r : List Int) (j e : Nat) : Int := if e < j then A.getD e 0 + r.getD e 0 else A.getD e 0
theorem midA_zero (A r : List Int) : midA A r 0 = fun e => A.getD e 0 := by funext e; simp [midA]
theorem midA_full (A r : List Int) (e : Nat) : midA A r r.length e = (addL A r).getD e 0 := by
  rw [addL_get]
  unfold midA
  split
  · rfl
  · rename_i h
    rw [getD_far r e (by omega), Int.add_zero]
theorem midA_set (L : Nat) (A r : List Int) (j : Nat) : (lstI L (midA A r j)).set j (A.getD j 0 + r.getD j 0) = lstI L (midA A r (j + 1)) :=
  lstI_set L _ _ j _ (by simp [midA]) (fun k _ hk => by
    unfold midA
    by_cases h : k < j
    · rw [if_pos h, if_pos (by omega)]
    · rw [if_neg h, if_neg (by omega)])
theorem midA_at (A r : List Int) (j : Nat) : midA A r j j = A.getD j 0 := by simp [midA]

set_option maxRecDepth 100000 in
set_option maxHeartbeats 6400000 in
theorem added_any (a : Option Addr) (c : Nat) (rss : List (List Int)) (w : World) (hn : rss.length ≤ 1048576) (hl : (sumR rss).length ≤ 1048576) (hr : ReadsM w a rss.length rss)
    (hb : ∀ k (h : k < rss.length) e, IntKind.i64.wrap ((sumR (rss.take k)).getD e 0 + rss[k].getD e 0) = (sumR (rss.take k)).getD e 0 + rss[k].getD e 0) :
    Calls Try.prog 113 #[.slice a rss.length c] w fun e w' => ∃ v, e = .returned v ∧ Own w' w.heap.size v (sumR rss) ∧ Below w.heap.size w w' := by
  have HR := Lib.hid hr
  have HB := Lib.hid hb
  obtain ⟨T, hT⟩ : ∃ T, T = (sumR rss).length := ⟨_, rfl⟩
  have hT1 : T ≤ 1048576 := by rw [hT]; exact hl
  have HT := Lib.hid hT
  have HTR := Lib.hid (fun k (h : k < rss.length) => show rss[k].length ≤ T by rw [hT]; exact sumR_row rss k h)
  have hmk : ∀ w, (Instr.makeSlice 22 (.int .i64 (T : Int)) (.int .i64 (T : Int))).run Try.prog w = .ok (.slice (some ⟨w.heap.size, 0, none⟩) T T) (w.alloc (.cells (madeCells #[.int .i64 0] T) 3)) := by
    intro w
    exact run_make_row' (P := Try.prog) 22 3 (.int .i64 0) 8 Try.underlying22 Try.infoI rfl .i64 .i64 T (by omega) (by omega) w
  have hs0 : lstI T (fun e => (sumR (rss.take 0)).getD e 0) = List.replicate T 0 := by rw [lstI_zero]; exact lstI_congr _ _ _ (fun k _ => by simp [sumR])
  have hs1 : lstI T (fun e => (sumR (rss.take rss.length)).getD e 0) = sumR rss := by rw [List.take_length, hT]; exact lstI_self _
  have HS0 := Lib.hid hs0
  have HS1 := Lib.hid hs1
  clear hr hb hT hs0 hs1 hl
  go_enter Try.func113, Try.ntmps113
  go_wp2_with fail
  go_loopw [3, 13] (fun z i wr => ∃ k : Nat, k ≤ rss.length ∧ i = .int .i64 k ∧ z = .int .i64 ((sumR (rss.take k)).length : Int) ∧ w = wr) (fun _ i _ => rss.length - (intOf i).toNat)
  case atStart => exact ⟨0, Nat.zero_le _, rfl, rfl, rfl⟩
  case round =>
    obtain ⟨k, hk, rfl, rfl, hww⟩ := hrel
    subst hww
    by_cases hlt : k < rss.length
    · obtain ⟨b, off, aj, cj, ha, hb0, c1, _⟩ := HR.out.row k hlt
      subst ha
      have hz := sumR_len rss k hlt
      by_cases hmx : ((rss[k].length : Nat) : Int) > ((sumR (rss.take k)).length : Int)
      · have HZ := Lib.hid (show (sumR (rss.take (k + 1))).length = rss[k].length by omega)
        clear hz
        generalize (sumR (rss.take k)).length = z1 at *
        go_wp2_with fail
        go_roundw
        case rel => exact ⟨k + 1, by omega, by go_num, by rw [HZ.out], trivial⟩
        case measure => simp [intOf]; omega
      · have HZ := Lib.hid (show (sumR (rss.take (k + 1))).length = (sumR (rss.take k)).length by omega)
        clear hz
        generalize hz1 : (sumR (rss.take k)).length = z1 at *
        have HZ1 := Lib.hid hz1
        clear hz1
        go_wp2_with fail
        go_roundw
        case rel => exact ⟨k + 1, by omega, by go_num, by rw [HZ.out], trivial⟩
        case measure => simp [intOf]; omega
    · obtain rfl : k = rss.length := by omega
      rw [show (sumR (rss.take rss.length)).length = T by rw [List.take_length]; exact HT.out.symm]
      have L0 := (Law.start w).own (below_new _) (own_made w T _ w.heap.size rfl (Nat.le_refl _) (by omega))
      rw [← HS0.out] at L0
      obtain ⟨g, hgg⟩ : ∃ g, g = w.heap.size := ⟨_, rfl⟩
      rw [← hgg] at L0
      have HL := Lib.hid L0
      have HGG := Lib.hid hgg
      have hmk0 := hmk w
      rw [← hgg] at hmk0
      clear L0 hmk hgg hlt
      go_upto_region 8 with fail
      generalize w.alloc (.cells (madeCells #[.int .i64 0] T) 3) = w5 at *
      clear hmk0
      go_wp2_with fail
      go_loopw [26] (fun i wr => ∃ k : Nat, k ≤ rss.length ∧ i = .int .i64 k ∧ Law w [tOwn (.slice (some ⟨g, 0, none⟩) T T) (lstI T (fun e => (sumR (rss.take k)).getD e 0))] wr) (fun i _ => rss.length - (intOf i).toNat)
      case atStart => exact ⟨0, Nat.zero_le _, rfl, HL.out⟩
      case round =>
        clear HL
        obtain ⟨k, hk, rfl, L⟩ := hrel
        by_cases hlt : k < rss.length
        · obtain ⟨b, off, aj, cj, ha, hb0, c0, r1⟩ := HR.out.row k hlt
          subst ha
          have c1 := (L.below.cell (p := ⟨b, off + k, none⟩) hb0).trans c0
          clear c0
          have hlr := HTR.out k hlt
          have HBk := Lib.hid (HB.out k hlt)
          have HFull := Lib.hid (show lstI T (midA (sumR (rss.take k)) rss[k] rss[k].length) = lstI T (fun e => (sumR (rss.take (k + 1))).getD e 0) by
            rw [sumR_take rss k hlt]
            exact lstI_congr _ _ _ (fun e _ => midA_full _ _ e))
          have L' : Law w [tOwn (.slice (some ⟨g, 0, none⟩) T T) (lstI T (midA (sumR (rss.take k)) rss[k] 0))] wr := by rw [midA_zero]; exact L
          have HL := Lib.hid L'
          have HRr := Lib.hid r1
          generalize sumR (rss.take k) = A at *
          generalize hrr : rss[k] = r at *
          clear L L' r1 hrr
          go_wp2_with fail
          go_loopw [32] (fun i ws => ∃ j : Nat, j ≤ r.length ∧ i = .int .i64 j ∧ Law w [tOwn (.slice (some ⟨g, 0, none⟩) T T) (lstI T (midA A r j))] ws) (fun i _ => r.length - (intOf i).toNat)
          case atStart => exact ⟨0, Nat.zero_le _, rfl, HL.out⟩
          case round =>
            clear HL
            obtain ⟨j, hj, rfl, L2⟩ := hrel
            by_cases hlt2 : j < r.length
            · obtain ⟨b2, o2, haj, hb2, hc2⟩ := reads_row (L2.reads HRr.out) (by omega)
              subst haj
              have hcj := hc2 j hlt2
              have hO := L2.ownInts
              have y1 := Own.cell (by rw [lstI_len]; exact hO) j (by rw [lstI_len]; omega)
              have y2 := Own.free (by rw [lstI_len]; exact hO) j
              rw [lstI_get _ _ _ (by omega), midA_at] at y1
              have hw := HBk.out j
              have hS := Law.store (ts := []) L2 (lstI_len _ _) j (A.getD j 0 + r.getD j 0)
              rw [midA_set] at hS
              have HS := Lib.hid hS
              generalize A.getD j 0 = x1 at *
              generalize r.getD j 0 = x2 at *
              clear hS hO hc2 L2
              go_wp2_with fail
              go_roundw
              case rel => exact ⟨j + 1, by omega, by go_num, HS.out⟩
              case measure => simp [intOf]; omega
            · obtain rfl : j = r.length := by omega
              have HL3 : Hid (Law w [tOwn (.slice (some ⟨g, 0, none⟩) T T) (lstI T (fun e => (sumR (rss.take (k + 1))).getD e 0))] wr) := Lib.hid (by rw [← HFull.out]; exact L2)
              clear L2
              go_wp2_with fail
              go_roundw
              case rel => exact ⟨k + 1, by omega, by go_num, HL3.out⟩
              case measure => simp [intOf]; omega
        · obtain rfl : k = rss.length := by omega
          rw [HS1.out] at L
          have HL := Lib.hid L
          clear L
          go_wp2_with fail
          go_ret
          exact ⟨_, rfl, HL.out.ownLo, HL.out.below⟩

/-- The lists behind a row, with k places of a rook so far. -/
def behR (same fewer : List Int) (s k : Nat) : List (List Int) := upL s same :: (List.range k).map (fun t => upL t fewer)
theorem behR_len (same fewer : List Int) (s k : Nat) : (behR same fewer s k).length = k + 1 := by simp [behR]
theorem behR_snoc (same fewer : List Int) (s k : Nat) : behR same fewer s k ++ [upL k fewer] = behR same fewer s (k + 1) := by simp [behR, List.range_succ]
theorem behR_sum (same fewer : List Int) (s k : Nat) : sumR (behR same fewer s k) = behL same fewer s k := by
  induction k with
  | zero => simp [behR, sumR, behL, nil_addL]
  | succ k ih => rw [← behR_snoc, sumR_snoc, ih, behL]
theorem behR_take (same fewer : List Int) (s K k : Nat) (h : k ≤ K) : (behR same fewer s K).take (k + 1) = behR same fewer s k := by
  unfold behR
  rw [List.take_succ_cons, ← List.map_take, List.take_range, show min k K = k by omega]
theorem behR_get (same fewer : List Int) (s K k : Nat) (h : k < (behR same fewer s K).length) : (behR same fewer s K)[k] = if k = 0 then upL s same else upL (k - 1) fewer := by
  cases k with
  | zero => rfl
  | succ k => simp [behR]
theorem behR_wrap (same fewer : List Int) (s K : Nat) (hK : K ≤ 7) (h1 : ∀ e, 0 ≤ same.getD e 0 ∧ same.getD e 0 ≤ 262144) (h2 : ∀ e, 0 ≤ fewer.getD e 0 ∧ fewer.getD e 0 ≤ 262144) (k : Nat) (h : k < (behR same fewer s K).length) (e : Nat) :
    IntKind.i64.wrap ((sumR ((behR same fewer s K).take k)).getD e 0 + (behR same fewer s K)[k].getD e 0) = (sumR ((behR same fewer s K).take k)).getD e 0 + (behR same fewer s K)[k].getD e 0 := by
  have hb := fun t => behL_bd same fewer s t 262144 (fun k => (h1 k).2) (fun k => (h2 k).2) (by omega) e
  have pos : ∀ t, 0 ≤ (behL same fewer s t).getD e 0 := by
    intro t
    induction t with
    | zero =>
      rw [behL, upL_get]
      split
      · exact Int.le_refl _
      · exact (h1 _).1
    | succ t ih =>
      have : 0 ≤ (upL t fewer).getD e 0 := by
        rw [upL_get]
        split
        · exact Int.le_refl _
        · exact (h2 _).1
      rw [behL, addL_get]
      omega
  rw [behR_len] at h
  have e1 : (sumR ((behR same fewer s K).take k)).getD e 0 + (behR same fewer s K)[k].getD e 0 = (behL same fewer s k).getD e 0 := by
    rw [behR_get]
    cases k with
    | zero => simp [sumR, behL]
    | succ k => rw [if_neg (by omega), behR_take same fewer s K k (by omega), behR_sum, Nat.add_sub_cancel, behL, addL_get]
  rw [e1]
  have a := hb k
  have b := pos k
  have c : ((k : Int) + 1) * 262144 ≤ 8 * 262144 := Int.mul_le_mul_of_nonneg_right (by omega) (by decide)
  exact IntWalk.i64_in _ (by omega)
def behP (same fewer : List Int) (m : Int) : List Int := if m < 0 then [] else behL same fewer m.toNat (m.toNat + 1)

theorem movedUp_nil (x : Int) (a : Option Addr) (c : Nat) (w : World) :
    Calls Try.prog 110 #[.slice a 0 c, .int .i64 x] w fun e w' => e = .returned (.slice none 0 0) ∧ w = w' := by
  go_enter Try.func110, Try.ntmps110
  go_wp2
  go_ret
  exact ⟨rfl, rfl⟩
set_option maxRecDepth 100000 in
set_option maxHeartbeats 6400000 in
theorem weightsBehind_any (same fewer : List Int) (v1 v2 : Value) (m : Int) (w : World) (hm : m ≤ 6) (hm0 : -10 ≤ m) (hneg : m < 0 → same = []) (hl1 : same.length ≤ 1000) (hl2 : fewer.length ≤ 1000)
    (h1 : ∀ e, 0 ≤ same.getD e 0 ∧ same.getD e 0 ≤ 262144) (h2 : ∀ e, 0 ≤ fewer.getD e 0 ∧ fewer.getD e 0 ≤ 262144) (hs1 : Src w v1 same) (hs2 : Src w v2 fewer) :
    Calls Try.prog 132 #[v1, v2, .int .i64 m] w fun e w' => ∃ u, e = .returned u ∧ Own w' w.heap.size u (behP same fewer m) ∧ Below w.heap.size w w' := by
  -- the first list
  have hfirst : Calls Try.prog 110 #[v1, .int .i64 m] w fun e w' => ∃ u, e = .returned u ∧ Own w' w.heap.size u (upL m.toNat same) ∧ Below w.heap.size w w' := by
    by_cases hn : m < 0
    · have := hneg hn
      subst this
      obtain ⟨a, c, rfl⟩ := src_len hs1
      refine (movedUp_nil m a c w).mono ?_
      rintro e w' ⟨rfl, rfl⟩
      exact ⟨_, rfl, by rw [upL_nil]; exact Own.nil _ _, Below.refl _ _⟩
    · obtain ⟨s, rfl⟩ := Int.eq_ofNat_of_zero_le (show 0 ≤ m by omega)
      exact movedUp_any s same v1 w (by omega) hs1
  obtain ⟨K, hK⟩ : ∃ K : Nat, K = (m + 1).toNat := ⟨_, rfl⟩
  have hfin : behL same fewer m.toNat K = behP same fewer m := by
    unfold behP
    split
    · rename_i hn
      rw [hneg hn, show K = 0 by omega]
      rfl
    · rw [show K = m.toNat + 1 by omega]
  have HFIN := Lib.hid hfin
  have HW := Lib.hid (behR_wrap same fewer m.toNat K (by omega) h1 h2)
  have HLEN := Lib.hid (show (behL same fewer m.toNat K).length ≤ 1048576 by
    by_cases hn : m < 0
    · rw [hfin]; simp [behP, hn]
    · have := behL_len same fewer m.toNat K 1000 hl1 hl2 (by omega); omega)
  have HF := Lib.hid hfirst
  have HS2 := Lib.hid hs2
  have HK := Lib.hid hK
  have hb1 : wrap64 (m + 1) = m + 1 := IntWalk.wrap64_in _ (by omega)
  have hwm : wrap64 m = m := IntWalk.wrap64_in _ (by omega)
  clear hfirst hs1 hs2 h1 h2 hfin hK hneg
  go_enter Try.func132, Try.ntmps132
  go_wp2_with fail
  refine HF.out.mono ?_
  rintro e w1 ⟨u, rfl, hO, hb⟩
  obtain ⟨a0, c0, hu, _⟩ := hO.reads
  generalize (upL m.toNat same).length = l0 at hu
  subst hu
  have hM := OwnM.single hO hb.size
  have L1 := (Law.start w).addM (below_on hb (below_new _)) hM
  have HL := Lib.hid L1
  clear hO hb hM L1
  go_upto_region 2 with fail
  generalize w1.heap.size = b1 at *
  generalize w1.alloc _ = w5 at *
  clear HF
  go_wp2_with fail
  go_loopw [7, 15] (fun v i wr => ∃ (k : Nat) (vs : List Value) (g cap : Nat), Hid (k ≤ K) ∧ i = .int .i64 k ∧ v = .slice (some ⟨g, 0, none⟩) (k + 1) cap ∧ Law w [tM v vs (behR same fewer m.toNat k)] wr) (fun _ i _ => K - (intOf i).toNat)
  case atStart => exact ⟨0, _, b1, 1, Lib.hid (Nat.zero_le _), rfl, rfl, HL.out⟩
  case round =>
    clear HL
    obtain ⟨k, vs, g, cap, HKK, rfl, rfl, L⟩ := hrel
    have hvl : vs.length = k + 1 := by have := L.ownM.len; rw [behR_len] at this; exact this.symm
    by_cases hlt : (k : Int) < m + 1
    · have HMV := Lib.hid (movedUp_any k fewer v2 wr (by have := HK.out; have := HKK.out; omega) (HS2.out.kept' L.below))
      have HL := Lib.hid (And.intro L hvl)
      clear L hvl
      go_wp2_with fail
      refine HMV.out.mono ?_
      rintro e w2 ⟨x, rfl, hO, hb⟩
      obtain ⟨a3, c3, hx3, _⟩ := hO.reads
      generalize (upL k fewer).length = l3 at hx3
      subst hx3
      have L2 := (HL.out.1.own hb hO).kept (below_new (.cells #[.slice a3 l3 c3] 22))
      have hnew : (w2.alloc (.cells #[.slice a3 l3 c3] 22)).cell? ⟨w2.heap.size, 0, none⟩ = some (.slice a3 l3 c3) := by rw [World.cell?_alloc_at _ _ _ _ rfl]; rfl
      have hx1 := own_oneCell hO
      have HL2 := Lib.hid (And.intro L2 (And.intro hnew hx1))
      clear L2 hnew hx1 hO hb HMV
      have HSN := Lib.hid (behR_snoc same fewer m.toNat k)
      go_wp2_with (at_builtin; refine wp_appendM rfl _ _ rfl HL2.out.1 w2.heap.size rfl rfl HL2.out.2.1 HL2.out.2.2 ?h1 ?_)
      case h1 => have := HL.out.2; have := HKK.out; have := HK.out; omega
      intro g' cap' w' L3
      rw [HSN.out] at L3
      have HL3 := Lib.hid L3
      rw [HL.out.2] at HL3 ⊢
      have HK2 : Hid (k + 1 ≤ K) := Lib.hid (by have := HK.out; omega)
      have hkk : wrap64 ((k : Int) + 1) = (k : Int) + 1 := IntWalk.wrap64_in _ (by omega)
      clear L3 HL2
      go_wp2_with fail
      go_roundw
      case rel => exact ⟨k + 1, _, g', cap', HK2, by go_num, rfl, HL3.out⟩
      case measure => simp only [intOf]; have := HK2.out; omega
    · have hKk : K = k := by have := HKK.out; have := HK.out; omega
      subst hKk
      have hM := L.ownM
      obtain ⟨a5, c5, hv5, hr5⟩ := hM.reads
      rw [behR_len] at hv5
      injection hv5 with q1 q2 q3
      subst q1
      subst q3
      have HAD := Lib.hid (added_any (some ⟨g, 0, none⟩) cap (behR same fewer m.toNat K) wr (by rw [behR_len]; have := HK.out; omega) (by rw [behR_sum]; exact HLEN.out) hr5 HW.out)
      rw [behR_sum, HFIN.out, behR_len] at HAD
      have HB := Lib.hid L.below
      clear L hM hr5
      go_wp2_with fail
      refine HAD.out.mono ?_
      rintro e w9 ⟨v9, rfl, hO, hb⟩
      have HF9 := Lib.hid (And.intro (hO.lower HB.out.size) (below_on HB.out hb))
      clear hO hb HAD HB
      go_wp2_with fail
      go_ret
      exact ⟨_, rfl, HF9.out.1, HF9.out.2⟩
end Go.Proofs.Ytakdiiccdkjjcab
