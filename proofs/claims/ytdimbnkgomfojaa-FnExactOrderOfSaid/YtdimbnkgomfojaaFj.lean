/- Lengths of ordered boards: plain part, and the helpers of both texts. No condition but the sizes. -/
import Derived.Test.YtdimbnkgomfojaaFi
import Derived.Test.YtdimbnkgomfojaaAp
import Derived.Test.YtdimbnkgomfojaaFs
namespace Go.Proofs.Ytdimbnkgomfojaa
open Go.RowKit Go.WideShapes

/-- As many rows as columns? -/
def sqF (r c : Int) (xs : List Int) : Bool := goodB r c xs && (r == c)
theorem sqF_facts {r c : Int} {xs : List Int} (h : sqF r c xs = true) : goodB r c xs = true ∧ r = c := by
  rw [sqF, Bool.and_eq_true, beq_iff_eq] at h
  exact h

set_option maxRecDepth 100000 in
set_option maxHeartbeats 1600000 in
theorem roSquareF_any (r c : Int) (xs : List Int) (w : World) (hx : xs.length ≤ 1048576) (a : Option Addr) (cap : Nat) (hr : Reads w a xs.length xs) :
    Calls Try.prog 78 #[.agg #[.int .i64 r, .int .i64 c, .slice a xs.length cap]] w fun e w' => e = .returned (.bool (sqF r c xs)) ∧ Below w.heap.size w w' := by
  have L0 := (Law.start w).box (.int .i64 r) (.int .i64 c) (.slice a xs.length cap) 29
  have hr0 := L0.reads hr
  cases hg : goodB r c xs
  · rw [show sqF r c xs = false by simp [sqF, hg]]
    go_enter Try.func78, Try.ntmps78
    go_wp2_with fail
    refine (at_boolB (boGood_any r c a cap xs _ hx hr0) hg).mono ?_
    rintro e w1 ⟨rfl, hb⟩
    have HB := Lib.hid (L0.kept hb).below
    clear L0 hb hg hr0
    go_wp2_with fail
    go_ret
    exact ⟨rfl, HB.out⟩
  · rw [show sqF r c xs = (r == c) by simp [sqF, hg]]
    go_enter Try.func78, Try.ntmps78
    go_wp2_with fail
    refine (at_boolB (boGood_any r c a cap xs _ hx hr0) hg).mono ?_
    rintro e w1 ⟨rfl, hb⟩
    have HB := Lib.hid (L0.kept hb).below
    have ⟨_, k0, k1, k2, _⟩ := (L0.kept hb).ownBox
    clear L0 hb hg hr0
    go_wp2_with fail
    go_ret
    exact ⟨rfl, HB.out⟩

/-- Does a row begin at the left? -/
def begL (x : Int) : Bool := x == pw (pop x) - 1
def allBeg (xs : List Int) : Bool := (List.range xs.length).all fun k => begL (xs.getD k 0)
theorem allBeg_iff {xs : List Int} : allBeg xs = true ↔ ∀ k, k < xs.length → begL (xs.getD k 0) = true := by
  simp only [allBeg, List.all_eq_true, List.mem_range]
theorem allBeg_no {xs : List Int} (k : Nat) (hk : k < xs.length) (h : begL (xs.getD k 0) = false) : allBeg xs = false := by
  rw [← Bool.not_eq_true, allBeg_iff]
  intro h2
  rw [h2 k hk] at h
  cases h
/-- How many cells of a row come first. -/
def tOn (x : Int) : Nat := ((List.range 6).takeWhile fun j => x.toNat.testBit j).length
theorem tOn_facts (x : Int) (h : 0 ≤ x ∧ x < 64) : tOn x ≤ 6 ∧ (∀ j, j < tOn x → x.toNat.testBit j = true) ∧ x.toNat.testBit (tOn x) = false ∧ (begL x = true → (tOn x : Int) = pop x) ∧ ((x == pw (tOn x) - 1) = begL x) := by
  obtain ⟨n, rfl⟩ := Int.eq_ofNat_of_zero_le h.1
  have hn : n < 64 := by omega
  have key : ∀ n : Fin 64, tOn ((n : Nat) : Int) ≤ 6 ∧ (∀ j : Fin 7, (j : Nat) < tOn ((n : Nat) : Int) → (n : Nat).testBit j = true) ∧ (n : Nat).testBit (tOn ((n : Nat) : Int)) = false ∧ (begL ((n : Nat) : Int) = true → (tOn ((n : Nat) : Int) : Int) = pop ((n : Nat) : Int)) ∧ ((((n : Nat) : Int) == pw (tOn ((n : Nat) : Int)) - 1) = begL ((n : Nat) : Int)) := by decide +kernel
  obtain ⟨k1, k2, k3, k4, k5⟩ := key ⟨n, hn⟩
  have k6 : tOn (n : Int) ≤ 6 := k1
  exact ⟨k1, fun j hj => k2 ⟨j, by omega⟩ hj, k3, k4, k5⟩
theorem rem_at (x : Int) (j : Nat) (h : 0 ≤ x ∧ x < 64) (hj : j ≤ 6) : ((x / 2 ^ j).tmod 2 == 1) = x.toNat.testBit j := by
  obtain ⟨n, rfl⟩ := Int.eq_ofNat_of_zero_le h.1
  have hn : n < 64 := by omega
  have key : ∀ n : Fin 64, ∀ j : Fin 7, ((((n : Nat) : Int) / 2 ^ (j : Nat)).tmod 2 == 1) = (n : Nat).testBit j := by decide +kernel
  exact key ⟨n, hn⟩ ⟨j, by omega⟩

def lensB (xs : List Int) : LR := if allBeg xs then ⟨xs.map pop, true⟩ else ⟨[], false⟩

set_option maxRecDepth 100000 in
set_option maxHeartbeats 3200000 in
theorem feLengths_any (r c : Int) (a : Option Addr) (p : Nat) (xs : List Int) (w : World) (hx : xs.length ≤ 1048576) (hgc : ∀ k, 0 ≤ xs.getD k 0 ∧ xs.getD k 0 < 64) (hr : Reads w a xs.length xs) :
    Calls Try.prog 79 #[.agg #[.int .i64 r, .int .i64 c, .slice a xs.length p]] w fun e w' => AnsL (lensB xs) w e w' := by
  have L0 := (Law.start w).box (.int .i64 r) (.int .i64 c) (.slice a xs.length p) 29
  have HL0 := Lib.hid L0
  have HG := Lib.hid hgc
  clear L0 hgc
  obtain ⟨R, hR⟩ : ∃ R, R = lensB xs := ⟨_, rfl⟩
  rw [← hR]
  have HR := Lib.hid hR
  clear hR
  go_enter Try.func79, Try.ntmps79
  go_upto_region 2 with fail
  generalize w.alloc _ = w5 at *
  have ⟨_, k0, k1, k2, _⟩ := HL0.out.ownBox
  go_wp2_with fail
  clear k0 k1 k2
  go_loopw [4, 11] (fun o i wr => ∃ k : Nat, k ≤ xs.length ∧ i = .int .i64 k ∧ Hid (∀ j, j < k → begL (xs.getD j 0) = true) ∧ Law w [tOwn o ((xs.map pop).take k)] wr) (fun _ i _ => xs.length - (intOf i).toNat)
  case atStart => exact ⟨0, Nat.zero_le _, rfl, (fun j h => by omega : ∀ j, j < 0 → begL (xs.getD j 0) = true), by simpa using ((Law.start w).kept HL0.out.below).own (Below.refl _ _) (Own.nil w5 _)⟩
  case round =>
    clear HL0
    obtain ⟨k, hk, rfl, HB, L⟩ := hrel
    obtain ⟨wo, rfl⟩ : ∃ wo : World, wo = wr := ⟨_, rfl⟩
    by_cases hlt : k < xs.length
    · obtain ⟨b, off, rfl, hbl, hc⟩ := reads_row (L.reads hr) (by omega)
      have hck := hc k hlt
      have hx0 := HG.out k
      obtain ⟨t1, t2, t3, t4, t5⟩ := tOn_facts _ hx0
      have hrem := fun j hj => rem_at (xs.getD k 0) j hx0 hj
      have hno := allBeg_no (xs := xs) k hlt
      have hyes : begL (xs.getD k 0) = true → ∀ j, j < k + 1 → begL (xs.getD j 0) = true := fun h j hj => by
        by_cases e : j = k
        · subst e; exact h
        · exact HB.out j (by omega)
      have hsn : (xs.map pop).take k ++ [pop (xs.getD k 0)] = (xs.map pop).take (k + 1) := by
        rw [List.take_succ_eq_append_getElem (by rw [List.length_map]; exact hlt)]
        simp [List.getD, hlt]
      have hlk : ((xs.map pop).take k).length = k := by rw [List.length_take, List.length_map]; omega
      generalize xs.getD k 0 = x at *
      have HT := Lib.hid (And.intro t2 (And.intro t3 hrem))
      have HE := Lib.hid (And.intro t4 t5)
      have HNO := Lib.hid hno
      have HYES := Lib.hid hyes
      have HSN := Lib.hid hsn
      have HLK := Lib.hid hlk
      have HL := Lib.hid L
      obtain ⟨T, hT⟩ : ∃ T, T = tOn x := ⟨_, rfl⟩
      rw [← hT] at t1 HT HE
      clear L hc hbl t2 t3 t4 t5 hrem hno hyes hsn hlk hT
      go_wp2_with fail
      go_loop [7] (fun i => ∃ j : Nat, j ≤ T ∧ i = .int .i64 j) (fun i => T - (intOf i).toNat)
      case atStart => exact ⟨0, Nat.zero_le _, rfl⟩
      case round =>
        obtain ⟨j, hj, rfl⟩ := hrel
        have hj64 : (j : Int) < 64 := by omega
        have hj0 : (0 : Int) ≤ j := by omega
        have hrm := HT.out.2.2 j (by omega)
        by_cases hjT : j < T
        · rw [HT.out.1 j hjT] at hrm
          go_wp2_with fail
          go_round
          case rel => exact ⟨j + 1, by omega, by go_num⟩
          case measure => simp [intOf]; omega
        · obtain rfl : j = T := by omega
          rw [HT.out.2.1] at hrm
          obtain ⟨hp1, hp2, hp3, hp4⟩ := pw_bd (c := (j : Int)) (by omega)
          rw [Int.toNat_natCast] at hp3
          cases hb : begL x
          · have HF := Lib.hid (HNO.out hb)
            have h5 := HE.out.2
            rw [hb] at h5
            have hne : (x != pw (j : Int) - 1) = true := by simp only [bne, h5, Bool.not_false]
            have HB2 := Lib.hid HL.out.below
            have HRR := Lib.hid (show R = ⟨[], false⟩ by rw [HR.out]; simp [lensB, HF.out])
            clear h5 hb HL
            go_wp2_with fail
            go_ret2
            rw [HRR.out]
            exact ⟨_, rfl, Own.nil _ _, HB2.out⟩
          · have h5 := HE.out.2
            rw [hb] at h5
            have hne : (x != pw (j : Int) - 1) = false := by simp only [bne, h5, Bool.not_true]
            have L2 := HL.out.kept (below_new (.cells #[.int .i64 (j : Int)] 3))
            have HL2 := Lib.hid L2
            have HX := Lib.hid (show (wo.alloc (.cells #[.int .i64 (j : Int)] 3)).cell? ⟨wo.heap.size, 0, none⟩ = some (.int .i64 (j : Int)) by rw [World.cell?_alloc_at _ _ _ _ rfl]; rfl)
            have HP := Lib.hid (HE.out.1 hb)
            have HY := Lib.hid (HYES.out hb)
            clear L2 HL h5 hb HNO HYES HE
            go_wp2_with (at_builtin; refine wp_appendI rfl _ _ rfl (j : Int) HL2.out wo.heap.size rfl rfl HX.out (by rw [HLK.out]; omega) ((xs.map pop).take (k + 1)) (by rw [HP.out]; exact HSN.out) ?_)
            intro g1 cap1 w3 L3
            have HL3 := Lib.hid L3
            clear L3 HL2 HX
            go_wp2_with fail
            go_roundw
            case rel => exact ⟨k + 1, by omega, by go_num, HY.out, HL3.out⟩
            case measure => simp [intOf]; omega
    · obtain rfl : k = xs.length := by omega
      rw [show (xs.map pop).take xs.length = xs.map pop from List.take_of_length_le (by rw [List.length_map]; omega)] at L
      have ha := allBeg_iff.2 HB.out
      have HRR := Lib.hid (show R = ⟨xs.map pop, true⟩ by rw [HR.out]; simp [lensB, ha])
      have HL := Lib.hid L
      clear L ha HB hlt
      go_wp2_with fail
      go_ret2
      rw [HRR.out]
      exact ⟨_, rfl, HL.out.ownLo, HL.out.below⟩

/-- The lengths of a grid's rows. -/
def popL (n : Nat) (M : Nat → Int) : List Int := lstI n (fun k => pop (M k))
/-- Is a grid ordered? -/
def ordG (n m : Int) (M : Nat → Int) : Bool := (n == m) && ((List.range n.toNat).all (fun k => begL (M k)) && lenB (popL n.toNat M))
/-- The list behind k rounds. -/
def popM (M : Nat → Int) (k q : Nat) : Int := if q < k then pop (M q) else 0
theorem own_readsN {w : World} {lo g n p : Nat} {xs : List Int} (h : Own w lo (.slice (some ⟨g, 0, none⟩) n p) xs) (hl : xs.length = n) : Reads w (some ⟨g, 0, none⟩) n xs := by
  obtain ⟨a, p', e, hr⟩ := h.reads
  injection e with e1 e2 e3
  subst e1
  rw [hl] at hr
  exact hr
theorem begL_ne (x : Int) (b : Bool) (h : begL x = b) : (x != pw (pop x) - 1) = !b := by
  subst h
  rfl

set_option maxRecDepth 100000 in
set_option maxHeartbeats 3200000 in
theorem lenGrid_any (n : Nat) (m : Int) (M : Nat → Int) (w : World) (h1 : 1 ≤ n) (h6 : n ≤ 6) (hgc : ∀ k, k < 6 → 0 ≤ M k ∧ M k < 64) :
    Calls Try.prog 84 #[gv n m M] w fun e w' => (e = .returned (.tuple #[if ordG n m M then sv n (fl (popL n M)) else sv0, .bool (ordG n m M)])) ∧ Below w.heap.size w w' := by
  have L0 := ((Law.start w).has (gl n m M) 59).has [.int .i64 0, .int .i64 0, .int .i64 0, .int .i64 0, .int .i64 0, .int .i64 0, .int .i64 0] 88
  simp only [World.size_alloc] at L0
  rw [show w.alloc (.cells (gl n m M).toArray 59) = w.alloc (.cells #[.int .i64 n, .int .i64 m, .int .i64 (M 0), .int .i64 (M 1), .int .i64 (M 2), .int .i64 (M 3), .int .i64 (M 4), .int .i64 (M 5)] 59) from rfl] at L0
  have HL0 := Lib.hid L0
  have HG := Lib.hid hgc
  have hn0 : (n : Int).toNat = n := Int.toNat_natCast n
  clear L0 hgc
  by_cases hnm : (n : Int) = m
  case neg =>
    have hO : ordG n m M = false := by rw [ordG, beq_eq_false_iff_ne.2 hnm, Bool.false_and]
    have hne : ((n : Int) != m) = true := by simp [hnm]
    rw [hO]
    clear hO hnm hn0
    go_enter Try.func84, Try.ntmps84
    go_upto_region 1 with fail
    generalize ((w.alloc _).alloc _) = w5 at *
    have ⟨e0, e1, _⟩ := HL0.out.tl.ownHas.eight
    obtain ⟨f0, f1, f2, f3, f4, f5, f6, _⟩ := HL0.out.ownHas.seven
    have HB := Lib.hid HL0.out.below
    clear HL0
    go_wp2_with fail
    refine bodyPost_ret (v := .tuple #[sv0, .bool false]) (by simp [results, Try.results84, go_sem, f0, f1, f2, f3, f4, f5, f6]) rfl ⟨rfl, ?_⟩
    have h2 := HB.out
    repeat (refine Below.setCell ?_ (by simp <;> omega) _)
    exact h2
  subst hnm
  have hOf : ∀ k, k < n → begL (M k) = false → ordG n n M = false := by
    intro k hk hb
    have : (List.range n).all (fun k => begL (M k)) = false := by
      rw [List.all_eq_false]
      exact ⟨k, by rw [List.mem_range]; exact hk, by rw [hb]; decide⟩
    rw [ordG, hn0, this, Bool.false_and, Bool.and_false]
  have hOt : (∀ k, k < n → begL (M k) = true) → ordG n n M = lenB (popL n M) := by
    intro h
    have : (List.range n).all (fun k => begL (M k)) = true := by
      rw [List.all_eq_true]
      intro k hk
      exact h k (by simpa using hk)
    rw [ordG, hn0, this, Bool.true_and, beq_self_eq_true, Bool.true_and]
  obtain ⟨R, hR⟩ : ∃ R, R = ordG n n M := ⟨_, rfl⟩
  rw [← hR] at hOf hOt ⊢
  obtain ⟨V, hV⟩ : ∃ V, V = if R = true then sv n (fl (popL n M)) else sv0 := ⟨_, rfl⟩
  rw [← hV]
  have HOF := Lib.hid hOf
  have HOT := Lib.hid hOt
  have HV := Lib.hid hV
  have hmk := run_make_row' (P := Try.prog) 22 3 (.int .i64 0) 8 Try.underlying22 Try.infoI rfl .i64 .i64 n (by omega) (by omega)
  clear hOf hOt hV hR hn0
  go_enter Try.func84, Try.ntmps84
  go_upto_region 1 with fail
  generalize ((w.alloc _).alloc _) = w5 at *
  have ⟨e0, e1, _⟩ := HL0.out.tl.ownHas.eight
  go_upto_region 4 with fail
  have L1 := HL0.out.own (below_new _) (own_made w5 n _ w5.heap.size rfl (Nat.le_refl _) (by omega))
  rw [lstI_zero, lstI_congr n (fun _ => 0) (popM M 0) (fun k _ => by unfold popM; rw [if_neg (by omega)])] at L1
  have HL1 := Lib.hid L1
  clear L1 HL0 e0 e1 hmk
  generalize w5.alloc (.cells (madeCells #[.int .i64 0] n) 3) = w6 at *
  have ⟨e0, _⟩ := HL1.out.tl.tl.ownHas.eight
  go_wp2_with fail
  clear e0
  go_loopw [17] (fun i wr => ∃ k : Nat, k ≤ n ∧ i = .int .i64 k ∧ Hid (∀ j, j < k → begL (M j) = true) ∧ Law w [tOwn (.slice (some ⟨w5.heap.size, 0, none⟩) n n) (lstI n (popM M k)), tHas (w.heap.size + 1) [.int .i64 0, .int .i64 0, .int .i64 0, .int .i64 0, .int .i64 0, .int .i64 0, .int .i64 0] 88, tHas w.heap.size (gl n n M) 59] wr) (fun i _ => n - (intOf i).toNat)
  case atStart => exact ⟨0, Nat.zero_le _, rfl, (fun j h => by omega : ∀ j, j < 0 → begL (M j) = true), HL1.out⟩
  case round =>
    clear HL1
    obtain ⟨k, hk, rfl, HB, L⟩ := hrel
    obtain ⟨wo, rfl⟩ : ∃ wo : World, wo = wr := ⟨_, rfl⟩
    by_cases hlt : k < n
    · have hm := HG.out k (by omega)
      obtain ⟨x, hxx⟩ := Int.eq_ofNat_of_zero_le hm.1
      have hx64 : x < 64 := by omega
      have hcx := L.tl.tl.ownHas.cell (2 + k)
      rw [gl_get _ _ _ k (by omega), hxx] at hcx
      have o := L.ownInts
      have d1 := Own.cell (by rw [lstI_len]; exact o) k (by rw [lstI_len]; exact hlt)
      have d2 := Own.free (by rw [lstI_len]; exact o) k
      have hS := Law.store (ts := []) L (lstI_len _ _) k (pop x)
      rw [lstI_set n _ (popM M (k + 1)) k _ (by unfold popM; rw [if_pos (by omega), hxx]) (fun q _ hq => by
        unfold popM
        by_cases h : q < k
        · rw [if_pos h, if_pos (by omega)]
        · rw [if_neg h, if_neg (by omega)])] at hS
      have HS := Lib.hid hS
      have HC := Lib.hid (fun W => ones_any x W hx64)
      have hpb := pop_bd (x : Int)
      have HF := Lib.hid (fun W => firstCols_any (pop (x : Int)) W hpb)
      have HX := Lib.hid hxx
      have hx0 : (0 : Int) ≤ x := by omega
      have hx1 : (x : Int) < 64 := by omega
      generalize (lstI n (popM M k)).getD k 0 = u at *
      clear L hS o hm hxx
      go_wp2_with fail
      refine (HC.out _).mono ?_
      rintro e w' ⟨rfl, hww⟩
      subst hww
      go_upto_region 8 with fail
      generalize wo.setCell _ _ = w7 at *
      clear hcx d1 d2
      have hcx := HS.out.tl.tl.ownHas.cell (2 + k)
      rw [gl_get _ _ _ k (by omega), HX.out] at hcx
      have o := HS.out.ownInts
      have d1 := Own.cell (by rw [lstI_len]; exact o) k (by rw [lstI_len]; exact hlt)
      rw [lstI_get _ _ k hlt, show popM M (k + 1) k = pop (x : Int) by unfold popM; rw [if_pos (by omega), HX.out]] at d1
      obtain ⟨f0, f1, f2, f3, f4, f5, f6, _⟩ := HS.out.tl.ownHas.seven
      clear o
      cases hb : begL (x : Int)
      · have hne := begL_ne (x : Int) false hb
        simp only [Bool.not_false] at hne
        have HRF := Lib.hid (HOF.out k hlt (by rw [HX.out]; exact hb))
        have HBW := Lib.hid HS.out.below
        generalize pop (x : Int) = y at *
        clear hb HS HB
        go_wp2_with fail
        go_quiet ((go_at_call 116; with_reducible exact Calls.quiet_of_same (HF.out _)))
        go_wp2_with fail
        refine bodyPost_ret (v := .tuple #[sv0, .bool false]) (by simp [results, Try.results84, go_sem, f0, f1, f2, f3, f4, f5, f6]) rfl ⟨?_, ?_⟩
        · rw [HV.out, HRF.out]; rfl
        · repeat (refine Below.setCell ?_ (by simp <;> omega) _)
          exact below_drewN HBW.out _
      · have hne := begL_ne (x : Int) true hb
        simp only [Bool.not_true] at hne
        have HBN := Lib.hid (show ∀ j, j < k + 1 → begL (M j) = true from fun j hj => by
          by_cases e : j = k
          · subst e; rw [HX.out]; exact hb
          · exact HB.out j (by omega))
        generalize pop (x : Int) = y at *
        clear hb HB f0 f1 f2 f3 f4 f5 f6
        go_wp2_with fail
        go_quiet ((go_at_call 116; with_reducible exact Calls.quiet_of_same (HF.out _)))
        go_wp2_with fail
        go_roundw
        case rel => exact ⟨k + 1, by omega, by go_num, HBN.out, HS.out.kept (below_drewN (Below.refl _ _) _)⟩
        case measure => simp [intOf]; omega
    · obtain rfl : k = n := by omega
      rw [show lstI k (popM M k) = popL k M from lstI_congr k _ _ (fun q hq => by unfold popM; rw [if_pos hq])] at L
      have hRl := HOT.out HB.out
      have hpl : (popL k M).length = k := lstI_len _ _
      have hrd := own_readsN L.ownInts hpl
      cases hl : lenB (popL k M)
      · have hc := lengthsOf_no (some ⟨w5.heap.size, 0, none⟩) k (popL k M) wo (by omega) (by rw [hpl]; exact hrd) hl
        rw [hpl] at hc
        rw [hl] at hRl
        have HC := Lib.hid hc
        have HRR := Lib.hid hRl
        have HL := Lib.hid L
        clear hc hrd L hl hRl hpl HB hlt
        go_wp2_with fail
        refine HC.out.mono ?_
        rintro e w2 ⟨rfl, hb⟩
        have L2 := HL.out.kept hb
        obtain ⟨f0, f1, f2, f3, f4, f5, f6, _⟩ := L2.tl.ownHas.seven
        have HBW := Lib.hid L2.below
        clear L2 hb HC HL
        go_wp2_with fail
        refine bodyPost_ret (v := .tuple #[sv0, .bool false]) (by simp [results, Try.results84, go_sem, f0, f1, f2, f3, f4, f5, f6]) rfl ⟨?_, ?_⟩
        · rw [HV.out, HRR.out]; rfl
        · have h2 := HBW.out
          repeat (refine Below.setCell ?_ (by simp <;> omega) _)
          exact h2
      · have hc := lengthsOf_yes (some ⟨w5.heap.size, 0, none⟩) k (popL k M) wo (by omega) (by rw [hpl]; exact hrd) hl
        rw [hpl] at hc
        rw [hl] at hRl
        obtain ⟨N, hN⟩ : ∃ N : Nat → Int, N = fun q => (popL k M).getD q 0 := ⟨_, rfl⟩
        rw [← hN] at hc
        have HNN := Lib.hid hN
        have HC := Lib.hid hc
        have HRR := Lib.hid hRl
        have HL := Lib.hid L
        clear hc hrd L hl hRl hpl HB hlt hN
        go_wp2_with fail
        refine HC.out.mono ?_
        rintro e w2 ⟨rfl, hb⟩
        have L2 := HL.out.kept hb
        obtain ⟨f0, f1, f2, f3, f4, f5, f6, _⟩ := L2.tl.ownHas.seven
        have HBW := Lib.hid L2.below
        clear L2 hb HC HL
        go_wp2_with fail
        refine bodyPost_ret (v := .tuple #[sv k N, .bool true]) (by simp [results, Try.results84, go_sem, f0, f1, f2, f3, f4, f5, f6]) rfl ⟨?_, ?_⟩
        · rw [HV.out, HRR.out, if_pos rfl, HNN.out]
        · have h2 := HBW.out
          repeat (refine Below.setCell ?_ (by simp <;> omega) _)
          exact h2

end Go.Proofs.Ytdimbnkgomfojaa
