/- Factors, products, full placements, lengths that are alike: both texts. No condition but the sizes. -/
import Derived.Test.YthkghbnmdebhpaaFt
import Derived.Test.YthkghbnmdebhpaaFu
import Derived.Test.YthkghbnmdebhpaaFn
namespace Go.Proofs.Ythkghbnmdebhpaa
open Go.RowKit Go.WideShapes

theorem facU_snoc (xs : List Int) (k : Nat) (h : k < xs.length) : (facU xs).take k ++ [xs.getD k 0 - k] = (facU xs).take (k + 1) := by
  rw [List.take_succ_eq_append_getElem (by rw [facU_len]; exact h)]
  have := facU_get xs k h
  rw [← this]
  simp [List.getD, facU_len, h]

set_option maxRecDepth 100000 in
set_option maxHeartbeats 1600000 in
theorem feFactors_any (a : Option Addr) (pc : Nat) (xs : List Int) (w : World) (h6 : xs.length ≤ 1000) (hbd : ∀ k, -1000 ≤ xs.getD k 0 ∧ xs.getD k 0 ≤ 1000) (hr : Reads w a xs.length xs) :
    Calls Try.prog 64 #[.slice a xs.length pc] w fun e w' => ∃ v, e = .returned v ∧ Own w' w.heap.size v (facs xs) ∧ Below w.heap.size w w' := by
  go_enter Try.func64, Try.ntmps64
  go_wp2_with fail
  go_loopw [3, 8] (fun o i wr => ∃ k : Nat, k ≤ xs.length ∧ i = .int .i64 k ∧ Law w [tOwn o ((facU xs).take k)] wr) (fun _ i _ => xs.length - (intOf i).toNat)
  case atStart => exact ⟨0, Nat.zero_le _, rfl, by simpa using (Law.start w).own (Below.refl _ _) (Own.nil w _)⟩
  case round =>
    obtain ⟨k, hk, rfl, L⟩ := hrel
    obtain ⟨wo, rfl⟩ : ∃ wo : World, wo = wr := ⟨_, rfl⟩
    by_cases hlt : k < xs.length
    · obtain ⟨b, off, rfl, hbl, hc⟩ := reads_row (L.reads hr) (by omega)
      have hck := hc k hlt
      have hsn := facU_snoc xs k hlt
      have hx := hbd k
      have hl : ((facU xs).take k).length = k := by rw [List.length_take, facU_len]; omega
      generalize xs.getD k 0 = x at *
      have hw : IntKind.i64.wrap (x - k) = x - k := IntWalk.i64_in _ (by omega)
      have L2 := L.kept (below_new (.cells #[.int .i64 (x - k)] 3))
      have HL := Lib.hid L2
      have HX := Lib.hid (show (wo.alloc (.cells #[.int .i64 (x - k)] 3)).cell? ⟨wo.heap.size, 0, none⟩ = some (.int .i64 (x - k)) by rw [World.cell?_alloc_at _ _ _ _ rfl]; rfl)
      have HS := Lib.hid hsn
      have HK := Lib.hid hl
      clear L L2 hc hbl hx hsn hl hbd
      go_wp2_with (at_builtin; refine wp_appendI rfl _ _ rfl (x - k) HL.out wo.heap.size rfl rfl HX.out (by rw [HK.out]; omega) ((facU xs).take (k + 1)) HS.out ?_)
      intro g1 cap1 w3 L3
      have HL3 := Lib.hid L3
      clear L3 HL HX
      go_wp2_with fail
      go_roundw
      case rel => exact ⟨k + 1, by omega, by go_num, HL3.out⟩
      case measure => simp [intOf]; omega
    · obtain rfl : k = xs.length := by omega
      have e : (facU xs).take xs.length = facU xs := List.take_of_length_le (by rw [facU_len]; omega)
      rw [e] at L
      have hlen := facU_len xs
      obtain ⟨ao, po, rfl, ho⟩ := L.ownInts.reads
      have hc := feSorted_any ao po (facU xs) wo (by omega) ho
      rw [hlen] at hc L ⊢
      have HL := Lib.hid L
      have HC := Lib.hid hc
      clear L hc hlen ho e hlt
      go_wp2_with fail
      refine HC.out.mono ?_
      rintro e w2 ⟨v, rfl, hO, hb⟩
      have HF := Lib.hid (And.intro (hO.lower HL.out.below.size) (HL.out.kept hb).below)
      clear HL hO hb HC
      go_wp2_with fail
      go_ret
      exact ⟨_, rfl, HF.out.1, HF.out.2⟩

theorem len_bd {xs : List Int} (h : lenB xs = true) (k : Nat) : -1000 ≤ xs.getD k 0 ∧ xs.getD k 0 ≤ 1000 := by
  have := (len_facts h).2.2.1 k
  omega

/-- What FactorsOf answers. -/
def facR (xs : List Int) : LR := if lenB xs then ⟨facs xs, true⟩ else ⟨[], false⟩
theorem facR_len (xs : List Int) : (facR xs).ys.length ≤ 1048576 := by
  unfold facR
  split
  · rename_i h
    have := len_facts h
    show (facs xs).length ≤ _
    rw [facs_len]
    omega
  · simp

set_option maxRecDepth 100000 in
theorem specFac_any (xs : List Int) (w : World) (hx : xs.length ≤ 1048576) (lo : Nat) (s : Value) (hO : Own w lo s xs) :
    Calls Try.prog 34 #[s] w fun e w' => AnsL (facR xs) w e w' := by
  obtain ⟨a, p, rfl, hr⟩ := hO.reads
  clear hO
  cases hg : lenB xs
  · rw [show facR xs = ⟨[], false⟩ by simp [facR, hg]]
    have HC := Lib.hid (at_boolB (feGood_any a p xs w hx hr) hg)
    clear hg
    go_enter Try.func34, Try.ntmps34
    go_wp2_with fail
    refine HC.out.mono ?_
    rintro e w2 ⟨rfl, hb⟩
    go_wp2_with fail
    go_ret2
    exact ⟨_, rfl, Own.nil _ _, hb⟩
  · rw [show facR xs = ⟨facs xs, true⟩ by simp [facR, hg]]
    have HC := Lib.hid (at_boolB (feGood_any a p xs w hx hr) hg)
    have HF := Lib.hid (fun (W : World) (h : Reads W a xs.length xs) => feFactors_any a p xs W (by have := len_facts hg; omega) (len_bd hg) h)
    clear hg
    go_enter Try.func34, Try.ntmps34
    go_wp2_with fail
    refine HC.out.mono ?_
    rintro e w2 ⟨rfl, hb⟩
    go_wp2_with fail
    refine (HF.out _ (hr.kept hb)).mono ?_
    rintro e w3 ⟨v, rfl, hO, hb3⟩
    go_wp2_with fail
    go_ret2
    exact ⟨_, rfl, hO.lower hb.size, below_on hb hb3⟩

set_option maxRecDepth 100000 in
theorem implFac_any (xs : List Int) (w : World) (hx : xs.length ≤ 1048576) (lo : Nat) (s : Value) (hO : Own w lo s xs) :
    Calls Try.prog 35 #[s] w fun e w' => AnsL (facR xs) w e w' := by
  obtain ⟨a, p, rfl, hr⟩ := hO.reads
  clear hO
  cases hg : lenB xs
  · rw [show facR xs = ⟨[], false⟩ by simp [facR, hg]]
    have HC := Lib.hid (lengthsOf_no a p xs w hx hr hg)
    clear hg
    go_enter Try.func35, Try.ntmps35
    go_wp2_with fail
    refine HC.out.mono ?_
    rintro e w2 ⟨rfl, hb⟩
    go_wp2_with fail
    go_ret2
    exact ⟨_, rfl, Own.nil _ _, below_on hb (below_new _)⟩
  · rw [show facR xs = ⟨facs xs, true⟩ by simp [facR, hg]]
    obtain ⟨l1, l2, _⟩ := len_facts hg
    have HC := Lib.hid (lengthsOf_yes a p xs w hx hr hg)
    have HF := Lib.hid (fun W => factors_any xs W l1 l2 (len_bd hg))
    have hl := fun W => list_any (facs xs) W (by rw [facs_len]; exact l2)
    rw [facs_len] at hl
    have HL := Lib.hid hl
    clear hg hl l1 l2
    obtain ⟨M, hM⟩ : ∃ M : Nat → Int, M = fun k => xs.getD k 0 := ⟨_, rfl⟩
    rw [show fl xs = M from hM.symm] at HF
    rw [← hM] at HC
    obtain ⟨N, hN⟩ : ∃ N : Nat → Int, N = fl (facs xs) := ⟨_, rfl⟩
    rw [← hN] at HF HL
    clear hM hN
    go_enter Try.func35, Try.ntmps35
    go_wp2_with fail
    refine HC.out.mono ?_
    rintro e w2 ⟨rfl, hb⟩
    have HB := Lib.hid (below_on hb (below_new (.cells #[.int .i64 xs.length, .int .i64 (M 0), .int .i64 (M 1), .int .i64 (M 2), .int .i64 (M 3), .int .i64 (M 4), .int .i64 (M 5)] 49)))
    clear hb
    go_wp2_with fail
    refine (HF.out _).mono ?_
    rintro e w3 ⟨rfl, hb3⟩
    go_wp2_with fail
    refine (HL.out _).mono ?_
    rintro e w4 ⟨v, rfl, hO, hb4⟩
    go_wp2_with fail
    go_ret2
    have h3 := below_on HB.out hb3
    exact ⟨_, rfl, hO.lower h3.size, below_on h3 hb4⟩

theorem isPointF_any (x : Int) (w : World) : Calls Try.prog 67 #[.int .i64 x] w fun e w' => e = .returned (.bool (inB (-20) x 20)) ∧ w = w' := by
  by_cases h1 : -20 ≤ x
  · by_cases h2 : x ≤ 20
    · have HI := Lib.hid (inB_yes h1 h2)
      go_enter Try.func67, Try.ntmps67
      go_wp2
      all_goals go_ret
      all_goals exact ⟨ret_bool HI.out.symm, rfl⟩
    · have HI := Lib.hid (inB_no (lo := -20) (n := x) (hi := 20) (by omega))
      have h3 : 20 < x := by omega
      go_enter Try.func67, Try.ntmps67
      go_wp2
      all_goals go_ret
      all_goals exact ⟨ret_bool (by rw [HI.out]), rfl⟩
  · have HI := Lib.hid (inB_no (lo := -20) (n := x) (hi := 20) (by omega))
    have h3 : x < -20 := by omega
    go_enter Try.func67, Try.ntmps67
    go_wp2
    all_goals go_ret
    all_goals exact ⟨ret_bool (by rw [HI.out]), rfl⟩

/-- What ProductAt answers. -/
def prodR (xs : List Int) (x : Int) : R1 := if lenB xs && inB (-20) x 20 then ⟨prodX (facs xs) x xs.length, true⟩ else ⟨0, false⟩
theorem prod_in {ys : List Int} {x : Int} (hx : -20 ≤ x ∧ x ≤ 20) (hf : ∀ k, -6 ≤ ys.getD k 0 ∧ ys.getD k 0 ≤ 6) (k : Nat) (hk : k ≤ 6) : -308915776 ≤ prodX ys x k ∧ prodX ys x k ≤ 308915776 := by
  have a := prodX_abs ys x hx hf k
  have b := pow26 k hk
  omega

set_option maxRecDepth 100000 in
theorem implProd_any (xs : List Int) (x : Int) (w : World) (hx : xs.length ≤ 1048576) (lo : Nat) (s : Value) (hO : Own w lo s xs) :
    Calls Try.prog 37 #[s, .int .i64 x] w fun e w' => AnsIO (prodR xs x) w e w' := by
  obtain ⟨a, p, rfl, hr⟩ := hO.reads
  clear hO
  cases hg : lenB xs
  · rw [show prodR xs x = ⟨0, false⟩ by simp [prodR, hg]]
    have HC := Lib.hid (lengthsOf_no a p xs w hx hr hg)
    clear hg
    go_enter Try.func37, Try.ntmps37
    go_wp2_with fail
    refine HC.out.mono ?_
    rintro e w2 ⟨rfl, hb⟩
    go_wp2_with fail
    go_ret2
    exact ⟨rfl, below_on hb (below_new _)⟩
  · cases hi : inB (-20) x 20
    · rw [show prodR xs x = ⟨0, false⟩ by simp [prodR, hi]]
      have HC := Lib.hid (lengthsOf_yes a p xs w hx hr hg)
      have HI := Lib.hid (at_bool (isPointF_any x) hi)
      clear hg hi
      go_enter Try.func37, Try.ntmps37
      go_wp2_with fail
      refine HC.out.mono ?_
      rintro e w2 ⟨rfl, hb⟩
      go_wp2_with fail
      refine (HI.out _).mono ?_
      rintro e w' ⟨rfl, hww⟩
      subst hww
      go_wp2_with fail
      go_ret2
      exact ⟨rfl, below_on hb (below_new _)⟩
    · rw [show prodR xs x = ⟨prodX (facs xs) x xs.length, true⟩ by simp [prodR, hi, hg]]
      obtain ⟨l1, l2, _⟩ := len_facts hg
      have HC := Lib.hid (lengthsOf_yes a p xs w hx hr hg)
      have HI := Lib.hid (at_bool (isPointF_any x) hi)
      have HF := Lib.hid (fun W => productAt_any xs x W (inB_iff.1 hi) l1 l2 (len_bd hg) (facs_bd hg))
      clear hg hi l1 l2
      obtain ⟨M, hM⟩ : ∃ M : Nat → Int, M = fun k => xs.getD k 0 := ⟨_, rfl⟩
      rw [show fl xs = M from hM.symm] at HF
      rw [← hM] at HC
      clear hM
      go_enter Try.func37, Try.ntmps37
      go_wp2_with fail
      refine HC.out.mono ?_
      rintro e w2 ⟨rfl, hb⟩
      have HB := Lib.hid (below_on hb (below_new (.cells #[.int .i64 xs.length, .int .i64 (M 0), .int .i64 (M 1), .int .i64 (M 2), .int .i64 (M 3), .int .i64 (M 4), .int .i64 (M 5)] 49)))
      clear hb
      go_wp2_with fail
      refine (HI.out _).mono ?_
      rintro e w' ⟨rfl, hww⟩
      subst hww
      go_wp2_with fail
      refine (HF.out _).mono ?_
      rintro e w3 ⟨rfl, hb3⟩
      go_wp2_with fail
      go_ret2
      exact ⟨rfl, below_on HB.out hb3⟩

set_option maxRecDepth 100000 in
set_option maxHeartbeats 1600000 in
theorem specProd_any (xs : List Int) (x : Int) (w : World) (hx : xs.length ≤ 1048576) (lo : Nat) (s : Value) (hO : Own w lo s xs) :
    Calls Try.prog 36 #[s, .int .i64 x] w fun e w' => AnsIO (prodR xs x) w e w' := by
  obtain ⟨a, p, rfl, hr⟩ := hO.reads
  clear hO
  have HI := Lib.hid (l1In_any x (-20) 20)
  cases hg : lenB xs
  · rw [show prodR xs x = ⟨0, false⟩ by simp [prodR, hg]]
    have HC := Lib.hid (at_boolB (feGood_any a p xs w hx hr) hg)
    clear hg
    go_enter Try.func36, Try.ntmps36
    go_wp2_with fail
    refine HC.out.mono ?_
    rintro e w2 ⟨rfl, hb⟩
    go_wp2_with fail
    go_ret2
    exact ⟨rfl, hb⟩
  · cases hi : inB (-20) x 20
    · rw [show prodR xs x = ⟨0, false⟩ by simp [prodR, hi]]
      have HC := Lib.hid (at_boolB (feGood_any a p xs w hx hr) hg)
      rw [hi] at HI
      clear hg hi
      go_enter Try.func36, Try.ntmps36
      go_wp2_with fail
      refine HC.out.mono ?_
      rintro e w2 ⟨rfl, hb⟩
      go_wp2_with fail
      refine (HI.out _).mono ?_
      rintro e w' ⟨rfl, rfl⟩
      go_wp2_with fail
      go_ret2
      exact ⟨rfl, hb⟩
    · rw [show prodR xs x = ⟨prodX (facs xs) x xs.length, true⟩ by simp [prodR, hi, hg]]
      obtain ⟨l1, l2, _⟩ := len_facts hg
      have HC := Lib.hid (at_boolB (feGood_any a p xs w hx hr) hg)
      have HF := Lib.hid (fun (W : World) (h : Reads W a xs.length xs) => feFactors_any a p xs W (by omega) (len_bd hg) h)
      have HA := Lib.hid (fun k hk => prod_in (inB_iff.1 hi) (facs_bd hg) k hk)
      have HY := Lib.hid (facs_bd hg)
      have HN := Lib.hid (facs_len xs)
      have hx20 := inB_iff.1 hi
      rw [hi] at HI
      clear hg hi
      generalize facs xs = ys at *
      go_enter Try.func36, Try.ntmps36
      go_wp2_with fail
      refine HC.out.mono ?_
      rintro e w2 ⟨rfl, hb⟩
      go_wp2_with fail
      refine (HI.out _).mono ?_
      rintro e w' ⟨rfl, rfl⟩
      go_wp2_with fail
      refine (HF.out _ (hr.kept hb)).mono ?_
      rintro e w3 ⟨v, rfl, hO, hb3⟩
      have HB := Lib.hid (below_on hb hb3)
      obtain ⟨ao, po, rfl, ho⟩ := hO.reads
      rw [HN.out] at ho ⊢
      clear hb hb3 hO HF HC HI
      go_wp2_with fail
      go_loop [6, 20] (fun t i => ∃ k : Nat, k ≤ xs.length ∧ i = .int .i64 k ∧ t = .int .i64 (prodX ys x k)) (fun _ i => xs.length - (intOf i).toNat)
      case atStart => exact ⟨0, Nat.zero_le _, rfl, rfl⟩
      case round =>
        obtain ⟨k, hk, rfl, rfl⟩ := hrel
        by_cases hlt : k < xs.length
        · obtain ⟨b, off, rfl, hbl, hc⟩ := reads_row ho (by omega)
          have hck := hc k hlt
          have hy := HY.out k
          have ha := HA.out (k + 1) (by omega)
          rw [prodX] at ha
          have HP := Lib.hid (show prodX ys x (k + 1) = prodX ys x k * (x + ys.getD k 0) from rfl)
          generalize ys.getD k 0 = y at *
          have hw1 : IntKind.i64.wrap (x + y) = x + y := IntWalk.i64_in _ (by omega)
          have hw2 : IntKind.i64.wrap (prodX ys x k * (x + y)) = prodX ys x k * (x + y) := IntWalk.i64_in _ (by omega)
          have hw3 : wrap64 (x + y) = x + y := IntWalk.wrap64_in _ (by omega)
          have hw4 : wrap64 (prodX ys x k * (x + y)) = prodX ys x k * (x + y) := IntWalk.wrap64_in _ (by omega)
          clear ha hy hc hbl
          generalize prodX ys x k = z at *
          go_wp2_with fail
          go_round
          case rel => exact ⟨k + 1, by omega, by go_num, by rw [HP.out]⟩
          case measure => simp [intOf]; omega
        · obtain rfl : k = xs.length := by omega
          go_wp2_with fail
          go_ret2
          exact ⟨rfl, HB.out⟩

/-- What FullPlacements answers. -/
def fullR (xs : List Int) : R1 := if lenB xs then ⟨fullX xs xs.length, true⟩ else ⟨0, false⟩
theorem fullX_bd (xs : List Int) (h : ∀ k, xs.getD k 0 ≤ 6) (k : Nat) : 0 ≤ fullX xs k ∧ fullX xs k ≤ 6 ^ k := by
  induction k with
  | zero => simp [fullX]
  | succ k ih =>
    rw [fullX, Int.pow_succ]
    have hm := h k
    have c := mul6 _ (max 0 (xs.getD k 0 - (k : Int))) _ ih ⟨by omega, by omega⟩
    omega
theorem pow6i (i : Nat) (h : i ≤ 6) : (6 : Int) ^ i ≤ 46656 := by
  match i, h with
  | 0, _ | 1, _ | 2, _ | 3, _ | 4, _ | 5, _ | 6, _ => decide

set_option maxRecDepth 100000 in
theorem implFull3_any (xs : List Int) (w : World) (hx : xs.length ≤ 1048576) (lo : Nat) (s : Value) (hO : Own w lo s xs) :
    Calls Try.prog 41 #[s] w fun e w' => AnsIO (fullR xs) w e w' := by
  obtain ⟨a, p, rfl, hr⟩ := hO.reads
  clear hO
  cases hg : lenB xs
  · rw [show fullR xs = ⟨0, false⟩ by simp [fullR, hg]]
    have HC := Lib.hid (lengthsOf_no a p xs w hx hr hg)
    clear hg
    go_enter Try.func41, Try.ntmps41
    go_wp2_with fail
    refine HC.out.mono ?_
    rintro e w2 ⟨rfl, hb⟩
    go_wp2_with fail
    go_ret2
    exact ⟨rfl, below_on hb (below_new _)⟩
  · rw [show fullR xs = ⟨prodX (facs xs) 0 xs.length, true⟩ by simp [fullR, hg, full_same hg]]
    obtain ⟨l1, l2, _⟩ := len_facts hg
    have HC := Lib.hid (lengthsOf_yes a p xs w hx hr hg)
    have HF := Lib.hid (fun W => productAt_any xs 0 W (by decide) l1 l2 (len_bd hg) (facs_bd hg))
    clear hg l1 l2
    obtain ⟨M, hM⟩ : ∃ M : Nat → Int, M = fun k => xs.getD k 0 := ⟨_, rfl⟩
    rw [show fl xs = M from hM.symm] at HF
    rw [← hM] at HC
    clear hM
    go_enter Try.func41, Try.ntmps41
    go_wp2_with fail
    refine HC.out.mono ?_
    rintro e w2 ⟨rfl, hb⟩
    have HB := Lib.hid (below_on hb (below_new (.cells #[.int .i64 xs.length, .int .i64 (M 0), .int .i64 (M 1), .int .i64 (M 2), .int .i64 (M 3), .int .i64 (M 4), .int .i64 (M 5)] 49)))
    clear hb
    go_wp2_with fail
    refine (HF.out _).mono ?_
    rintro e w3 ⟨rfl, hb3⟩
    go_wp2_with fail
    go_ret2
    exact ⟨rfl, below_on HB.out hb3⟩

theorem l1Most_any (x y : Int) (w : World) : Calls Try.prog 71 #[.int .i64 x, .int .i64 y] w fun e w' => e = .returned (.int .i64 (max x y)) ∧ w' = w := by
  by_cases h : y < x
  · have HM := Lib.hid (show max x y = x by omega)
    rw [HM.out]
    go_enter Try.func71, Try.ntmps71
    go_wp2_with fail
    go_ret
    exact ⟨rfl, rfl⟩
  · have HM := Lib.hid (show max x y = y by omega)
    rw [HM.out]
    go_enter Try.func71, Try.ntmps71
    go_wp2_with fail
    go_ret
    exact ⟨rfl, rfl⟩

set_option maxRecDepth 100000 in
set_option maxHeartbeats 1600000 in
theorem specFull3_any (xs : List Int) (w : World) (hx : xs.length ≤ 1048576) (lo : Nat) (s : Value) (hO : Own w lo s xs) :
    Calls Try.prog 40 #[s] w fun e w' => AnsIO (fullR xs) w e w' := by
  obtain ⟨a, p, rfl, hr⟩ := hO.reads
  clear hO
  cases hg : lenB xs
  · rw [show fullR xs = ⟨0, false⟩ by simp [fullR, hg]]
    have HC := Lib.hid (at_boolB (feGood_any a p xs w hx hr) hg)
    clear hg
    go_enter Try.func40, Try.ntmps40
    go_wp2_with fail
    refine HC.out.mono ?_
    rintro e w2 ⟨rfl, hb⟩
    go_wp2_with fail
    go_ret2
    exact ⟨rfl, hb⟩
  · rw [show fullR xs = ⟨fullX xs xs.length, true⟩ by simp [fullR, hg]]
    obtain ⟨l1, l2, l3, _⟩ := len_facts hg
    have HC := Lib.hid (at_boolB (feGood_any a p xs w hx hr) hg)
    have HA := Lib.hid (fun k (hk : k ≤ 6) => show 0 ≤ fullX xs k ∧ fullX xs k ≤ 46656 from by
      have a := fullX_bd xs (fun k => (l3 k).2) k
      have b := pow6i k hk
      omega)
    have HY := Lib.hid l3
    clear hg l3
    go_enter Try.func40, Try.ntmps40
    go_wp2_with fail
    refine HC.out.mono ?_
    rintro e w2 ⟨rfl, hb⟩
    have hr2 := hr.kept hb
    have HB := Lib.hid hb
    clear hb hr HC
    go_wp2_with fail
    go_loop [4, 12] (fun t i => ∃ k : Nat, k ≤ xs.length ∧ i = .int .i64 k ∧ t = .int .i64 (fullX xs k)) (fun _ i => xs.length - (intOf i).toNat)
    case atStart => exact ⟨0, Nat.zero_le _, rfl, rfl⟩
    case round =>
      obtain ⟨k, hk, rfl, rfl⟩ := hrel
      by_cases hlt : k < xs.length
      · obtain ⟨b, off, rfl, hbl, hc⟩ := reads_row hr2 (by omega)
        have hck := hc k hlt
        have hy := HY.out k
        have ha := HA.out (k + 1) (by omega)
        rw [fullX] at ha
        have HP := Lib.hid (show fullX xs (k + 1) = fullX xs k * max 0 (xs.getD k 0 - k) from rfl)
        generalize xs.getD k 0 = y at *
        have hw1 : IntKind.i64.wrap (y - k) = y - k := IntWalk.i64_in _ (by omega)
        have HM := Lib.hid (l1Most_any 0 (y - k))
        obtain ⟨m, hm⟩ : ∃ m, m = max 0 (y - (k : Int)) := ⟨_, rfl⟩
        rw [← hm] at ha HP HM
        have hw2 : IntKind.i64.wrap (fullX xs k * m) = fullX xs k * m := IntWalk.i64_in _ (by omega)
        have hw4 : wrap64 (fullX xs k * m) = fullX xs k * m := IntWalk.wrap64_in _ (by omega)
        clear ha hy hc hbl hm
        generalize fullX xs k = z at *
        go_wp2_with fail
        refine (HM.out _).mono ?_
        rintro e w' ⟨rfl, hww⟩
        subst hww
        go_wp2_with fail
        go_round
        case rel => exact ⟨k + 1, by omega, by go_num, by rw [HP.out]⟩
        case measure => simp [intOf]; omega
      · obtain rfl : k = xs.length := by omega
        go_wp2_with fail
        go_ret2
        exact ⟨rfl, HB.out⟩

end Go.Proofs.Ythkghbnmdebhpaa
