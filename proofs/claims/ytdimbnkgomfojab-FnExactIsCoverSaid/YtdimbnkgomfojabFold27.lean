import Derived.Test.YtdimbnkgomfojabFold19
import Derived.Test.YtdimbnkgomfojabFold15
import Derived.Test.YtdimbnkgomfojabFold24
import Derived.Test.YtdimbnkgomfojabFold25
import Derived.Test.YtdimbnkgomfojabFold26

section
namespace Go.Proofs.Ytdimbnkgomfojab
open Go.RowKit Go.WideShapes

def rowC (xs : List Int) (a j : Nat) : List (List Int) := ((List.range j).filter (fun b => (xs.getD a 0).toNat.testBit b)).map (fun (b : Nat) => [(a : Int), (b : Int)])
def cellsU (xs : List Int) (m i j : Nat) : List (List Int) := (List.range i).flatMap (fun a => rowC xs a m) ++ rowC xs i j
def cellsL (xs : List Int) (n m : Nat) : List (List Int) := cellsU xs m n 0
theorem cellsU_zero (xs : List Int) (m : Nat) : cellsU xs m 0 0 = [] := by simp [cellsU, rowC]
theorem cellsU_yes (xs : List Int) (m i j : Nat) (h : (xs.getD i 0).toNat.testBit j = true) : cellsU xs m i j ++ [[(i : Int), (j : Int)]] = cellsU xs m i (j + 1) := by
  unfold cellsU rowC
  rw [List.append_assoc, List.range_succ, List.filter_append, List.map_append]
  simp only [List.getD_eq_getElem?_getD] at h
  simp [h]
theorem cellsU_no (xs : List Int) (m i j : Nat) (h : (xs.getD i 0).toNat.testBit j = false) : cellsU xs m i (j + 1) = cellsU xs m i j := by
  unfold cellsU rowC
  rw [List.range_succ, List.filter_append, List.map_append]
  simp only [List.getD_eq_getElem?_getD] at h
  simp [h]
theorem cellsU_row (xs : List Int) (m i : Nat) : cellsU xs m i m = cellsU xs m (i + 1) 0 := by
  unfold cellsU
  rw [List.range_succ, List.flatMap_append]
  simp [rowC]
theorem rowC_len (xs : List Int) (a j : Nat) : (rowC xs a j).length ≤ j := by
  unfold rowC
  rw [List.length_map]
  exact Nat.le_trans (List.length_filter_le _ _) (by simp)
theorem flat_len (xs : List Int) (m i : Nat) : ((List.range i).flatMap (fun a => rowC xs a m)).length ≤ i * m := by
  induction i with
  | zero => simp
  | succ i ih =>
    have e : ([i].flatMap (fun a => rowC xs a m)) = rowC xs i m := by simp
    rw [List.range_succ, List.flatMap_append, List.length_append, Nat.succ_mul, e]
    have := rowC_len xs i m
    omega
theorem cellsU_len (xs : List Int) (m i j : Nat) (hi : i ≤ 6) (hm : m ≤ 6) (hj : j ≤ 6) : (cellsU xs m i j).length ≤ 42 := by
  unfold cellsU
  rw [List.length_append]
  have h1 := flat_len xs m i
  have h2 := rowC_len xs i j
  have h3 : i * m ≤ 6 * 6 := Nat.mul_le_mul hi hm
  omega

/-- A row of two numbers that has just been laid. -/
theorem own_two (w : World) (x y : Int) : Own (w.alloc (.cells #[.int .i64 x, .int .i64 y] 3)) w.heap.size (.slice (some ⟨w.heap.size, 0, none⟩) 2 2) [x, y] :=
  own_of_has (n := 2) (xs := [x, y]) (Has.new w [.int .i64 x, .int .i64 y] 3) (Nat.le_refl _) rfl (by unfold maxLen; omega)

set_option maxRecDepth 100000 in
set_option maxHeartbeats 3200000 in
theorem boCells_any (n m : Nat) (xs : List Int) (w : World) (hx : xs.length ≤ 1048576) (hg : goodB n m xs = true) (lo : Nat) (s : Value) (hO : Own w lo s xs) :
    Calls Try.prog 69 #[.agg #[.int .i64 n, .int .i64 m, s]] w fun e w' => ∃ v vs, e = .returned v ∧ OwnM w' w.heap.size v vs (cellsL xs n m) ∧ Below w.heap.size w w' := by
  have hgc := good_cell hg
  obtain ⟨⟨g1l, g1h⟩, ⟨g2l, g2h⟩, g3, _⟩ := good_facts hg
  have L0 := ((Law.start w).box (.int .i64 n) (.int .i64 m) s 28).nilM
  obtain ⟨a, cap, hs, _⟩ := hO.reads
  subst hs
  have HO := Lib.hid hO
  have HL := Lib.hid L0
  clear hO L0 hg
  go_enter Try.func69, Try.ntmps69
  go_wp2_with fail
  go_loopw [3, 4, 5] (fun v i _ wr => ∃ (k : Nat) (vs : List Value), k ≤ n ∧ i = .int .i64 k ∧ Law w [tM v vs (cellsU xs m k 0), tBox w.heap.size (.int .i64 n) (.int .i64 m) (.slice a xs.length cap)] wr) (fun _ i _ _ => n - (intOf i).toNat)
  case atStart => exact ⟨0, [], Nat.zero_le _, rfl, by rw [cellsU_zero]; exact HL.out⟩
  case round =>
    clear HL
    obtain ⟨i, vs, hi, rfl, L⟩ := hrel
    obtain ⟨wo, rfl⟩ : ∃ wo : World, wo = wr := ⟨_, rfl⟩
    have ⟨_, m0, m1, m2, _⟩ := L.tl.ownBox
    have HL := Lib.hid L
    clear L
    by_cases hin : i < n
    · go_wp2_with fail
      clear m0 m1 m2
      go_loopw [3, 5] (fun v j wr => ∃ (l : Nat) (vs : List Value), l ≤ m ∧ j = .int .i64 l ∧ Law w [tM v vs (cellsU xs m i l), tBox w.heap.size (.int .i64 n) (.int .i64 m) (.slice a xs.length cap)] wr) (fun _ j _ => m - (intOf j).toNat)
      case atStart => exact ⟨0, vs, Nat.zero_le _, rfl, HL.out⟩
      case round =>
        clear HL
        obtain ⟨j, vs, hj, rfl, L⟩ := hrel
        have ⟨_, m0, m1, m2, _⟩ := L.tl.ownBox
        by_cases hjm : j < m
        · have hO1 := HO.out.kept L.below
          have HL := Lib.hid L
          clear L
          go_wp2_with fail
          refine (boHas_any n m xs i j _ (by omega) hx (by omega) (hgc i) lo _ hO1).mono ?_
          rintro e w2 ⟨rfl, hb⟩
          have L2 := HL.out.kept hb
          clear HL hb hO1 m0 m1 m2
          cases hp : (xs.getD i 0).toNat.testBit j
          · have HN := Lib.hid (cellsU_no xs m i j hp)
            have HL := Lib.hid L2
            clear L2 hp
            go_wp2_with fail
            go_roundw
            case rel => exact ⟨j + 1, vs, by omega, by go_num, by rw [HN.out]; exact HL.out⟩
            case measure => simp [intOf]; omega
          · have HN := Lib.hid (cellsU_yes xs m i j hp)
            have hln : vs.length + 1 ≤ 1048576 := by
              have := L2.ownM.len
              have := cellsU_len xs m i j (by omega) (by omega) (by omega)
              omega
            have HL := Lib.hid ((L2.own (below_new _) (own_two w2 i j)).kept (below_new (.cells #[.slice (some ⟨w2.heap.size, 0, none⟩) 2 2] 22)))
            clear L2 hp
            go_wp2_with (at_builtin; refine wp_appendM rfl _ _ rfl HL.out (w2.heap.size + 1) rfl rfl ?c1 rfl hln ?_)
            case c1 => simp
            intro g cp w3 L3
            have HL3 := Lib.hid L3
            clear L3 HL
            go_wp2_with fail
            go_roundw
            case rel => exact ⟨j + 1, _, by omega, by go_num, by rw [← HN.out]; exact HL3.out⟩
            case measure => simp [intOf]; omega
        · obtain rfl : j = m := by omega
          have HL := Lib.hid L
          clear L
          go_wp2_with fail
          clear m0 m1 m2
          go_roundw
          case rel => exact ⟨i + 1, vs, by omega, by go_num, by rw [← cellsU_row]; exact HL.out⟩
          case measure => simp [intOf]; omega
    · obtain rfl : i = n := by omega
      go_wp2_with fail
      go_ret
      exact ⟨_, vs, rfl, HL.out.ownMLo, HL.out.below⟩

end Go.Proofs.Ytdimbnkgomfojab
end

section
namespace Go.Proofs.Ytdimbnkgomfojab
open Go.RowKit Go.WideShapes

theorem and_ints (a b : Nat) (ha : a < 64) (hb : b < 64) : bits .and .i64 (a : Int) (b : Int) = ((a &&& b : Nat) : Int) := by
  have key : ∀ a : Fin 64, ∀ b : Fin 64, bits .and .i64 ((a : Nat) : Int) ((b : Nat) : Int) = (((a : Nat) &&& (b : Nat) : Nat) : Int) := by decide +kernel
  exact key ⟨a, ha⟩ ⟨b, hb⟩
theorem not_ints (a b : Nat) (ha : a < 64) (hb : b < 64) : bits .andNot .i64 (a : Int) (b : Int) = ((a &&& (63 ^^^ b) : Nat) : Int) := by
  have key : ∀ a : Fin 64, ∀ b : Fin 64, bits .andNot .i64 ((a : Nat) : Int) ((b : Nat) : Int) = (((a : Nat) &&& (63 ^^^ (b : Nat)) : Nat) : Int) := by decide +kernel
  exact key ⟨a, ha⟩ ⟨b, hb⟩
theorem pow_own (c : Nat) (hc : c < 6) : wrap64 (2 ^ c) = ((2 ^ c : Nat) : Int) ∧ IntKind.i64.wrap (2 ^ c) = ((2 ^ c : Nat) : Int) ∧ 2 ^ c < 64 := by
  have key : ∀ c : Fin 6, wrap64 (2 ^ (c : Nat)) = ((2 ^ (c : Nat) : Nat) : Int) ∧ IntKind.i64.wrap (2 ^ (c : Nat)) = ((2 ^ (c : Nat) : Nat) : Int) ∧ 2 ^ (c : Nat) < 64 := by decide +kernel
  exact key ⟨c, hc⟩
/-- The column of a place, as a mask. -/
def ownQ (x : Int) : Nat := if x = -1 then 0 else 2 ^ x.toNat
theorem ownQ_lt (x : Int) (h : x = -1 ∨ (0 ≤ x ∧ x < 6)) : ownQ x < 64 := by
  unfold ownQ
  split
  · omega
  · obtain ⟨c, rfl⟩ := Int.eq_ofNat_of_zero_le (show 0 ≤ x by omega)
    rw [Int.toNat_natCast]
    exact (pow_own c (by omega)).2.2
/-- What is left in each row behind some placements: what all of them have, what none of them has. -/
def ndM (M : Nat → Int) (L : List (List Int)) (n r : Nat) : Nat := L.foldl (fun a P => a &&& ownQ (plF P n r)) (M r).toNat
def usM (M : Nat → Int) (L : List (List Int)) (n r : Nat) : Nat := L.foldl (fun a P => a &&& (63 ^^^ ownQ (plF P n r))) (M r).toNat
theorem ndM_snoc (M : Nat → Int) (L : List (List Int)) (P : List Int) (n r : Nat) : ndM M (L ++ [P]) n r = ndM M L n r &&& ownQ (plF P n r) := by simp [ndM]
theorem usM_snoc (M : Nat → Int) (L : List (List Int)) (P : List Int) (n r : Nat) : usM M (L ++ [P]) n r = usM M L n r &&& (63 ^^^ ownQ (plF P n r)) := by simp [usM]
theorem fold_and (f : List Int → Nat) (c : Nat) (L : List (List Int)) : ∀ a : Nat, (L.foldl (fun a P => a &&& f P) a).testBit c = (a.testBit c && L.all fun P => (f P).testBit c) := by
  induction L with
  | nil => intro a; simp
  | cons x L ih => intro a; rw [List.foldl_cons, ih, Nat.testBit_and, List.all_cons, Bool.and_assoc]
theorem fold_and_lt (f : List Int → Nat) (L : List (List Int)) : ∀ a : Nat, a < 64 → L.foldl (fun a P => a &&& f P) a < 64 := by
  induction L with
  | nil => intro a h; exact h
  | cons x L ih => intro a h; exact ih _ (Nat.lt_of_le_of_lt Nat.and_le_left h)
theorem own_bit (x : Int) (h : x = -1 ∨ (0 ≤ x ∧ x < 6)) (c : Nat) (hc : c < 6) : (ownQ x).testBit c = (x == (c : Int)) := by
  unfold ownQ
  rcases h with rfl | ⟨h1, h2⟩
  · rw [if_pos rfl, Nat.zero_testBit]
    symm
    rw [beq_eq_false_iff_ne]
    omega
  · obtain ⟨d, rfl⟩ := Int.eq_ofNat_of_zero_le h1
    rw [if_neg (by omega), Int.toNat_natCast, Nat.testBit_two_pow, Bool.eq_iff_iff, decide_eq_true_iff, beq_iff_eq]
    omega
theorem not_bit (a c : Nat) (hc : c < 6) : (63 ^^^ a).testBit c = !a.testBit c := by
  rw [Nat.testBit_xor]
  have : (63 : Nat).testBit c = true := by
    have key : ∀ c : Fin 6, (63 : Nat).testBit (c : Nat) = true := by decide
    exact key ⟨c, hc⟩
  rw [this]
  simp
/-- The rows up to k with one placement more. -/
def stepN (M : Nat → Int) (L : List (List Int)) (P : List Int) (n k r : Nat) : Int := if r < k then (ndM M (L ++ [P]) n r : Nat) else (ndM M L n r : Nat)
def stepU (M : Nat → Int) (L : List (List Int)) (P : List Int) (n k r : Nat) : Int := if r < k then (usM M (L ++ [P]) n r : Nat) else (usM M L n r : Nat)
theorem stepN_set (M : Nat → Int) (L : List (List Int)) (P : List Int) (n k : Nat) : stepN M L P n (k + 1) k = (ndM M (L ++ [P]) n k : Nat) ∧ ∀ r, r ≠ k → stepN M L P n (k + 1) r = stepN M L P n k r := by
  unfold stepN
  refine ⟨by rw [if_pos (by omega)], fun r hr => ?_⟩
  by_cases h : r < k
  · rw [if_pos h, if_pos (by omega)]
  · rw [if_neg h, if_neg (by omega)]
theorem stepU_set (M : Nat → Int) (L : List (List Int)) (P : List Int) (n k : Nat) : stepU M L P n (k + 1) k = (usM M (L ++ [P]) n k : Nat) ∧ ∀ r, r ≠ k → stepU M L P n (k + 1) r = stepU M L P n k r := by
  unfold stepU
  refine ⟨by rw [if_pos (by omega)], fun r hr => ?_⟩
  by_cases h : r < k
  · rw [if_pos h, if_pos (by omega)]
  · rw [if_neg h, if_neg (by omega)]
abbrev ndF (M : Nat → Int) (L : List (List Int)) (n : Nat) : Nat → Int := fun r => (ndM M L n r : Nat)
abbrev usF (M : Nat → Int) (L : List (List Int)) (n : Nat) : Nat → Int := fun r => (usM M L n r : Nat)
theorem gl_congr6 (n m : Int) (F G : Nat → Int) (h : ∀ k, k < 6 → F k = G k) : gl n m F = gl n m G := by simp [gl, h]

set_option maxRecDepth 100000 in
set_option maxHeartbeats 3200000 in
theorem cbl1_any (n m : Nat) (M : Nat → Int) (L : List (List Int)) (P : List Int) (bn bu : Nat) (w : World) (hM : ∀ k, k < 6 → 0 ≤ M k ∧ M k < 64) (hP : ∀ k, k < 6 → plF P n k = -1 ∨ (0 ≤ plF P n k ∧ plF P n k < 6)) (hd : bn ≠ bu)
    (HN : Has w bn (gl n m (ndF M L n)) 68) (HU : Has w bu (gl n m (usF M L n)) 68) :
    Calls Try.prog 124 (#[pv6 (plF P n)] ++ #[.pointer (some ⟨bn, 0, none⟩), .pointer (some ⟨bu, 0, none⟩)]) w fun e w' => e = .returned (.bool true) ∧ Has w' bn (gl n m (ndF M (L ++ [P]) n)) 68 ∧ Has w' bu (gl n m (usF M (L ++ [P]) n)) 68 ∧ Chg (fun b => b = bn ∨ b = bu) w w' := by
  obtain ⟨F, hF⟩ : ∃ F, F = plF P n := ⟨_, rfl⟩
  have hnl : ∀ k, k < 6 → ndM M L n k < 64 := fun k hk => fold_and_lt _ L _ (by have := hM k hk; omega)
  have hul : ∀ k, k < 6 → usM M L n k < 64 := fun k hk => fold_and_lt _ L _ (by have := hM k hk; omega)
  have hns := fun k => ndM_snoc M L P n k
  have hus := fun k => usM_snoc M L P n k
  rw [← hF] at hP hns hus ⊢
  have hb := below_new (w := w) (.cells #[.int .i64 (F 0), .int .i64 (F 1), .int .i64 (F 2), .int .i64 (F 3), .int .i64 (F 4), .int .i64 (F 5)] 71)
  have hnP : Has (w.alloc (.cells #[.int .i64 (F 0), .int .i64 (F 1), .int .i64 (F 2), .int .i64 (F 3), .int .i64 (F 4), .int .i64 (F 5)] 71)) w.heap.size (pl6 F) 71 := Has.new w (pl6 F) 71
  have HST := Lib.hid (show Has (w.alloc (.cells #[.int .i64 (F 0), .int .i64 (F 1), .int .i64 (F 2), .int .i64 (F 3), .int .i64 (F 4), .int .i64 (F 5)] 71)) bn (gl n m (stepN M L P n 0)) 68 ∧ Has (w.alloc (.cells #[.int .i64 (F 0), .int .i64 (F 1), .int .i64 (F 2), .int .i64 (F 3), .int .i64 (F 4), .int .i64 (F 5)] 71)) bu (gl n m (stepU M L P n 0)) 68 ∧ Chg (fun b => b = bn ∨ b = bu) w (w.alloc (.cells #[.int .i64 (F 0), .int .i64 (F 1), .int .i64 (F 2), .int .i64 (F 3), .int .i64 (F 4), .int .i64 (F 5)] 71)) from
    ⟨HN.kept hb HN.lt, HU.kept hb HU.lt, Chg.of_below hb⟩)
  have HNL := Lib.hid hnl
  have HUL := Lib.hid hul
  have HNS := Lib.hid hns
  have HUS := Lib.hid hus
  have HPF := Lib.hid hP
  have HFI := Lib.hid (show gl n m (stepN M L P n 6) = gl n m (ndF M (L ++ [P]) n) ∧ gl n m (stepU M L P n 6) = gl n m (usF M (L ++ [P]) n) from ⟨gl_congr6 _ _ _ _ (fun k hk => by unfold stepN; rw [if_pos hk]), gl_congr6 _ _ _ _ (fun k hk => by unfold stepU; rw [if_pos hk])⟩)
  clear HN HU hnl hul hns hus hP hF hM hb
  go_enter Try.func124, Try.ntmps124
  go_upto_region 1 with fail
  generalize w.alloc (.cells #[.int .i64 (F 0), .int .i64 (F 1), .int .i64 (F 2), .int .i64 (F 3), .int .i64 (F 4), .int .i64 (F 5)] 71) = w5 at *
  have hrow := hnP.row6
  go_wp2_with (refine wpList_load_row rfl 71 _ rfl _ rfl _ _ _ _ hrow Try.underlying71 rfl (by kernel_rfl) ?_)
  clear hrow hnP
  go_loopw [9] (fun i wr => ∃ k : Nat, k ≤ 6 ∧ i = .int .i64 k ∧ Has wr bn (gl n m (stepN M L P n k)) 68 ∧ Has wr bu (gl n m (stepU M L P n k)) 68 ∧ Chg (fun b => b = bn ∨ b = bu) w wr) (fun i _ => 6 - (intOf i).toNat)
  case atStart => exact ⟨0, by omega, rfl, HST.out⟩
  case round =>
    clear HST
    obtain ⟨k, hk, rfl, hN, hU, hC⟩ := hrel
    by_cases hlt : k < 6
    · have ix := ixP F k hlt
      have hjf := HPF.out k hlt
      have hsn := HNS.out k
      have hsu := HUS.out k
      have hln := HNL.out k hlt
      have hlu := HUL.out k hlt
      obtain ⟨s1, s2⟩ := stepN_set M L P n k
      obtain ⟨u1, u2⟩ := stepU_set M L P n k
      have hown := ownQ_lt (F k) hjf
      have han := and_ints _ _ hln hown
      have hno := not_ints _ _ hlu hown
      rw [← hsn] at han
      rw [← hsu] at hno
      have hce := hN.cell (2 + k)
      rw [gl_get n m _ k hlt, show stepN M L P n k k = (ndM M L n k : Nat) by unfold stepN; rw [if_neg (by omega)]] at hce
      have hfe := hN.free (2 + k)
      have hue := hU.cell (2 + k)
      rw [gl_get n m _ k hlt, show stepU M L P n k k = (usM M L n k : Nat) by unfold stepU; rw [if_neg (by omega)]] at hue
      have hSN := hN.set (2 + k) (.int .i64 (ndM M (L ++ [P]) n k : Nat))
      rw [gl_set n m _ (stepN M L P n (k + 1)) k hlt _ s1 s2] at hSN
      have hUK := hU.other ⟨bn, 2 + k, none⟩ hd (.int .i64 (ndM M (L ++ [P]) n k : Nat))
      have hue2 := hUK.cell (2 + k)
      rw [gl_get n m _ k hlt, show stepU M L P n k k = (usM M L n k : Nat) by unfold stepU; rw [if_neg (by omega)]] at hue2
      have hfu := hUK.free (2 + k)
      have hSU := hUK.set (2 + k) (.int .i64 (usM M (L ++ [P]) n k : Nat))
      rw [gl_set n m _ (stepU M L P n (k + 1)) k hlt _ u1 u2] at hSU
      have hSN2 := hSN.other ⟨bu, 2 + k, none⟩ (fun e => hd e.symm) (.int .i64 (usM M (L ++ [P]) n k : Nat))
      have HC := Lib.hid ((hC.trans (Chg.of_set wr bn (2 + k) (.int .i64 (ndM M (L ++ [P]) n k : Nat)) (.inl rfl))).trans (Chg.of_set (foot := fun b => b = bn ∨ b = bu) (wr.setCell ⟨bn, 2 + k, none⟩ (.int .i64 (ndM M (L ++ [P]) n k : Nat))) bu (2 + k) (.int .i64 (usM M (L ++ [P]) n k : Nat)) (.inr rfl)))
      have HR := Lib.hid (And.intro hSN2 hSU)
      have hk0 : (0 : Int) ≤ k := by omega
      have hk1 : (k : Int) < 6 := by omega
      clear hN hU hC hSN hUK hSU hSN2 s1 s2 u1 u2 hsn hsu hln hlu hown
      generalize ndM M (L ++ [P]) n k = y1 at *
      generalize usM M (L ++ [P]) n k = y2 at *
      generalize ndM M L n k = z1 at *
      generalize usM M L n k = z2 at *
      generalize F k = x at *
      rcases hjf with rfl | ⟨hx0, hx6⟩
      · rw [show ownQ (-1) = 0 from rfl, show ((0 : Nat) : Int) = 0 from rfl] at han hno
        go_upto_region 8 with fail
        generalize wr.setCell ⟨bn, 2 + k, none⟩ (.int .i64 (y1 : Nat)) = w6 at *
        clear hce hfe hue
        go_wp2_with fail
        go_roundw
        case rel => exact ⟨k + 1, by omega, by go_num, HR.out.1, HR.out.2, HC.out⟩
        case measure => simp [intOf]; omega
      · obtain ⟨d, rfl⟩ := Int.eq_ofNat_of_zero_le hx0
        have hx2 : ((d : Int) != -1) = true := by simp <;> omega
        obtain ⟨p1, p2, p3⟩ := pow_own d (by omega)
        rw [show ownQ (d : Int) = 2 ^ d by unfold ownQ; rw [if_neg (by omega), Int.toNat_natCast]] at han hno
        rw [← p2] at han hno
        have han2 := han
        have hno2 := hno
        rw [p2, ← p1] at han2 hno2
        have hd0 : (0 : Int) ≤ d := by omega
        have hd64 : (d : Int) < 64 := by omega
        clear p1 p2 p3
        go_upto_region 8 with fail
        generalize wr.setCell ⟨bn, 2 + k, none⟩ (.int .i64 (y1 : Nat)) = w6 at *
        clear hce hfe hue
        go_wp2_with fail
        go_roundw
        case rel => exact ⟨k + 1, by omega, by go_num, HR.out.1, HR.out.2, HC.out⟩
        case measure => simp [intOf]; omega
    · obtain rfl : k = 6 := by omega
      rw [HFI.out.1] at hN
      rw [HFI.out.2] at hU
      have HF := Lib.hid (And.intro hN (And.intro hU hC))
      clear hN hU hC
      go_wp2_with fail
      go_ret
      exact ⟨rfl, HF.out⟩

end Go.Proofs.Ytdimbnkgomfojab
end
