import Derived.Test.YtabfiafjcnilnaaFold22
import Derived.Deep.RegionWith
import Derived.Deep.RegionLaw

section
namespace Go.Proofs.Ytabfiafjcnilnaa
open Go.RowKit Go.WideShapes

/-- The cells of the rows before r. -/
def offC (S : Nat → Int) : Nat → Nat
  | 0 => 0
  | r + 1 => offC S r + (S r).toNat
/-- The number in a cell. -/
def cel (S : Nat → Int) (q N r j : Nat) : Int := if j < (S r).toNat then ((N / q ^ (offC S r + j) % q : Nat) : Int) else 0
/-- The numbers when the cells before (r, c) are laid. -/
def mS (S : Nat → Int) (q N r c : Nat) : Nat → Int := fun i => if i / 6 < r ∨ (i / 6 = r ∧ i % 6 < c) then cel S q N (i / 6) (i % 6) else 0
theorem mS_zero (S : Nat → Int) (q N : Nat) : mS S q N 0 0 = fun _ => 0 := by funext i; simp [mS]
theorem mS_row (S : Nat → Int) (q N r c : Nat) (h : (S r).toNat = c) : mS S q N r c = mS S q N (r + 1) 0 := by
  funext i
  unfold mS
  by_cases h1 : i / 6 < r
  · rw [if_pos (.inl h1), if_pos (.inl (by omega))]
  · by_cases h2 : i / 6 = r
    · by_cases h3 : i % 6 < c
      · rw [if_pos (.inr ⟨h2, h3⟩), if_pos (.inl (by omega))]
      · rw [if_neg (by omega), if_pos (.inl (by omega)), cel, if_neg (by rw [h2, h]; exact h3)]
    · rw [if_neg (by omega), if_neg (by omega)]
theorem cel_in (S : Nat → Int) (q N r c : Nat) (h : c < (S r).toNat) : cel S q N r c = ((N / q ^ (offC S r + c) % q : Nat) : Int) := by rw [cel, if_pos h]
theorem mS_set (n m : Int) (S : Nat → Int) (q N r c : Nat) (hr : r < 6) (hc : c < 6) : (ml n m (mS S q N r c)).set (2 + r * 6 + c) (.int .i64 (cel S q N r c)) = ml n m (mS S q N r (c + 1)) := by
  refine List.ext_getElem? (fun i => ?_)
  rw [List.getElem?_set, ml_len]
  by_cases h38 : i < 38
  · by_cases h0 : i = 0
    · subst h0; rw [if_neg (by omega)]; rfl
    · by_cases h1 : i = 1
      · subst h1; rw [if_neg (by omega)]; rfl
      · obtain ⟨j, rfl⟩ : ∃ j, i = 2 + j := ⟨i - 2, by omega⟩
        rw [ml_get n m _ j (by omega), ml_get n m _ j (by omega)]
        by_cases he : 2 + r * 6 + c = 2 + j
        · have e1 : j / 6 = r := by omega
          have e2 : j % 6 = c := by omega
          rw [if_pos he, if_pos (by omega)]
          unfold mS
          rw [if_pos (by omega), e1, e2]
        · rw [if_neg he]
          unfold mS
          by_cases h2 : j / 6 < r ∨ (j / 6 = r ∧ j % 6 < c)
          · rw [if_pos h2, if_pos (by omega)]
          · rw [if_neg h2, if_neg (by omega)]
  · rw [if_neg (by omega), List.getElem?_eq_none (by rw [ml_len]; omega), List.getElem?_eq_none (by rw [ml_len]; omega)]
theorem num_step (N q k : Nat) : N / q ^ k / q = N / q ^ (k + 1) := by rw [Nat.div_div_eq_div_mul, Nat.pow_succ]

theorem mod_small (M q : Nat) (h : M ≤ 6561) : (M : Int).tmod q = ((M % q : Nat) : Int) := by rw [Int.tmod_eq_emod_of_nonneg (by omega), ← Int.natCast_emod]
theorem div_small (M q : Nat) (h : M ≤ 6561) : wrap64 ((M : Int).tdiv q) = ((M / q : Nat) : Int) ∧ IntKind.i64.wrap ((M : Int).tdiv q) = ((M / q : Nat) : Int) := by
  have h2 := Nat.div_le_self M q
  rw [Int.tdiv_eq_ediv_of_nonneg (by omega), ← Int.natCast_ediv]
  generalize M / q = x at *
  exact ⟨IntWalk.wrap64_in _ (by omega), IntWalk.i64_in _ (by omega)⟩
theorem div_wr (M q : Nat) (h : M ≤ 6561) : wrap64 ((M : Int) / (q : Int)) = (M : Int) / (q : Int) := by
  have h2 := Nat.div_le_self M q
  rw [← Int.natCast_ediv]
  generalize M / q = x at *
  exact IntWalk.wrap64_in _ (by omega)
theorem ml_cell {w : World} {b : Nat} {t : TypeId} {n c : Int} {M : Nat → Int} (h : Has w b (ml n c M) t) (r j : Nat) (hr : r < 6) (hj : j < 6) : w.cell? ⟨b, 2 + r * 6 + j, none⟩ = some (.int .i64 (M (6 * r + j))) ∧ w.frozen? ⟨b, 2 + r * 6 + j, none⟩ = false :=
  ⟨by rw [show 2 + r * 6 + j = 2 + (6 * r + j) by omega]; exact (h.cell _).trans (ml_get n c M (6 * r + j) (by omega)), h.free _⟩
set_option maxRecDepth 100000 in
set_option maxHeartbeats 12800000 in
theorem matWith_any (n : Nat) (S : Nat → Int) (q N : Nat) (hq : 1 ≤ q ∧ q ≤ 3) (T : TypeId) (fs : FuncId) (hT : ∀ w : World, (method 197 T (.agg #[]) "loop.example/g01125/impl.size").run Try.prog w = .ok (fs, .agg #[]) w) (hF : ∀ w : World, (callFunc fs #[.agg #[]]).run Try.prog w = .ok (.enter fs #[.agg #[]]) w) (hS : ∀ w : World, Calls Try.prog fs #[.agg #[]] w fun e w' => e = .returned (.int .i64 q) ∧ Below w.heap.size w w')
    (w : World) (hn : n ≤ 6) (hSb : ∀ k, 0 ≤ S k ∧ S k ≤ 6) (hN : N ≤ 6561) :
    Calls Try.prog 41 #[sv n S, .iface T (.agg #[]), .int .i64 N] w fun e w' => e = .returned (mv n n (mS S q N n 0)) ∧ Below w.heap.size w w' := by
  have L0 := ((Law.start w).has (sl n S) 47).has (ml 0 0 (fun _ => 0)) 55
  simp only [World.size_alloc] at L0
  obtain ⟨R, hR⟩ : ∃ R, R = mS S q N n 0 := ⟨_, rfl⟩
  rw [← hR]
  have HR := Lib.hid hR
  have HL := Lib.hid L0
  have HSB := Lib.hid hSb
  have HS := Lib.hid hS
  have hn6 : (n : Int) ≤ 6 := by omega
  have hq0 : (q : Int) ≠ 0 := by omega
  clear hS hSb L0 hR
  go_enter Try.func41, Try.ntmps41
  go_upto_region 1 with fail
  rw [show ((w.alloc (.cells (sl n S).toArray 47)).alloc (.cells (ml 0 0 (fun _ => 0)).toArray 55)) = ((w.alloc (.cells #[.int .i64 n, .int .i64 (S 0), .int .i64 (S 1), .int .i64 (S 2), .int .i64 (S 3), .int .i64 (S 4), .int .i64 (S 5)] 47)).alloc (.cells #[.int .i64 0, .int .i64 0, .int .i64 0, .int .i64 0, .int .i64 0, .int .i64 0, .int .i64 0, .int .i64 0, .int .i64 0, .int .i64 0, .int .i64 0, .int .i64 0, .int .i64 0, .int .i64 0, .int .i64 0, .int .i64 0, .int .i64 0, .int .i64 0, .int .i64 0, .int .i64 0, .int .i64 0, .int .i64 0, .int .i64 0, .int .i64 0, .int .i64 0, .int .i64 0, .int .i64 0, .int .i64 0, .int .i64 0, .int .i64 0, .int .i64 0, .int .i64 0, .int .i64 0, .int .i64 0, .int .i64 0, .int .i64 0, .int .i64 0, .int .i64 0] 55)) from rfl] at HL
  generalize (w.alloc _).alloc _ = w1 at *
  have s0 := HL.out.tl.ownHas.cell 0
  simp only [List.getElem?_cons_zero] at s0
  have HK := Lib.hid HL.out.below
  have hl1 := HL.out.ownHas.lt
  have L2 := Law.setRowH (ts := []) (HL.out.has (ml 0 0 (fun _ => 0)) 55) (ds := ml n n (fun _ => 0))
  have HL2 := Lib.hid L2
  clear L2
  go_upto_region 2 with (refine wpList_store_row rfl 55 _ _ rfl _ _ rfl rfl _ _ (has_new38 _ _) (by kernel_rfl) rfl (by kernel_rfl) ?_)
  rw [show ((w1.alloc (.cells (ml 0 0 (fun _ => 0)).toArray 55)).setRow w1.heap.size (ml n n (fun _ => 0)).toArray) = ((w1.alloc (.cells #[.int .i64 0, .int .i64 0, .int .i64 0, .int .i64 0, .int .i64 0, .int .i64 0, .int .i64 0, .int .i64 0, .int .i64 0, .int .i64 0, .int .i64 0, .int .i64 0, .int .i64 0, .int .i64 0, .int .i64 0, .int .i64 0, .int .i64 0, .int .i64 0, .int .i64 0, .int .i64 0, .int .i64 0, .int .i64 0, .int .i64 0, .int .i64 0, .int .i64 0, .int .i64 0, .int .i64 0, .int .i64 0, .int .i64 0, .int .i64 0, .int .i64 0, .int .i64 0, .int .i64 0, .int .i64 0, .int .i64 0, .int .i64 0, .int .i64 0, .int .i64 0] 55)).setRow w1.heap.size #[.int .i64 n, .int .i64 n, .int .i64 0, .int .i64 0, .int .i64 0, .int .i64 0, .int .i64 0, .int .i64 0, .int .i64 0, .int .i64 0, .int .i64 0, .int .i64 0, .int .i64 0, .int .i64 0, .int .i64 0, .int .i64 0, .int .i64 0, .int .i64 0, .int .i64 0, .int .i64 0, .int .i64 0, .int .i64 0, .int .i64 0, .int .i64 0, .int .i64 0, .int .i64 0, .int .i64 0, .int .i64 0, .int .i64 0, .int .i64 0, .int .i64 0, .int .i64 0, .int .i64 0, .int .i64 0, .int .i64 0, .int .i64 0, .int .i64 0, .int .i64 0]) from rfl] at HL2
  generalize World.setRow _ _ _ = w2 at *
  have s0 : w2.cell? ⟨w.heap.size, 0, none⟩ = some (.int .i64 n) := HL2.out.tl.tl.ownHas.cell 0
  generalize w1.heap.size = b7 at *
  go_wp2_with fail
  go_loopw [2, 17] (fun num i wr => ∃ r : Nat, r ≤ n ∧ i = .int .i64 r ∧ num = .int .i64 ((N / q ^ (offC S r) : Nat) : Int) ∧ Hid (Law w [tHas b7 (ml n n (mS S q N r 0)) 55, tHas (w.heap.size + 1) (ml 0 0 (fun _ => 0)) 55, tHas w.heap.size (sl n S) 47] wr)) (fun _ i _ => n - (intOf i).toNat)
  case atStart => exact ⟨0, Nat.zero_le _, rfl, by simp [offC], by rw [mS_zero]; exact HL2.out⟩
  case round =>
    obtain ⟨r, hr, rfl, rfl, HLr⟩ := hrel
    rename World => wr
    by_cases hlt : r < n
    · have sr : wr.cell? ⟨w.heap.size, 1 + r, none⟩ = some (.int .i64 (S r)) := (HLr.out.tl.tl.ownHas.cell (1 + r)).trans (sl_get n S r (by omega))
      have hr6 : (r : Int) < 6 := by omega
      have hSr := HSB.out r
      obtain ⟨c0, hc0⟩ : ∃ c0, c0 = (S r).toNat := ⟨_, rfl⟩
      have ec : S r = (c0 : Int) := by omega
      rw [ec] at sr
      have hc6 : c0 ≤ 6 := by omega
      have HC0 := Lib.hid hc0
      have HNX := Lib.hid (mS_row S q N r c0 hc0.symm)
      have HOF : Hid (offC S r + c0 = offC S (r + 1)) := by show _ = _; rw [offC, hc0]
      clear hc0 ec hSr
      go_wp2_with fail
      go_loopw [2, 24] (fun num i wc => ∃ c : Nat, c ≤ c0 ∧ i = .int .i64 c ∧ num = .int .i64 ((N / q ^ (offC S r + c) : Nat) : Int) ∧ Hid (Law w [tHas b7 (ml n n (mS S q N r c)) 55, tHas (w.heap.size + 1) (ml 0 0 (fun _ => 0)) 55, tHas w.heap.size (sl n S) 47] wc)) (fun _ i _ => c0 - (intOf i).toNat)
      case atStart => exact ⟨0, Nat.zero_le _, rfl, rfl, HLr.out⟩
      case round =>
        obtain ⟨c, hc, rfl, rfl, HLc⟩ := hrel
        rename World => wc
        by_cases hlc : c < c0
        · have hcc : (c : Int) < 6 := by omega
          have hcel := cel_in S q N r c (by rw [← HC0.out]; exact hlc)
          have hstep := num_step N q (offC S r + c)
          have hset := mS_set n n S q N r c (by omega) (by omega)
          have hM0 : N / q ^ (offC S r + c) ≤ 6561 := Nat.le_trans (Nat.div_le_self _ _) hN
          obtain ⟨M, hM⟩ : ∃ M, M = N / q ^ (offC S r + c) := ⟨_, rfl⟩
          rw [← hM] at hcel hstep hM0 ⊢
          have HCL := Lib.hid hcel
          have HST := Lib.hid hstep
          have HSET := Lib.hid hset
          have hmod := mod_small M q hM0
          have hdiv := div_small M q hM0
          have hd1 := hdiv.1
          have hd2 := hdiv.2
          have HCE := Lib.hid (fun W (h : Has W b7 (ml n n (mS S q N r c)) 55) => ml_cell h r c (by omega) (by omega))
          replace HLc := Lib.hid HLc.out.drew
          obtain ⟨hc1, hf1⟩ := HCE.out _ HLc.out.ownHas
          clear hdiv
          clear hcel hstep hset hM
          go_upto_region 8 with fail
          go_region_with (first | ((with_reducible refine (HS.out _).mono ?_); rintro e wB ⟨rfl, hb⟩; obtain ⟨hc2, hf2⟩ := HCE.out _ (HLc.out.kept hb).ownHas; replace HLc := Lib.hid (HLc.out.kept hb); clear hb) | fail)
          have L3 := HLc.out.setHas (ts := []) (2 + r * 6 + c) (.int .i64 ((M : Int) % (q : Int)))
          rw [show ((M : Int) % (q : Int)) = cel S q N r c by rw [HCL.out]; exact (Int.natCast_emod M q).symm, HSET.out] at L3
          rw [show ((M : Int) % (q : Int)) = cel S q N r c by rw [HCL.out]; exact (Int.natCast_emod M q).symm]
          have HL3 := Lib.hid L3
          clear L3 hc1 hf1 hc2 hf2
          generalize World.setCell _ _ _ = wd at *
          go_wp2_with fail
          refine (HS.out _).mono ?_
          rintro e we ⟨rfl, hb⟩
          have HL4 := Lib.hid (HL3.out.kept hb)
          clear hb HL3 HLc HCE
          go_wp2_with fail
          go_roundw
          case rel => exact ⟨c + 1, by omega, by go_num, by rw [show offC S r + (c + 1) = offC S r + c + 1 from rfl, ← HST.out]; push_cast; rw [div_wr M q hM0], HL4.out⟩
          case measure => simp [intOf]; omega
        · obtain rfl : c = c0 := by omega
          go_wp2_with fail
          go_roundw
          case rel => exact ⟨r + 1, by omega, by go_num, by rw [← HOF.out], by rw [← HNX.out]; exact HLc.out⟩
          case measure => simp [intOf]; omega
    · obtain rfl : r = n := by omega
      have hL := HLr.out
      rw [← HR.out] at hL
      have hm := ml_has hL.ownHas
      have hz := zer_has hL.tl.ownHas
      have HB := Lib.hid hL.below
      clear hL
      go_wp2_with (first | refine wpList_load_row rfl 55 _ rfl _ rfl _ _ _ _ hm Try.underlying55 rfl (by kernel_rfl) ?_ | refine wpList_store_row rfl 55 _ _ rfl _ _ rfl rfl _ _ hz (by kernel_rfl) rfl (by kernel_rfl) ?_)
      try simp only [Exit.inBlock, Exit.then]
      refine bodyPost_ret (results_cell_row (p := 6) (by kernel_rfl) _ _ (w.heap.size + 1) 55 _ (0, 0) _ rfl (setRow_heap _ _ _ _ _ _ hz) Try.underlying55 rfl (by kernel_rfl)) rfl ⟨rfl, ?_⟩
      exact HB.out.trans (below_setRow (Below.refl _ _) (by omega) _)

end Go.Proofs.Ytabfiafjcnilnaa
end

section
namespace Go.Proofs.Ytabfiafjcnilnaa
open Go.RowKit Go.WideShapes

def rowM6 (c : Nat) (M : Nat → Int) (r : Nat) : List Int := (List.range c).map fun j => M (6 * r + j)
def rowsM (n c : Nat) (M : Nat → Int) : List (List Int) := (List.range n).map (rowM6 c M)
theorem rowsM_len (n c : Nat) (M : Nat → Int) : (rowsM n c M).length = n := by simp [rowsM]
theorem rowM6_len (c : Nat) (M : Nat → Int) (r : Nat) : (rowM6 c M r).length = c := by simp [rowM6]
theorem rowsM_get (n c : Nat) (M : Nat → Int) (k : Nat) (h : k < (rowsM n c M).length) : (rowsM n c M)[k] = rowM6 c M k := by simp [rowsM]
theorem fill_row (n c : Nat) (M : Nat → Int) (k : Nat) (hk : k < n) (z : List Int) : ((fillL (rowsM n c M) [] n k).set k z).set k (rowM6 c M k) = fillL (rowsM n c M) [] n (k + 1) := by
  rw [List.set_set, ← rowsM_get n c M k (by rw [rowsM_len]; exact hk)]
  exact fillL_set (rowsM n c M) [] n k hk (by rw [rowsM_len]; exact hk)
theorem row_src {W : World} {b : Nat} {t : TypeId} {n c : Int} {M : Nat → Int} (h : Has W b (ml n c M) t) (k d : Nat) (hk : k < 6) (hd : d ≤ 6) :
    ∀ j v, ((rowM6 d M k).map (Value.int .i64))[j]? = some v → W.cell? ((⟨b, 2 + k * 6, none⟩ : Addr).add j) = some v := by
  intro j v hj
  obtain ⟨h1, rfl⟩ := List.getElem?_eq_some_iff.1 hj
  simp only [List.length_map, rowM6_len] at h1
  rw [add_plain, (ml_cell h k j hk (by omega)).1]
  simp [rowM6]

set_option maxRecDepth 100000 in
set_option maxHeartbeats 12800000 in
theorem lists_any (n c : Nat) (M : Nat → Int) (w : World) (hn : n ≤ 6) (hc : c ≤ 6) :
    Calls Try.prog 42 #[mv n c M] w fun e w' => ∃ v vs, e = .returned v ∧ OwnM w' w.heap.size v vs (rowsM n c M) ∧ Below w.heap.size w w' := by
  obtain ⟨i0, hi, hz0, hz1, hz2⟩ := info_parts Try.infoL
  have hmk : ∀ w, (Instr.makeSlice 22 (.int .i64 (c : Int)) (.int .i64 (c : Int))).run Try.prog w = .ok (.slice (some ⟨w.heap.size, 0, none⟩) c c) (w.alloc (.cells (madeCells #[.int .i64 0] c) 3)) := by
    intro w
    exact run_make_row' (P := Try.prog) 22 3 (.int .i64 0) 8 Try.underlying22 Try.infoI rfl .i64 .i64 c (by omega) (by omega) w
  have L0 := (Law.start w).has (ml n c M) 55
  have HL := Lib.hid L0
  have hn6 : (n : Int) ≤ 6 := by omega
  have hc6 : (c : Int) ≤ 6 := by omega
  clear L0
  go_enter Try.func42, Try.ntmps42
  go_upto_region 1 with fail
  rw [show (w.alloc (.cells (ml n c M).toArray 55)) = (w.alloc (.cells #[.int .i64 n, .int .i64 c, .int .i64 (M 0), .int .i64 (M 1), .int .i64 (M 2), .int .i64 (M 3), .int .i64 (M 4), .int .i64 (M 5), .int .i64 (M 6), .int .i64 (M 7), .int .i64 (M 8), .int .i64 (M 9), .int .i64 (M 10), .int .i64 (M 11), .int .i64 (M 12), .int .i64 (M 13), .int .i64 (M 14), .int .i64 (M 15), .int .i64 (M 16), .int .i64 (M 17), .int .i64 (M 18), .int .i64 (M 19), .int .i64 (M 20), .int .i64 (M 21), .int .i64 (M 22), .int .i64 (M 23), .int .i64 (M 24), .int .i64 (M 25), .int .i64 (M 26), .int .i64 (M 27), .int .i64 (M 28), .int .i64 (M 29), .int .i64 (M 30), .int .i64 (M 31), .int .i64 (M 32), .int .i64 (M 33), .int .i64 (M 34), .int .i64 (M 35)] 55)) from rfl] at HL
  generalize w.alloc _ = w1 at *
  have m0 : w1.cell? ⟨w.heap.size, 0, none⟩ = some (.int .i64 n) := HL.out.ownHas.cell 0
  go_wp2_with (at_make; refine wpList_make_full _ rfl _ _ 23 rfl w1.heap.size 22 i0 (.slice none 0 0) 1 Try.underlying23 hi hz0 hz1 .i64 .i64 _ _ n rfl rfl rfl rfl ?b1 ?b2 ?b3 ?_)
  case b1 => rw [hz2]; omega
  case b2 => unfold maxLen; omega
  case b3 => exact Nat.le_refl _
  intro w2 hown hg
  have L2 := HL.out.addM ((Below.refl _ _).grown hg (Nat.le_refl _) (by simp)) (own_madeM hown)
  have HL2 := Lib.hid L2
  clear hown hg L2 hi hz0 hz1 hz2 m0 HL
  generalize w1.heap.size = g at *
  go_wp2_with fail
  go_loopw [10] (fun i wr => ∃ (k : Nat) (vs : List Value), k ≤ n ∧ vs.length = n ∧ i = .int .i64 k ∧ Hid (Law w [tM (.slice (some ⟨g, 0, none⟩) n n) vs (fillL (rowsM n c M) [] n k), tHas w.heap.size (ml n c M) 55] wr)) (fun i _ => n - (intOf i).toNat)
  case atStart => exact ⟨0, List.replicate n (.slice none 0 0), Nat.zero_le _, by simp, rfl, by rw [fillL_zero]; exact HL2.out⟩
  case round =>
    clear HL2
    obtain ⟨k, vs, hk, hvl, rfl, HLr⟩ := hrel
    have HV := Lib.hid hvl
    by_cases hlt : k < n
    · rename World => wr
      have m1 : wr.cell? ⟨w.heap.size, 1, none⟩ = some (.int .i64 c) := HLr.out.tl.ownHas.cell 1
      have L2 := HLr.out.own (below_new (.cells (madeCells #[.int .i64 0] c) 3)) (own_made wr c _ wr.heap.size rfl (Nat.le_refl _) (by omega))
      have hM2 := L2.tl.ownM
      have hc0 := World.ownsRow.cellAt (by have := hM2.outer; rw [HV.out] at this; exact this) k (by omega)
      have hfz := World.ownsRow.frozenAt (by have := hM2.outer; rw [HV.out] at this; exact this) k
      have hcz : (wr.alloc (.cells (madeCells #[.int .i64 0] c) 3)).cell? ⟨g, k, none⟩ = some (vs[k]'(by rw [HV.out]; exact hlt)) := by
        rw [hc0]
        simp [HV.out, hlt]
      clear hc0
      have L3 := L2.putM HV.out k hlt
      have HG0 : (wr.alloc (.cells (madeCells #[.int .i64 0] c) 3)).heap[wr.heap.size]? = some (.cells (List.replicate c (.int .i64 0)).toArray 3 (0, 0)) := by rw [made_eq]; exact heap_alloc_new _ _
      have hgl : g < wr.heap.size := (HLr.out.ownM.lt.1 g rfl).2
      have HG1 := Lib.hid ((Below.heap_setCell (wr.alloc (.cells (madeCells #[.int .i64 0] c) 3)) ⟨g, k, none⟩ (.slice (some ⟨wr.heap.size, 0, none⟩) c c) wr.heap.size (by show wr.heap.size ≠ g; omega)).trans HG0)
      have HL3 := Lib.hid L3
      have HGL := Lib.hid hgl
      clear L2 L3 hM2 HG0 hvl hgl
      have HSZ : Hid (((wr.alloc (.cells (madeCells #[.int .i64 0] c) 3)).setCell ⟨g, k, none⟩ (.slice (some ⟨wr.heap.size, 0, none⟩) c c)).heap.size = wr.heap.size + 1) := by show _ = _; simp [World.setCell]
      go_upto_region 6 with fail
      generalize World.setCell _ _ _ = X at *
      clear hfz hcz m1
      generalize wr.heap.size = gr at *
      have HVS : Hid ((vs.set k (.slice (some ⟨gr, 0, none⟩) c c)).length = n) := by show _ = _; rw [List.length_set]; exact HV.out
      have HX := Lib.hid HL3.out.drew
      have hMx := HX.out.ownM
      have hc0 := World.ownsRow.cellAt (by have := hMx.outer; rw [HVS.out] at this; exact this) k (by omega)
      have hcx : X.drew.cell? ⟨g, k, none⟩ = some (.slice (some ⟨gr, 0, none⟩) c c) := by
        rw [hc0]
        simp [HV.out, hlt]
      have HMX := Lib.hid hMx
      have HSRC := Lib.hid (row_src HX.out.tl.ownHas k c (by omega) hc)
      have HG2 : Hid (X.drew.heap[gr]? = some (.cells (List.replicate c (.int .i64 0)).toArray 3 (0, 0))) := HG1.out
      have HN0 : Hid (((rowM6 c M k).map (Value.int .i64)).length = Nat.min 6 c) := by show _ = _; rw [List.length_map, rowM6_len]; exact (Nat.min_eq_right hc).symm
      have HF0 : Hid (0 + ((rowM6 c M k).map (Value.int .i64)).length ≤ (List.replicate c (Value.int .i64 0)).length) := by show _ ≤ _; rw [List.length_map, rowM6_len, List.length_replicate]; omega
      have hki : (k : Int) < 6 := by omega
      clear hc0 hMx HG1
      go_region_law (refine step_copy_splice rfl (.tmp 22) (.tmp 26) 22 22 rfl 3 Try.underlying22 (by kernel_rfl) (some ⟨gr, 0, none⟩) (some ⟨w.heap.size, 2 + k * 6, none⟩) c c 6 6 (by simp [Act.eval]) (by simp [Act.eval]) gr 0 _ 3 HG2.out ((rowM6 c M k).map (Value.int .i64)) HN0.out (fun _ => ⟨rfl, _, rfl, HSRC.out⟩) HF0.out (ints_oneCell _ _) gr X.drew (Below.refl _ _) (Nat.le_refl _) ?_; intro w4 hg4 hb4)
      have hR4 : Has w4 gr ((rowM6 c M k).map (Value.int .i64)) 3 := by
        have h : Has w4 gr _ 3 := hg4.out
        rwa [splice_all c _ (by simp [rowM6])] at h
      have hO4 : Own w4 0 (.slice (some ⟨gr, 0, none⟩) c c) (rowM6 c M k) := own_of_has hR4 (Nat.zero_le _) (rowM6_len c M k) (by unfold maxLen; omega)
      have hsz : X.drew.heap.size = gr + 1 := HSZ.out
      have hk2 : k < (vs.set k (.slice (some ⟨gr, 0, none⟩) c c)).length := by rw [HVS.out]; exact hlt
      have hget : (vs.set k (.slice (some ⟨gr, 0, none⟩) c c))[k]'hk2 = .slice (some ⟨gr, 0, none⟩) c c := by simp
      have O4 := HMX.out.write k hk2 (ys := rowM6 c M k) (by rw [hget]; exact hO4) (by
        rw [hget]
        exact ⟨hb4.os, hb4.tape, hb4.output, hb4.size, fun j hj hne => hb4.block j (by
          have : gr ≠ j := fun e => hne (by rw [e]; rfl)
          omega)⟩)
      have L4 := Law.markM (ts := []) HX.out ⟨hb4.os, hb4.tape, hb4.output, hb4.size, fun j hj hf => hb4.block j (by
          have : gr ≠ j := fun e => hf (.inr ⟨_, List.getElem_mem hk2, by rw [hget, e]; rfl⟩)
          omega)⟩ O4
      rw [fill_row n c M k hlt] at L4
      have HL4 := Lib.hid L4
      clear hR4 hO4 hsz hk2 hget O4 L4 hg4 hb4 hcx HX HMX HL3 HSRC HG2 HN0 HF0 HLr
      go_wp2_with fail
      go_roundw
      case rel => exact ⟨k + 1, _, by omega, HVS.out, by go_num, HL4.out⟩
      case measure => simp [intOf]; omega
    · obtain rfl : k = n := by omega
      have hL := HLr.out
      rw [show fillL (rowsM k c M) [] k k = rowsM k c M by have h := fillL_full (rowsM k c M) []; rwa [rowsM_len] at h] at hL
      have HL := Lib.hid hL
      clear hL
      go_wp2_with fail
      go_ret
      exact ⟨_, vs, rfl, HL.out.ownMLo, HL.out.below⟩

end Go.Proofs.Ytabfiafjcnilnaa
end
