import Derived.Test.YtdimbnkgomfojabFold23
import Derived.Test.YtdimbnkgomfojabFold6
import Derived.Test.YtdimbnkgomfojabFold8
import Derived.Test.YtdimbnkgomfojabFold19

section
namespace Go.Proofs.Ytdimbnkgomfojab
open Go.RowKit Go.WideShapes

theorem ixP (F : Nat → Int) (k : Nat) (hk : k < 6) (W : World) : (Instr.index 71 (pv6 F) (.int .i64 k)).run Try.prog W = .ok (.int .i64 (F k)) W := by
  have hc : (pl6 F)[k]? = some (.int .i64 (F k)) := pl6_get F k hk
  unfold pl6 at hc
  simp [Instr.index, run_underlying Try.underlying71, asIntOf, go_sem, hk]
  exact (List.getElem?_eq_some_iff.1 hc).2

set_option maxRecDepth 100000 in
set_option maxHeartbeats 3200000 in
theorem turned_any (F : Nat → Int) (w : World) (hF : ∀ k, k < 6 → F k = -1 ∨ (0 ≤ F k ∧ F k < 6)) :
    Calls Try.prog 117 #[pv6 F] w fun e w' => e = .returned (pv6 (trF F 6)) ∧ Below w.heap.size w w' := by
  have L0 := ((Law.start w).has (pl6 F) 71).has (pl6 (fun _ => 0)) 71
  simp only [World.size_alloc] at L0
  have HL := Lib.hid L0
  have HPF2 := Lib.hid hF
  clear L0 hF
  go_enter Try.func117, Try.ntmps117
  go_wp2_with fail
  refine (noPlaces_any _).mono ?_
  rintro e w1 ⟨rfl, hb⟩
  have L1 := (HL.out.kept hb).has (pl6 (fun _ => -1)) 71
  rw [show w1.alloc (.cells (pl6 (fun _ => -1)).toArray 71) = w1.alloc (.cells #[.int .i64 (-1), .int .i64 (-1), .int .i64 (-1), .int .i64 (-1), .int .i64 (-1), .int .i64 (-1)] 71) from rfl] at L1
  have HL2 := Lib.hid L1
  clear L1 HL hb
  go_upto_region 2 with fail
  generalize w1.alloc (.cells #[.int .i64 (-1), .int .i64 (-1), .int .i64 (-1), .int .i64 (-1), .int .i64 (-1), .int .i64 (-1)] 71) = w5 at *
  obtain ⟨bt', hbt⟩ : ∃ bt', bt' = w1.heap.size := ⟨_, rfl⟩
  rw [← hbt] at HL2 ⊢
  clear hbt
  rw [show pl6 (fun _ => (-1 : Int)) = pl6 (trF F 0) from rfl] at HL2
  have hrow := HL2.out.tl.tl.ownHas.row6
  go_wp2_with (refine wpList_load_row rfl 71 _ rfl _ rfl _ _ _ _ hrow Try.underlying71 rfl (by kernel_rfl) ?_)
  clear hrow
  go_loopw [8] (fun i wr => ∃ k : Nat, k ≤ 6 ∧ i = .int .i64 k ∧ Law w [tHas bt' (pl6 (trF F k)) 71, tHas (w.heap.size + 1) (pl6 (fun _ => 0)) 71, tHas w.heap.size (pl6 F) 71] wr) (fun i _ => 6 - (intOf i).toNat)
  case atStart => exact ⟨0, by omega, rfl, HL2.out⟩
  case round =>
    clear HL2
    obtain ⟨k, hk, rfl, L⟩ := hrel
    by_cases hlt : k < 6
    · have ix := ixP F k hlt
      have hjf := HPF2.out k hlt
      have hsk := trF_skip F k
      have hst := trF_set F k
      generalize F k = x at hjf hsk hst ix
      have hk0 : (0 : Int) ≤ k := by omega
      have hk1 : (k : Int) < 6 := by omega
      by_cases hx1 : x = -1
      · have HL := Lib.hid (show Law w [tHas bt' (pl6 (trF F (k + 1))) 71, tHas (w.heap.size + 1) (pl6 (fun _ => 0)) 71, tHas w.heap.size (pl6 F) 71] wr by
          rw [pl6_congr (trF F (k + 1)) (trF F k) (fun c _ => hsk hx1 c)]
          exact L)
        have hx2 : (x != -1) = false := by simp [hx1]
        clear L hx1 hsk hst hjf
        go_wp2_with fail
        go_roundw
        case rel => exact ⟨k + 1, by omega, by go_num, HL.out⟩
        case measure => simp [intOf]; omega
      · obtain ⟨d, rfl⟩ := Int.eq_ofNat_of_zero_le (show 0 ≤ x by omega)
        have hx2 : ((d : Int) != -1) = true := by simp <;> omega
        obtain ⟨hs1, hs2⟩ := hst d rfl
        have hd6 : d < 6 := by omega
        have hce := L.ownHas.cell d
        rw [pl6_get _ d hd6] at hce
        have hfe := L.ownHas.free d
        have hS := Law.setHas (ts := []) L d (.int .i64 (k : Int))
        rw [pl6_set _ (trF F (k + 1)) d hd6 _ hs1 (fun c _ hc => hs2 c hc)] at hS
        have HS := Lib.hid hS
        have hd0 : (0 : Int) ≤ d := by omega
        have hd1 : (d : Int) < 6 := by omega
        clear L hS hsk hst hs1 hs2 hx1 hjf
        go_wp2_with fail
        go_roundw
        case rel => exact ⟨k + 1, by omega, by go_num, HS.out⟩
        case measure => simp [intOf]; omega
    · obtain rfl : k = 6 := by omega
      have hrow := L.ownHas.row6
      obtain ⟨f0, f1, f2, f3, f4, f5, ff⟩ := L.tl.ownHas.six
      have HB := Lib.hid L.below
      clear L
      go_wp2_with (refine wpList_load_row rfl 71 _ rfl _ rfl _ _ _ _ hrow Try.underlying71 rfl (by kernel_rfl) ?_)
      refine bodyPost_ret (v := pv6 (trF F 6)) (by simp [results, Try.results117, go_sem, f0, f1, f2, f3, f4, f5]) rfl ⟨rfl, ?_⟩
      have h2 := HB.out
      repeat (refine Below.setCell ?_ (by simp <;> omega) _)
      exact h2
end Go.Proofs.Ytdimbnkgomfojab
end

section
namespace Go.Proofs.Ytdimbnkgomfojab
open Go.RowKit

def rowQ (M : Nat → Int) (r : Int) : Nat := (M r.toNat).toNat
/-- The columns of some rows, as a mask. -/
def orM (M : Nat → Int) (R : List Int) : Nat := R.foldl (fun a r => a ||| rowQ M r) 0
theorem orM_nil (M : Nat → Int) : orM M [] = 0 := rfl
theorem orM_take (M : Nat → Int) (R : List Int) (k : Nat) (h : k < R.length) : orM M (R.take (k + 1)) = orM M (R.take k) ||| rowQ M (R.getD k 0) := by
  rw [take_snoc R k h]
  unfold orM
  rw [List.foldl_append]
  rfl
theorem orM_go (M : Nat → Int) (R : List Int) (c : Nat) : ∀ a : Nat, (R.foldl (fun a r => a ||| rowQ M r) a).testBit c = (a.testBit c || R.any fun r => (rowQ M r).testBit c) := by
  induction R with
  | nil => intro a; simp
  | cons x R ih =>
    intro a
    rw [List.foldl_cons, ih, Nat.testBit_or, List.any_cons, Bool.or_assoc]
theorem orM_bit (M : Nat → Int) (R : List Int) (c : Nat) : (orM M R).testBit c = R.any fun r => (rowQ M r).testBit c := by
  unfold orM
  rw [orM_go]
  simp
theorem orM_lt (M : Nat → Int) (h : ∀ r, rowQ M r < 64) (R : List Int) : orM M R < 64 := by
  have key : ∀ a : Nat, a < 64 → R.foldl (fun a r => a ||| rowQ M r) a < 64 := by
    induction R with
    | nil => intro a ha; exact ha
    | cons x R ih =>
      intro a ha
      rw [List.foldl_cons]
      exact ih _ (Nat.or_lt_two_pow (n := 6) ha (h x))
  exact key 0 (by omega)
/-- The columns of a mask. -/
def colsM (x : Nat) : List Int := ((List.range 6).filter fun c => x.testBit c).map fun (c : Nat) => (c : Int)
theorem colsM_len (x : Nat) : ((colsM x).length : Int) = pop x := by
  unfold colsM pop
  rw [List.length_map]
  simp
/-- .. the first k of them. -/
def colsU (x k : Nat) : List Int := ((List.range k).filter fun c => x.testBit c).map fun (c : Nat) => (c : Int)
theorem colsU_no (x k : Nat) (h : x.testBit k = false) : colsU x (k + 1) = colsU x k := by
  unfold colsU
  rw [List.range_succ, List.filter_append]
  simp [h]
theorem colsU_yes (x k : Nat) (h : x.testBit k = true) : colsU x (k + 1) = colsU x k ++ [(k : Int)] := by
  unfold colsU
  rw [List.range_succ, List.filter_append, List.map_append]
  simp [h]
theorem colsU_len (x k : Nat) : (colsU x k).length ≤ k := by
  unfold colsU
  rw [List.length_map]
  have := List.length_filter_le (fun c => x.testBit c) (List.range k)
  simpa using this

/-- The columns of the cells in rows, or in all other ones. -/
def colS (xs : List Int) (n m : Nat) (R : List Int) (o : Bool) : List Int := ((List.range m).filter fun c => (List.range n).any fun r => (hasI R (r : Int) != o) && (xs.getD r 0).toNat.testBit c).map fun (c : Nat) => (c : Int)
theorem filter_range6 (m : Nat) (hm : m ≤ 6) (p q : Nat → Bool) (h : ∀ c, c < m → p c = q c) (h0 : ∀ c, m ≤ c → c < 6 → p c = false) : (List.range 6).filter p = (List.range m).filter q := by
  have e : List.range 6 = List.range m ++ (List.range (6 - m)).map (m + ·) := by
    rw [← List.range_add, show m + (6 - m) = 6 by omega]
  rw [e, List.filter_append]
  have h2 : ((List.range (6 - m)).map (m + ·)).filter p = [] := by
    rw [List.filter_eq_nil_iff]
    intro c hc
    obtain ⟨d, hd, rfl⟩ := List.mem_map.1 hc
    rw [List.mem_range] at hd
    rw [h0 (m + d) (by omega) (by omega)]
    simp
  rw [h2, List.append_nil]
  exact List.filter_congr (fun c hc => h c (List.mem_range.1 hc))
/-- Rows of a board: below n, cells in columns below m. -/
def fitM (xs : List Int) (n m : Nat) : Prop := ∀ r c, r < n → (xs.getD r 0).toNat.testBit c = true → c < m
theorem col_in (xs : List Int) (M : Nat → Int) (n m : Nat) (hm : m ≤ 6) (hf : fitM xs n m) (hM : ∀ k, k < n → M k = xs.getD k 0) (R : List Int) (hR : ∀ r ∈ R, 0 ≤ r ∧ r < n) : colsM (orM M R) = colS xs n m R false := by
  unfold colsM colS
  congr 1
  have key : ∀ c, (orM M R).testBit c = (List.range n).any fun r => (hasI R (r : Int) != false) && (xs.getD r 0).toNat.testBit c := by
    intro c
    rw [orM_bit, Bool.eq_iff_iff, List.any_eq_true, List.any_eq_true]
    constructor
    · rintro ⟨r, hr, h⟩
      obtain ⟨k, rfl⟩ := Int.eq_ofNat_of_zero_le (hR r hr).1
      have hk : k < n := by have := (hR _ hr).2; omega
      refine ⟨k, List.mem_range.2 hk, ?_⟩
      unfold rowQ at h
      rw [Int.toNat_natCast, hM k hk] at h
      rw [h, hasI_iff.2 hr]
      rfl
    · rintro ⟨r, hr, h⟩
      rw [Bool.and_eq_true] at h
      have hk := List.mem_range.1 hr
      have h1 : hasI R (r : Int) = true := by
        cases e : hasI R (r : Int)
        · rw [e] at h; cases h.1
        · rfl
      refine ⟨(r : Int), hasI_iff.1 h1, ?_⟩
      unfold rowQ
      rw [Int.toNat_natCast, hM r hk]
      exact h.2
  refine filter_range6 m hm _ _ (fun c _ => key c) (fun c h1 _ => ?_)
  rw [key, List.any_eq_false]
  intro r hr
  rw [Bool.not_eq_true]
  cases e : (xs.getD r 0).toNat.testBit c
  · rw [Bool.and_false]
  · have := hf r c (List.mem_range.1 hr) e; omega
/-- Rows taken away. -/
def zM (M : Nat → Int) (R : List Int) (k : Nat) : Int := if hasI R (k : Int) then 0 else M k
theorem zM_lt (M : Nat → Int) (R : List Int) (h : ∀ k, k < 6 → 0 ≤ M k ∧ M k < 64) : ∀ k, k < 6 → 0 ≤ zM M R k ∧ zM M R k < 64 := by
  intro k hk
  unfold zM
  have := h k hk
  split <;> omega
theorem col_beside (xs : List Int) (M : Nat → Int) (n m : Nat) (hm : m ≤ 6) (hf : fitM xs n m) (hM : ∀ k, k < n → M k = xs.getD k 0) (R : List Int) : colsM (orM (zM M R) (lstI n fun q => (q : Int))) = colS xs n m R true := by
  unfold colsM colS
  congr 1
  have key : ∀ c, (orM (zM M R) (lstI n fun q => (q : Int))).testBit c = (List.range n).any fun r => (hasI R (r : Int) != true) && (xs.getD r 0).toNat.testBit c := by
    intro c
    rw [orM_bit]
    unfold lstI
    rw [List.any_map]
    have pt : ∀ r ∈ List.range n, ((fun r => (rowQ (zM M R) r).testBit c) ∘ fun (q : Nat) => (q : Int)) r = ((hasI R (r : Int) != true) && (xs.getD r 0).toNat.testBit c) := by
      intro r hr
      unfold rowQ zM
      simp only [Function.comp, Int.toNat_natCast]
      rw [hM r (List.mem_range.1 hr)]
      cases hasI R (r : Int) <;> simp
    rw [Bool.eq_iff_iff, List.any_eq_true, List.any_eq_true]
    exact ⟨fun ⟨r, hr, h⟩ => ⟨r, hr, by rw [← pt r hr]; exact h⟩, fun ⟨r, hr, h⟩ => ⟨r, hr, by rw [pt r hr]; exact h⟩⟩
  refine filter_range6 m hm _ _ (fun c _ => key c) (fun c h1 _ => ?_)
  rw [key, List.any_eq_false]
  intro r hr
  rw [Bool.not_eq_true]
  cases e : (xs.getD r 0).toNat.testBit c
  · rw [Bool.and_false]
  · have := hf r c (List.mem_range.1 hr) e; omega

/-- Does a list rise strictly, from lo to hi? The first k numbers. -/
def riseU (xs : List Int) (lo hi : Int) (k : Nat) : Bool := (List.range k).all fun i => inB lo (xs.getD i 0) hi && (decide (i = 0) || decide (xs.getD (i - 1) 0 < xs.getD i 0))
def riseB (xs : List Int) (lo hi : Int) : Bool := riseU xs lo hi xs.length
theorem riseU_succ (xs : List Int) (lo hi : Int) (k : Nat) : riseU xs lo hi (k + 1) = (riseU xs lo hi k && (inB lo (xs.getD k 0) hi && (decide (k = 0) || decide (xs.getD (k - 1) 0 < xs.getD k 0)))) := by
  unfold riseU
  rw [List.range_succ, List.all_append]
  simp
theorem riseU_no (xs : List Int) (lo hi : Int) (k n : Nat) (h : (inB lo (xs.getD k 0) hi && (decide (k = 0) || decide (xs.getD (k - 1) 0 < xs.getD k 0))) = false) (hk : k < n) : riseU xs lo hi n = false := by
  cases e : riseU xs lo hi n
  · rfl
  · rw [riseU, List.all_eq_true] at e
    have := e k (List.mem_range.2 hk)
    rw [h] at this
    cases this
theorem riseB_mem {xs : List Int} {lo hi : Int} (h : riseB xs lo hi = true) : ∀ r ∈ xs, lo ≤ r ∧ r ≤ hi := by
  intro r hr
  obtain ⟨k, hk, rfl⟩ := List.getElem_of_mem hr
  rw [riseB, riseU, List.all_eq_true] at h
  have := h k (List.mem_range.2 hk)
  rw [Bool.and_eq_true, inB_iff] at this
  simpa [List.getD, hk] using this.1

end Go.Proofs.Ytdimbnkgomfojab
end
