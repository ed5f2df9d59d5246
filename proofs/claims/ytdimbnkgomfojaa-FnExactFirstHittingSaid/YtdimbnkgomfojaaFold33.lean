import Derived.Test.YtdimbnkgomfojaaFold32
import Derived.Test.YtdimbnkgomfojaaFold7
import Derived.Deep.RegionHeld3
import Derived.Deep.RegionWith
import Derived.Test.YtdimbnkgomfojaaFold20
import Derived.Test.YtdimbnkgomfojaaFold19
import Derived.Test.YtdimbnkgomfojaaFold31

section
namespace Go.Proofs.Ytdimbnkgomfojaa
open Go.RowKit Go.WideShapes

/-- A list of whole numbers told by a function. -/
def lstH (L : Nat) (g : Nat → Int) : List Int := (List.range L).map g
theorem lstH_len (L : Nat) (g : Nat → Int) : (lstH L g).length = L := by simp [lstH]
theorem lstH_get (L : Nat) (g : Nat → Int) (k : Nat) (h : k < L) : (lstH L g).getD k 0 = g k := by simp [lstH, List.getD, h]
theorem lstH_congr (L : Nat) (g g' : Nat → Int) (h : ∀ k, k < L → g k = g' k) : lstH L g = lstH L g' := by
  unfold lstH
  exact List.map_congr_left (fun k hk => h k (List.mem_range.1 hk))
theorem lstH_zero (L : Nat) : List.replicate L (0 : Int) = lstH L (fun _ => 0) := by
  apply List.ext_getElem
  · simp [lstH]
  · intro i h1 h2
    simp [lstH]
theorem lstH_set (L : Nat) (g g' : Nat → Int) (i : Nat) (x : Int) (hx : g' i = x) (ho : ∀ k, k < L → k ≠ i → g' k = g k) : (lstH L g).set i x = lstH L g' := by
  apply List.ext_getElem
  · simp [lstH]
  · intro k h1 h2
    have hk : k < L := by simpa [lstH] using h2
    by_cases e : k = i
    · subst e
      rw [List.getElem_set_self]
      simp [lstH, hx]
    · rw [List.getElem_set_ne (fun h => e h.symm)]
      simp [lstH, ho k hk e]
/-- The first k are told, the others are 0. -/
def upI (g : Nat → Int) (k i : Nat) : Int := if i < k then g i else 0
theorem upI_set (L : Nat) (g : Nat → Int) (k : Nat) : (lstH L (upI g k)).set k (g k) = lstH L (upI g (k + 1)) :=
  lstH_set L _ _ k _ (by simp [upI]) (fun i _ hi => by
    unfold upI
    by_cases h : i < k
    · rw [if_pos h, if_pos (by omega)]
    · rw [if_neg h, if_neg (by omega)])
theorem upI_zero (L : Nat) (g : Nat → Int) : List.replicate L (0 : Int) = lstH L (upI g 0) := by
  rw [lstH_zero]
  exact lstH_congr L _ _ (fun k _ => by simp [upI])
theorem upI_full (L : Nat) (g : Nat → Int) : lstH L (upI g L) = lstH L g := lstH_congr L _ _ (fun k hk => by simp [upI, hk])


/-- The numbers with the variable shifted. -/
def shfL (n : Nat) (ys : List Int) (u : Int) : List Int := lstH n (fun k => sumT (shT ys u k) n)
end Go.Proofs.Ytdimbnkgomfojaa
end

section
namespace Go.Proofs.Ytdimbnkgomfojaa
open Go.RowKit Go.WideShapes

/-- Rook numbers, each with the orders of what is left. -/
def exfL (n : Nat) (ys : List Int) : List Int := lstH n (fun k => ys.getD k 0 * fct (n - 1 - k))
/-- Hit numbers. -/
def hfrL (n : Nat) (ys : List Int) : List Int := shfL n (exfL n ys) (-1)

/-- Are all numbers whole behind the division? -/
def wholeF (n : Nat) (Z : Nat → Int) : Bool := (List.range n).all (fun k => (Z k).tmod (fct (n - 1 - k)) == 0)
/-- .. divided. -/
def quoF (n : Nat) (Z : Nat → Int) (k : Nat) : Int := (Z k).tdiv (fct (n - 1 - k))
/-- The first k are divided. -/
def quoV (n : Nat) (Z : Nat → Int) (k i : Nat) : Int := if i < k then quoF n Z i else Z i
theorem quoV_zero (n : Nat) (Z : Nat → Int) : lstH n (quoV n Z 0) = lstH n Z := lstH_congr n _ _ (fun k _ => by simp [quoV])
theorem quoV_full (n : Nat) (Z : Nat → Int) : lstH n (quoV n Z n) = lstH n (quoF n Z) := lstH_congr n _ _ (fun k hk => by simp [quoV, hk])
theorem quoV_set (n : Nat) (Z : Nat → Int) (k : Nat) : (lstH n (quoV n Z k)).set k (quoF n Z k) = lstH n (quoV n Z (k + 1)) :=
  lstH_set n _ _ k _ (by simp [quoV]) (fun i _ hi => by
    unfold quoV
    by_cases h : i < k
    · rw [if_pos h, if_pos (by omega)]
    · rw [if_neg h, if_neg (by omega)])
theorem whole_yes (n : Nat) (Z : Nat → Int) (h : ∀ k, k < n → (Z k).tmod (fct (n - 1 - k)) = 0) : wholeF n Z = true :=
  List.all_eq_true.2 (fun k hk => by rw [beq_iff_eq]; exact h k (List.mem_range.1 hk))
theorem whole_no (n : Nat) (Z : Nat → Int) (k : Nat) (hk : k < n) (h : (Z k).tmod (fct (n - 1 - k)) ≠ 0) : wholeF n Z = false := by
  cases e : wholeF n Z
  · rfl
  · have := List.all_eq_true.1 e k (List.mem_range.2 hk)
    rw [beq_iff_eq] at this
    exact absurd this h
/-- Rook numbers off hit numbers. -/
def rfhR (n : Nat) (ys : List Int) : LR := if wholeF n (fun k => sumT (shT ys 1 k) n) then ⟨lstH n (quoF n (fun k => sumT (shT ys 1 k) n)), true⟩ else ⟨[], false⟩

end Go.Proofs.Ytdimbnkgomfojaa
end

section
namespace Go.Proofs.Ytdimbnkgomfojaa
open Go.RowKit Go.WideShapes

theorem fct_fN (k : Nat) (hk : k ≤ 12) : fct k = fN k := by
  have key : ∀ k : Fin 13, fct (k : Nat) = fN k := by decide +kernel
  exact key ⟨k, by omega⟩
theorem sgC_chs (j k : Nat) (hj : j ≤ 12) (hk : k ≤ 12) : ((chs j k : Nat) : Int) * (-1) ^ (j - k) = sgC j k := by
  have key : ∀ j : Fin 13, ∀ k : Fin 13, ((chs (j : Nat) k : Nat) : Int) * (-1) ^ ((j : Nat) - (k : Nat)) = sgC j k := by decide +kernel
  exact key ⟨j, by omega⟩ ⟨k, by omega⟩
/-- Hit numbers off the rook numbers of a square board. -/
theorem hfr_hits (n : Nat) (hn : n ≤ 12) (B : Nat → Nat → Bool) : hfrL (n + 1) (lstL (n + 1) (wR n B n 0 0)) = lstL (n + 1) (pH n B n 0 0) := by
  unfold hfrL shfL lstL
  rw [show lstH (n + 1) (fun k => sumT (shT (exfL (n + 1) ((List.range (n + 1)).map (fun k => (wR n B n 0 0 k : Int)))) (-1) k) (n + 1)) = (List.range (n + 1)).map (fun k => sumT (shT (exfL (n + 1) ((List.range (n + 1)).map (fun k => (wR n B n 0 0 k : Int)))) (-1) k) (n + 1)) from rfl]
  refine List.map_congr_left (fun k hk => ?_)
  have hk := List.mem_range.1 hk
  rw [hits_of]
  refine sumT_congr _ _ _ (fun j hj => ?_)
  unfold shT exfL
  rw [lstH_get (n + 1) _ j hj]
  have e : ((List.range (n + 1)).map (fun k => (wR n B n 0 0 k : Int))).getD j 0 = wR n B n 0 0 j := lstL_get (n + 1) (wR n B n 0 0) j hj
  rw [e, Nat.add_sub_cancel, fct_fN (n - j) (by omega), Int.mul_assoc, sgC_chs j k (by omega) (by omega), Int.mul_comm, Int.natCast_mul]
theorem hits_bd (n : Nat) (B : Nat → Nat → Bool) (hn : n ≤ 6) (j : Nat) (hj : j < n + 1) : Abs 1000000000000 ((lstL (n + 1) (wR n B n 0 0)).getD j 0 * fct (n + 1 - 1 - j)) := by
  rw [lstL_get (n + 1) _ j hj, Nat.add_sub_cancel]
  have h1 := Nat.le_trans (wR_le n hn B n 0 0 j) (pow7 n hn)
  have h2 := fct_bd (n - j) (by omega)
  exact (Abs.mul (a := 117649) (b := 720) (by unfold Abs; omega) (by unfold Abs; omega)).mono (by decide)

/-- What HitNumbers answers. -/
def hitR (r c : Int) (xs : List Int) : LR := if sqB r c xs then ⟨lstL (r.toNat + 1) (pH r.toNat (bt xs) r.toNat 0 0), true⟩ else ⟨[], false⟩
theorem hitR_len (r c : Int) (xs : List Int) : (hitR r c xs).ys.length ≤ 1048576 := by
  unfold hitR
  split
  · rename_i h
    obtain ⟨hg, _⟩ := sq_facts h
    obtain ⟨g1, g2, g3, _⟩ := good_facts hg
    show (lstL _ _).length ≤ _
    rw [lstL_len]; omega
  · simp
def avoidB (r c : Int) (xs : List Int) : R1 := if sqB r c xs then ⟨(pH r.toNat (bt xs) r.toNat 0 0 0 : Nat), true⟩ else ⟨0, false⟩



theorem below_8 {w w1 : World} {B b : Nat} (h : Below B w w1) (hb : B ≤ b) (u0 u1 u2 u3 u4 u5 u6 u7 : Value) :
    Below B w ((((((((w1.setCell ⟨b, 0, none⟩ u0).setCell ⟨b, 1, none⟩ u1).setCell ⟨b, 2, none⟩ u2).setCell ⟨b, 3, none⟩ u3).setCell ⟨b, 4, none⟩ u4).setCell ⟨b, 5, none⟩ u5).setCell ⟨b, 6, none⟩ u6).setCell ⟨b, 7, none⟩ u7) :=
  (((((((h.setCell hb _).setCell hb _).setCell hb _).setCell hb _).setCell hb _).setCell hb _).setCell hb _).setCell hb _
set_option maxRecDepth 100000 in
set_option maxHeartbeats 1600000 in
theorem squareOf_raw (r c : Int) (a : Option Addr) (n cap : Nat) (R1 C1 : Int) (M1 : Nat → Int) (p : Bool) (w : World)
    (h1 : ∀ w', Below w.heap.size w w' → Calls Try.prog 50 #[.agg #[.int .i64 r, .int .i64 c, .slice a n cap]] w' fun e w'' => e = .returned (.tuple #[gv R1 C1 M1, .bool p]) ∧ Below w'.heap.size w' w'') :
    Calls Try.prog 89 #[.agg #[.int .i64 r, .int .i64 c, .slice a n cap]] w
      fun e w' => e = .returned (.tuple #[gv R1 C1 M1, .bool (p && (R1 == C1))]) ∧ Below w.heap.size w w' := by
  have L0 := ((Law.start w).box (.int .i64 r) (.int .i64 c) (.slice a n cap) 29).has (gl 0 0 fun _ => 0) 59
  simp only [World.size_alloc] at L0
  have H1 := Lib.hid h1
  clear h1
  go_enter Try.func89, Try.ntmps89
  go_wp2_with fail
  refine (H1.out _ L0.below).mono ?_
  rintro e w1 ⟨rfl, hb⟩
  have L1 := (L0.kept hb).has (gl R1 C1 M1) 59
  have hz1 := hb.size
  simp only [World.size_alloc] at hz1
  clear hb L0
  go_upto_region 2 with fail
  rw [show w1.alloc (.cells (gl R1 C1 M1).toArray 59) = w1.alloc (.cells #[.int .i64 R1, .int .i64 C1, .int .i64 (M1 0), .int .i64 (M1 1), .int .i64 (M1 2), .int .i64 (M1 3), .int .i64 (M1 4), .int .i64 (M1 5)] 59) from rfl] at L1
  generalize w1.alloc (.cells #[.int .i64 R1, .int .i64 C1, .int .i64 (M1 0), .int .i64 (M1 1), .int .i64 (M1 2), .int .i64 (M1 3), .int .i64 (M1 4), .int .i64 (M1 5)] 59) = w5 at *
  have ⟨g0, g1, g2, g3, g4, g5, g6, g7, _⟩ := L1.ownHas.eight
  have ⟨f0, f1, f2, f3, f4, f5, f6, f7, fr1⟩ := L1.tl.ownHas.eight
  have HB := Lib.hid L1.below
  clear L1 H1
  cases p
  · go_region
    go_wp2_with fail
    refine bodyPost_ret (v := .tuple #[gv R1 C1 M1, .bool false]) (by simp [results, Try.results89, go_sem, f0, f1, f2, f3, f4, f5, f6, f7]) rfl ⟨rfl, ?_⟩
    exact (below_8 HB.out (by omega) _ _ _ _ _ _ _ _).drew
  · go_region
    go_wp2_with fail
    refine bodyPost_ret (v := .tuple #[gv R1 C1 M1, .bool (R1 == C1)]) (by simp [results, Try.results89, go_sem, f0, f1, f2, f3, f4, f5, f6, f7]) rfl ⟨rfl, ?_⟩
    exact (below_8 HB.out (by omega) _ _ _ _ _ _ _ _).drew
theorem squareOf_any (r c : Int) (a : Option Addr) (cap : Nat) (xs : List Int) (w : World) (hx : xs.length ≤ 1048576) (hr : Reads w a xs.length xs) :
    ∃ R1 C1 M1, (sqB r c xs = true → R1 = r ∧ C1 = c ∧ ∀ k, M1 k = xs.getD k 0) ∧ Calls Try.prog 89 #[.agg #[.int .i64 r, .int .i64 c, .slice a xs.length cap]] w
      fun e w' => e = .returned (.tuple #[gv R1 C1 M1, .bool (sqB r c xs)]) ∧ Below w.heap.size w w' := by
  cases hg : goodB r c xs
  · refine ⟨0, 0, fun _ => 0, fun h => by simp [sqB, hg] at h, ?_⟩
    have := squareOf_raw r c a xs.length cap 0 0 (fun _ => 0) false w (fun w' hb => gridOf_no r c a cap xs w' hx (hr.kept hb) hg)
    rw [show sqB r c xs = false by simp [sqB, hg]]
    exact this
  · refine ⟨r, c, fun k => xs.getD k 0, fun _ => ⟨rfl, rfl, fun _ => rfl⟩, ?_⟩
    have := squareOf_raw r c a xs.length cap r c (fun k => xs.getD k 0) true w (fun w' hb => gridOf_yes r c a cap xs w' hx (hr.kept hb) hg)
    rw [show sqB r c xs = (true && (r == c)) by simp [sqB, hg]]
    exact this
end Go.Proofs.Ytdimbnkgomfojaa
end

section
namespace Go.Proofs.Ytdimbnkgomfojaa
open Go.RowKit Go.WideShapes

def hasL (xs : List Int) (n : Int) : Bool := decide (n ∈ xs)
theorem hasL_take_step (xs : List Int) (n : Int) (k : Nat) (hk : k < xs.length) (h : ¬ n ∈ xs.take k) (hx : xs.getD k 0 ≠ n) : ¬ n ∈ xs.take (k + 1) := by
  rw [List.take_succ_eq_append_getElem hk]
  simp only [List.mem_append, List.mem_singleton, not_or]
  exact ⟨h, fun e => hx (by rw [e]; simp [List.getD, hk])⟩
set_option maxHeartbeats 800000 in
theorem l1HasO_any (a : Option Addr) (cap : Nat) (xs : List Int) (n : Int) (w : World) (hx : xs.length ≤ 1048576) (hr : Reads w a xs.length xs) :
    Calls Try.prog 106 #[.slice a xs.length cap, .int .i64 n] w fun e w' => e = .returned (.bool (hasL xs n)) ∧ w = w' := by
  go_enter Try.func106, Try.ntmps106
  go_wp2
  go_loop [9] (fun i => ∃ k : Nat, k ≤ xs.length ∧ i = .int .i64 k ∧ Hid (¬ n ∈ xs.take k)) (fun i => xs.length - (intOf i).toNat)
  case atStart => exact ⟨0, Nat.zero_le _, rfl, Lib.hid (by simp)⟩
  case round =>
    obtain ⟨k, hk, rfl, HE⟩ := hrel
    by_cases hlt : k < xs.length
    · obtain ⟨b, off, rfl, hb, hc⟩ := reads_row hr (by omega)
      have hck := hc k hlt
      clear hc hr
      by_cases he : xs.getD k 0 = n
      · have t1 : (xs.getD k 0 == n) = true := beq_iff_eq.2 he
        have HD := Lib.hid (show hasL xs n = true by unfold hasL; rw [decide_eq_true_eq, ← he]; simp [List.getD, hlt])
        clear he
        generalize xs.getD k 0 = x at *
        go_wp2_with fail
        go_ret
        exact ⟨ret_bool HD.out.symm, rfl⟩
      · have t1 : (xs.getD k 0 == n) = false := beq_eq_false_iff_ne.2 he
        have HN := Lib.hid (hasL_take_step xs n k hlt HE.out he)
        clear he
        generalize xs.getD k 0 = x at *
        go_wp2_with fail
        go_round
        case rel => exact ⟨k + 1, by omega, by go_num, HN⟩
        case measure => simp [intOf]; omega
    · obtain rfl : k = xs.length := by omega
      have HD := Lib.hid (show hasL xs n = false by
        have := HE.out
        rw [List.take_length] at this
        unfold hasL
        rw [decide_eq_false_iff_not]; exact this)
      go_wp2_with fail
      go_ret
      exact ⟨ret_bool HD.out.symm, rfl⟩



end Go.Proofs.Ytdimbnkgomfojaa
end

section
namespace Go.Proofs.Ytdimbnkgomfojaa
open Go.RowKit Go.WideShapes

theorem Has.fourteen {w : World} {b : Nat} {n m : Int} {M F : Nat → Int} {t : TypeId} (h : Has w b (trL n m M F) t) :
    w.cell? ⟨b, 0, none⟩ = some (.int .i64 n) ∧ w.cell? ⟨b, 1, none⟩ = some (.int .i64 m) ∧ w.cell? ⟨b, 2, none⟩ = some (.int .i64 (M 0)) ∧ w.cell? ⟨b, 3, none⟩ = some (.int .i64 (M 1)) ∧ w.cell? ⟨b, 4, none⟩ = some (.int .i64 (M 2)) ∧ w.cell? ⟨b, 5, none⟩ = some (.int .i64 (M 3)) ∧ w.cell? ⟨b, 6, none⟩ = some (.int .i64 (M 4)) ∧ w.cell? ⟨b, 7, none⟩ = some (.int .i64 (M 5)) ∧
    w.cell? ⟨b, 8, none⟩ = some (.int .i64 (F 0)) ∧ w.cell? ⟨b, 9, none⟩ = some (.int .i64 (F 1)) ∧ w.cell? ⟨b, 10, none⟩ = some (.int .i64 (F 2)) ∧ w.cell? ⟨b, 11, none⟩ = some (.int .i64 (F 3)) ∧ w.cell? ⟨b, 12, none⟩ = some (.int .i64 (F 4)) ∧ w.cell? ⟨b, 13, none⟩ = some (.int .i64 (F 5)) :=
  ⟨h.cell 0, h.cell 1, h.cell 2, h.cell 3, h.cell 4, h.cell 5, h.cell 6, h.cell 7, h.cell 8, h.cell 9, h.cell 10, h.cell 11, h.cell 12, h.cell 13⟩
set_option maxRecDepth 100000 in
set_option maxHeartbeats 1600000 in
theorem overT1_any (n m : Int) (M F : Nat → Int) (r bv bi : Nat) (w : World) (hr : r < 6) (hM : 0 ≤ M r ∧ M r < 64) (hF : 0 ≤ F r ∧ F r < 6)
    (hv : w.cell? ⟨bv, 0, none⟩ = some (.func (.func 138) #[] #[])) (hb : Has w bi (trL n m M F) 126) :
    Calls Try.prog 142 (#[.int .i64 r] ++ #[.pointer (some ⟨bv, 0, none⟩), .pointer (some ⟨bi, 0, none⟩)]) w fun e w' => e = .returned (.int .i64 (hit1 M F r)) ∧ Below w.heap.size w w' := by
  have HA := Lib.hid (hitIn_any n m M F r w hr hM hF)
  have ⟨c0, c1, c2, c3, c4, c5, c6, c7, c8, c9, c10, c11, c12, c13⟩ := hb.fourteen
  clear hM hF hb
  go_enter Try.func142, Try.ntmps142
  go_wp2_with fail
  refine HA.out.mono ?_
  rintro e w' ⟨rfl, hb⟩
  have HB := Lib.hid hb
  clear hb
  go_wp2_with fail
  go_ret
  exact ⟨rfl, HB.out⟩

set_option maxRecDepth 100000 in
set_option maxHeartbeats 1600000 in
theorem overT_any (q : Nat) (n m : Int) (M F : Nat → Int) (w : World) (hq : q ≤ 6) (hM : ∀ r, r < q → 0 ≤ M r ∧ M r < 64) (hF : ∀ r, r < q → 0 ≤ F r ∧ F r < 6) :
    Calls Try.prog 137 #[trV n m M F, .int .i64 q, .func (.func 138) #[] #[]] w fun e w' => e = .returned (.int .i64 (sumT (hit1 M F) q)) ∧ Below w.heap.size w w' := by
  have L0 := ((Law.start w).has (trL n m M F) 126).has [.func (.func 138) #[] #[]] 127
  simp only [World.size_alloc] at L0
  rw [show ([.func (.func 138) #[] #[]] : List Value).toArray = #[.func (.func 138) #[] #[]] from rfl,
    show (trL n m M F).toArray = #[.int .i64 n, .int .i64 m, .int .i64 (M 0), .int .i64 (M 1), .int .i64 (M 2), .int .i64 (M 3), .int .i64 (M 4), .int .i64 (M 5), .int .i64 (F 0), .int .i64 (F 1), .int .i64 (F 2), .int .i64 (F 3), .int .i64 (F 4), .int .i64 (F 5)] from rfl] at L0
  have HL := Lib.hid L0
  have hsm : ∀ j, j ≤ 6 → 0 ≤ sumT (hit1 M F) j ∧ sumT (hit1 M F) j ≤ j := by
    intro j
    induction j with
    | zero => intro _; simp [sumT]
    | succ j ih =>
      intro h
      have := ih (by omega)
      rw [sumT]
      unfold hit1 at *
      split <;> omega
  have HF := Lib.hid (fun (W : World) (L : Law w [tHas (w.heap.size + 1) [.func (.func 138) #[] #[]] 127, tHas w.heap.size (trL n m M F) 126] W) => sumOfTerms_any q 142 #[.pointer (some ⟨w.heap.size + 1, 0, none⟩), .pointer (some ⟨w.heap.size, 0, none⟩)] (hit1 M F) W (by omega) (fun _ _ => by kernel_rfl)
    (fun j hj w' hb => by
      have L2 := L.kept hb
      have hv := L2.ownHas.cell 0
      simp only [List.getElem?_cons_zero] at hv
      exact overT1_any n m M F j (w.heap.size + 1) w.heap.size w' (by omega) (hM j hj) (hF j hj) hv L2.tl.ownHas)
    (fun j hj => by
      have h := hsm (j + 1) (by omega)
      rw [sumT] at h
      exact IntWalk.i64_in _ (by omega)))
  clear L0 hM hF hsm
  go_enter Try.func137, Try.ntmps137
  go_upto_region 1 with fail
  generalize (w.alloc (.cells #[.int .i64 n, .int .i64 m, .int .i64 (M 0), .int .i64 (M 1), .int .i64 (M 2), .int .i64 (M 3), .int .i64 (M 4), .int .i64 (M 5), .int .i64 (F 0), .int .i64 (F 1), .int .i64 (F 2), .int .i64 (F 3), .int .i64 (F 4), .int .i64 (F 5)] 126)).alloc (.cells #[.func (.func 138) #[] #[]] 127) = w5 at *
  go_wp2_with fail
  refine (HF.out _ HL.out).mono ?_
  rintro e w' ⟨rfl, hb⟩
  have HB := Lib.hid (HL.out.kept hb).below
  clear hb
  go_wp2_with fail
  go_ret
  exact ⟨rfl, HB.out⟩

set_option maxRecDepth 100000 in
set_option maxHeartbeats 1600000 in
theorem hitsOf_any (n : Nat) (m : Int) (M F : Nat → Int) (Q : List Int) (w : World) (hn : n ≤ 6) (hM : ∀ r, r < n → 0 ≤ M r ∧ M r < 64) (hF : ∀ r, r < n → Q.getD r 0 = F r ∧ 0 ≤ F r ∧ F r < 6) :
    Calls Try.prog 118 #[gv n m M, pv6 F] w fun e w' => e = .returned (.int .i64 (hitN (bN M) Q n : Nat)) ∧ Below w.heap.size w w' := by
  have L0 := ((Law.start w).has (gl n m M) 59).has (pl6 F) 70
  simp only [World.size_alloc] at L0
  rw [show (gl n m M).toArray = #[.int .i64 n, .int .i64 m, .int .i64 (M 0), .int .i64 (M 1), .int .i64 (M 2), .int .i64 (M 3), .int .i64 (M 4), .int .i64 (M 5)] from rfl, show (pl6 F).toArray = #[.int .i64 (F 0), .int .i64 (F 1), .int .i64 (F 2), .int .i64 (F 3), .int .i64 (F 4), .int .i64 (F 5)] from rfl] at L0
  rw [← hit1_sum M F Q n (fun r hr => (hF r hr).1)]
  have HC := Lib.hid (fun W => overT_any n n m M F W hn hM (fun r hr => (hF r hr).2))
  have HB := Lib.hid L0.below
  have ⟨e0, e1, e2, e3, e4, e5, _⟩ := L0.ownHas.six
  have ⟨c0, c1, c2, c3, c4, c5, c6, c7, _⟩ := L0.tl.ownHas.eight
  clear L0 hM hF
  go_enter Try.func118, Try.ntmps118
  go_upto_region 1 with fail
  generalize (w.alloc (.cells #[.int .i64 n, .int .i64 m, .int .i64 (M 0), .int .i64 (M 1), .int .i64 (M 2), .int .i64 (M 3), .int .i64 (M 4), .int .i64 (M 5)] 59)).alloc (.cells #[.int .i64 (F 0), .int .i64 (F 1), .int .i64 (F 2), .int .i64 (F 3), .int .i64 (F 4), .int .i64 (F 5)] 70) = w5 at *
  go_wp2_with fail
  refine (HC.out _).mono ?_
  rintro e w' ⟨rfl, hb⟩
  have HB2 := Lib.hid (below_on HB.out hb)
  clear hb
  go_wp2_with fail
  go_ret
  exact ⟨rfl, HB2.out⟩
end Go.Proofs.Ytdimbnkgomfojaa
end
