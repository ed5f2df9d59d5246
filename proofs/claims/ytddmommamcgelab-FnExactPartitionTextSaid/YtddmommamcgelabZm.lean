/- Partitions and cycles: what makes them, in the program. No condition but the sizes. -/
import Derived.Test.YtddmommamcgelabZk
import Derived.Test.YtddmommamcgelabM4
import Derived.Test.YtddmommamcgelabZn
import Derived.Test.YtddmommamcgelabSm
import Derived.Test.YtddmommamcgelabQj
import Derived.Test.YtddmommamcgelabO
import Derived.BigQuiet
namespace Go.Proofs.Ytddmommamcgelab
open Go.RowKit Go.WideShapes

def lenZ (zz : List (List Int)) (j : Nat) : Int := (rowZ zz j).length
theorem lenZ_sum (zz : List (List Int)) (k : Nat) (hk : k ≤ zz.length) : sumT (lenZ zz) k = (sizeZ zz k : Nat) := by
  induction k with
  | zero => simp [sumT, sizeZ, preZ]
  | succ k ih =>
    rw [sumT, ih (by omega), sizeZ_next zz k (by omega)]
    unfold lenZ
    omega

set_option maxRecDepth 100000 in
set_option maxHeartbeats 1600000 in
theorem countNum1_any (bb j : Nat) (a : Option Addr) (cap : Nat) (zz : List (List Int)) (w : World) (hj : j < zz.length) (_hl : zz.length + total zz ≤ 1048576) (hb : w.cell? ⟨bb, 0, none⟩ = some (.slice a zz.length cap)) (hr : ReadsM w a zz.length zz) :
    Calls Try.prog 122 (#[.int .i64 j] ++ #[.pointer (some ⟨bb, 0, none⟩)]) w fun e w' => e = .returned (.int .i64 (lenZ zz j)) ∧ Below w.heap.size w w' := by
  obtain ⟨b, off, aj, cj, rfl, _, hcell, _⟩ := hr.row j hj
  rw [← rowZ_eq zz j hj] at hcell
  have hj0 : (0 : Int) ≤ j := by omega
  have hj1 : (j : Int) < zz.length := by omega
  clear hr
  unfold lenZ
  generalize (rowZ zz j).length = rl at *
  go_enter Try.func122, Try.ntmps122
  go_wp2_with fail
  go_ret
  exact ⟨rfl, Below.refl _ _⟩
set_option maxRecDepth 100000 in
set_option maxHeartbeats 1600000 in
theorem countNum_any (a : Option Addr) (cap : Nat) (zz : List (List Int)) (w : World) (hl : zz.length + total zz ≤ 1048576) (hr : ReadsM w a zz.length zz) :
    Calls Try.prog 79 #[.slice a zz.length cap] w fun e w' => e = .returned (.int .i64 (total zz : Nat)) ∧ Below w.heap.size w w' := by
  have L0 := (Law.start w).has [.slice a zz.length cap] 23
  rw [show (w.alloc (.cells [.slice a zz.length cap].toArray 23)) = (w.alloc (.cells #[.slice a zz.length cap] 23)) from rfl] at L0
  have HS := Lib.hid (fun (W : World) (L : Law w [tHas w.heap.size [.slice a zz.length cap] 23] W) => sumOfTerms_any zz.length 122 #[.pointer (some ⟨w.heap.size, 0, none⟩)] (lenZ zz) W (by omega) (fun _ _ => by kernel_rfl)
    (fun j hj w' hb' => by
      have L2 := L.kept hb'
      have h1 := L2.ownHas.cell 0
      simp only [List.getElem?_cons_zero] at h1
      exact countNum1_any w.heap.size j a cap zz w' hj hl h1 (L2.readsM hr))
    (fun j hj => by
      have h1 := lenZ_sum zz (j + 1) (by omega)
      have h2 := sizeZ_le zz (j + 1)
      rw [sumT] at h1
      rw [h1]
      exact IntWalk.i64_in _ (by omega)))
  have HE := Lib.hid (show sumT (lenZ zz) zz.length = (total zz : Nat) by rw [lenZ_sum zz _ (Nat.le_refl _), sizeZ_full])
  have HL := Lib.hid L0
  clear L0 hr
  go_enter Try.func79, Try.ntmps79
  go_upto_region 1 with fail
  generalize w.alloc (.cells #[.slice a zz.length cap] 23) = w5 at *
  have f0 := HL.out.ownHas.cell 0
  simp only [List.getElem?_cons_zero] at f0
  go_wp2_with fail
  refine (HS.out _ HL.out).mono ?_
  rintro e w' ⟨rfl, hb⟩
  rw [HE.out]
  have HB := Lib.hid (HL.out.kept hb).below
  clear hb
  go_wp2_with fail
  go_ret
  exact ⟨rfl, HB.out⟩

/-- The least number of the first ones. -/
def minU (xs : List Int) : Nat → Int
  | 0 => xs.getD 0 0
  | k + 1 => min (minU xs k) (xs.getD (k + 1) 0)
theorem minU_le (xs : List Int) (k : Nat) : ∀ j, j ≤ k → minU xs k ≤ xs.getD j 0 := by
  induction k with
  | zero => intro j hj; rw [show j = 0 by omega]; exact Int.le_refl _
  | succ k ih =>
    intro j hj
    rw [minU]
    by_cases e : j = k + 1
    · subst e; omega
    · have := ih j (by omega)
      omega
theorem minU_first (xs : List Int) (k : Nat) (h : ∀ j, j ≤ k → xs.getD 0 0 ≤ xs.getD j 0) : minU xs k = xs.getD 0 0 := by
  induction k with
  | zero => rfl
  | succ k ih =>
    rw [minU, ih (fun j hj => h j (by omega))]
    have := h (k + 1) (Nat.le_refl _)
    omega

set_option maxRecDepth 100000 in
set_option maxHeartbeats 1600000 in
theorem min_any (a : Option Addr) (p n : Nat) (xs : List Int) (w : World) (hx : xs.length ≤ 1048576) (h1 : xs.length = n + 1) (hr : Reads w a xs.length xs) :
    Calls Try.prog 128 #[.slice a xs.length p] w fun e w' => e = .returned (.int .i64 (minU xs n)) ∧ w' = w := by
  obtain ⟨b, off, rfl, hb, hc⟩ := reads_row hr (by omega)
  have hc0 := hc 0 (by omega)
  rw [Nat.add_zero] at hc0
  have hl1 : ¬ (xs.length : Int) < 1 := by omega
  have hl0 : (0 : Int) < xs.length := by omega
  have HC := Lib.hid hc
  have HN := Lib.hid h1
  have HM0 : Hid (minU xs 0 = xs.getD 0 0) := Lib.hid rfl
  clear hc h1 hr
  rw [← HM0.out] at hc0
  go_enter Try.func128, Try.ntmps128
  go_wp2_with fail
  go_loop [3, 4] (fun m i => ∃ k : Nat, k + 1 ≤ xs.length ∧ i = .int .i64 ((k + 1 : Nat) : Int) ∧ m = .int .i64 (minU xs k)) (fun _ i => xs.length - (intOf i).toNat)
  case atStart => exact ⟨0, by omega, rfl, rfl⟩
  case round =>
    obtain ⟨k, hk, rfl, rfl⟩ := hrel
    by_cases hlt : k + 1 < xs.length
    · have hck := HC.out (k + 1) hlt
      have hn := Lib.hid (show minU xs (k + 1) = min (minU xs k) (xs.getD (k + 1) 0) from rfl)
      obtain ⟨kk, hkk⟩ : ∃ kk, kk = k + 1 := ⟨_, rfl⟩
      rw [← hkk] at hck hn hlt ⊢
      have HK := Lib.hid hkk
      generalize xs.getD kk 0 = y at *
      generalize minU xs k = z at *
      have hk1 : (kk : Int) < xs.length := by omega
      have hk0 : (0 : Int) ≤ kk := by omega
      clear hkk hc0
      go_wp2_with fail
      go_round
      case rel => exact ⟨kk, by omega, by go_num, congrArg (Value.int .i64) (by rw [hn.out]; split <;> omega)⟩
      case measure => simp [intOf]; omega
    · obtain rfl : n = k := by have := HN.out; omega
      have hlt' : ¬ ((n + 1 : Nat) : Int) < xs.length := by omega
      clear hc0
      go_wp2_with fail
      go_ret
      exact ⟨rfl, rfl⟩

/-- Do the first numbers rise? -/
def firstsB (zz : List (List Int)) : Bool := (List.range (zz.length - 1)).all fun k => decide ((rowZ zz k).getD 0 0 ≤ (rowZ zz (k + 1)).getD 0 0)
theorem firstsB_iff {zz : List (List Int)} : firstsB zz = true ↔ ∀ k, k < zz.length - 1 → (rowZ zz k).getD 0 0 ≤ (rowZ zz (k + 1)).getD 0 0 := by
  simp only [firstsB, List.all_eq_true, List.mem_range, decide_eq_true_eq]
theorem firstsB_no {zz : List (List Int)} (k : Nat) (hk : k < zz.length - 1) (h : ¬ (rowZ zz k).getD 0 0 ≤ (rowZ zz (k + 1)).getD 0 0) : firstsB zz = false := by
  rw [← Bool.not_eq_true]
  intro e
  exact h (firstsB_iff.1 e k hk)

set_option maxRecDepth 100000 in
set_option maxHeartbeats 1600000 in
theorem compareFirst_any (b1 o1 n1 p1 b2 o2 n2 p2 : Nat) (x y : Int) (w : World) (h1 : w.cell? ⟨b1, o1, none⟩ = some (.int .i64 x)) (h2 : w.cell? ⟨b2, o2, none⟩ = some (.int .i64 y)) (l1 : 1 ≤ n1) (l2 : 1 ≤ n2) :
    Calls Try.prog 130 #[.slice (some ⟨b1, o1, none⟩) n1 p1, .slice (some ⟨b2, o2, none⟩) n2 p2] w fun e w' => e = .returned (.int .i64 (cmpI x y)) ∧ ∃ m, w' = w.drewN m := by
  have HC := Lib.hid (fun W => compare_any x y W)
  have i1 : (0 : Int) < n1 := by omega
  have i2 : (0 : Int) < n2 := by omega
  generalize cmpI x y = z at *
  go_enter Try.func130, Try.ntmps130
  go_wp2_with fail
  go_quiet ((go_at_call 160; with_reducible exact Calls.quiet_of_same (HC.out _)))
  go_wp2_with fail
  go_ret
  exact ⟨rfl, _, rfl⟩

set_option maxRecDepth 100000 in
set_option maxHeartbeats 3200000 in
theorem isSortedF_any (a : Option Addr) (p : Nat) (zz : List (List Int)) (w : World) (hl : zz.length + total zz ≤ 1048576) (h1 : 1 ≤ zz.length) (hne : ∀ i, i < zz.length → 1 ≤ (rowZ zz i).length) (hr : ReadsM w a zz.length zz) :
    Calls Try.prog 129 #[.slice a zz.length p, .func (.func 130) #[] #[]] w fun e w' => e = .returned (.bool (firstsB zz)) ∧ Below w.heap.size w w' := by
  have hw1 : IntKind.i64.wrap ((zz.length : Int) - 1) = (zz.length : Int) - 1 := IntWalk.i64_in _ (by omega)
  have hcall : ∀ (args : Array Value) (w : World), (callFunc 130 args).run Try.prog w = .ok (.enter 130 args) w := fun _ _ => by kernel_rfl
  have HR := Lib.hid hr
  have HNE := Lib.hid hne
  clear hr hne
  go_enter Try.func129, Try.ntmps129
  go_wp2_with fail
  clear hw1
  go_loopw [5] (fun i wr => ∃ k : Nat, k < zz.length ∧ i = .int .i64 k ∧ Hid (∀ j, k ≤ j → j < zz.length - 1 → (rowZ zz j).getD 0 0 ≤ (rowZ zz (j + 1)).getD 0 0) ∧ Drawn w wr) (fun i _ => (intOf i).toNat)
  case atStart => exact ⟨zz.length - 1, by omega, by rw [show ((zz.length : Int) - 1) = ((zz.length - 1 : Nat) : Int) by omega], Lib.hid (fun j h1 h2 => by omega), Drawn.refl _⟩
  case round =>
    obtain ⟨k, hk, rfl, HE, hd⟩ := hrel
    have HD := Lib.hid hd
    by_cases hlt : 0 < k
    · have hrm := HR.out.kept hd.below
      obtain ⟨b, off, aj, cj, ha, _, hck, hrk⟩ := hrm.row k hk
      obtain ⟨b', off', ap, cp, ha', _, hcp, hrp⟩ := hrm.row (k - 1) (by omega)
      rw [← rowZ_eq zz k hk] at hck hrk
      rw [← rowZ_eq zz (k - 1) (by omega)] at hcp hrp
      subst ha
      injection ha' with ha
      injection ha with ha1 ha2
      subst ha1
      subst ha2
      have hn1 := HNE.out k hk
      have hn2 := HNE.out (k - 1) (by omega)
      obtain ⟨b1, o1, rfl, _, hc1⟩ := reads_row hrk (by omega)
      obtain ⟨b2, o2, rfl, _, hc2⟩ := reads_row hrp (by omega)
      have hx := hc1 0 (by omega)
      have hy := hc2 0 (by omega)
      rw [Nat.add_zero] at hx hy
      have hyes : ¬ (rowZ zz k).getD 0 0 < (rowZ zz (k - 1)).getD 0 0 → ∀ j, k - 1 ≤ j → j < zz.length - 1 → (rowZ zz j).getD 0 0 ≤ (rowZ zz (j + 1)).getD 0 0 := by
        intro h j hj hj2
        by_cases e : j + 1 = k
        · subst e
          rw [Nat.add_sub_cancel] at h
          omega
        · exact HE.out j (by omega) hj2
      have hno : (rowZ zz k).getD 0 0 < (rowZ zz (k - 1)).getD 0 0 → firstsB zz = false := by
        intro h
        refine firstsB_no (k - 1) (by omega) ?_
        rw [show k - 1 + 1 = k by omega]
        omega
      have hk0 : (0 : Int) ≤ (k : Int) - 1 := by omega
      have hk2 : ((k : Int) - 1).toNat = k - 1 := by omega
      have hk3 : (k : Int) - 1 < zz.length := by omega
      have hk4 : IntKind.i64.wrap ((k : Int) - 1) = (k : Int) - 1 := IntWalk.i64_in _ (by omega)
      have hk5 : (0 : Int) < k := by omega
      have hk6 : (k : Int) < zz.length := by omega
      generalize (rowZ zz k).getD 0 0 = x at *
      generalize (rowZ zz (k - 1)).getD 0 0 = y at *
      generalize (rowZ zz k).length = n1 at *
      generalize (rowZ zz (k - 1)).length = n2 at *
      have hneg := cmpI_neg x y
      have HC := Lib.hid (fun m => compareFirst_any b1 o1 n1 cj b2 o2 n2 cp x y (wr.drewN m) hx hy hn1 hn2)
      generalize cmpI x y = z at *
      have HX := Lib.hid hx
      have HY := Lib.hid hy
      clear hd hrm hrk hrp hc1 hc2 hx hy hn1 hn2 HE
      by_cases hxy : x < y
      · have HN := Lib.hid (hno hxy)
        have hz : z < 0 := by simpa [hxy] using hneg
        clear hyes hno hxy hneg
        go_wp2_with fail
        go_quiet ((go_at_call 130; with_reducible exact Calls.quiet_of (HC.out _)))
        go_wp2_with fail
        go_ret
        exact ⟨ret_bool HN.out.symm, (HD.out.more _).below⟩
      · have HN := Lib.hid (hyes hxy)
        have hz : ¬ z < 0 := by simpa [hxy] using hneg
        clear hyes hno hxy hneg
        go_wp2_with fail
        go_quiet ((go_at_call 130; with_reducible exact Calls.quiet_of (HC.out _)))
        go_wp2_with fail
        go_roundw
        case rel => exact ⟨k - 1, by omega, by rw [show ((k : Int) - 1) = ((k - 1 : Nat) : Int) by omega], HN, HD.out.more _⟩
        case measure => simp [intOf]; omega
    · obtain rfl : k = 0 := by omega
      have hs := Lib.hid (firstsB_iff.2 (fun j h => HE.out j (Nat.zero_le _) h))
      have HB := Lib.hid hd.below
      clear HE hd
      go_wp2_with fail
      go_ret
      exact ⟨ret_bool hs.out.symm, HB.out⟩
end Go.Proofs.Ytddmommamcgelab
