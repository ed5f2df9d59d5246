import Derived.Test.YtaipcmplpjkebaaFold8
import Derived.Test.YtaipcmplpjkebaaFold5
namespace Go.Proofs.Ytaipcmplpjkebaa
open Go.RowKit Go.WideShapes

/-- A list of whole numbers told by a function. -/
def lstH (L : Nat) (g : Nat → Int) : List Int := (List.range L).map g
theorem lstH_len (L : Nat) (g : Nat → Int) : (lstH L g).length = L := by simp [lstH]
theorem lstH_get (L : Nat) (g : Nat → Int) (k : Nat) (h : k < L) : (lstH L g).getD k 0 = g k := by simp [lstH, List.getD, h]
theorem lstH_congr (L : Nat) (g g' : Nat → Int) (h : ∀ k, k < L → g k = g' k) : lstH L g = lstH L g' := by
  unfold lstH
  exact List.map_congr_left (fun k hk => h k (List.mem_range.1 hk))
theorem lstH_zero (L : Nat) : List.replicate L (0 : Int) = lstH L (fun _ => 0) := by
  apply List.ext_getElem
  · simp [lstH]
  · intro i h1 h2
    simp [lstH]
theorem lstH_set (L : Nat) (g g' : Nat → Int) (i : Nat) (x : Int) (hx : g' i = x) (ho : ∀ k, k < L → k ≠ i → g' k = g k) : (lstH L g).set i x = lstH L g' := by
  apply List.ext_getElem
  · simp [lstH]
  · intro k h1 h2
    have hk : k < L := by simpa [lstH] using h2
    by_cases e : k = i
    · subst e
      rw [List.getElem_set_self]
      simp [lstH, hx]
    · rw [List.getElem_set_ne (fun h => e h.symm)]
      simp [lstH, ho k hk e]
/-- The first k are told, the others are 0. -/
def upI (g : Nat → Int) (k i : Nat) : Int := if i < k then g i else 0
theorem upI_set (L : Nat) (g : Nat → Int) (k : Nat) : (lstH L (upI g k)).set k (g k) = lstH L (upI g (k + 1)) :=
  lstH_set L _ _ k _ (by simp [upI]) (fun i _ hi => by
    unfold upI
    by_cases h : i < k
    · rw [if_pos h, if_pos (by omega)]
    · rw [if_neg h, if_neg (by omega)])
theorem upI_zero (L : Nat) (g : Nat → Int) : List.replicate L (0 : Int) = lstH L (upI g 0) := by
  rw [lstH_zero]
  exact lstH_congr L _ _ (fun k _ => by simp [upI])
theorem upI_full (L : Nat) (g : Nat → Int) : lstH L (upI g L) = lstH L g := lstH_congr L _ _ (fun k hk => by simp [upI, hk])

set_option maxRecDepth 100000 in
set_option maxHeartbeats 1600000 in
theorem over1_any (ys : List Int) (u : Int) (k j n bv bi : Nat) (a : Option Addr) (p : Nat) (w : World) (hu : Unit1 u) (hk : k ≤ 12) (hj : j < n) (hn : n ≤ 13) (hy : Abs 1000000000000 (ys.getD j 0)) (hr : Reads w a n ys)
    (hv : w.cell? ⟨bv, 0, none⟩ = some (.func (.func 125) #[] #[])) (hb : Box w bi (.slice a n p) (.int .i64 u) (.int .i64 k)) :
    Calls Try.prog 133 (#[.int .i64 j] ++ #[.pointer (some ⟨bv, 0, none⟩), .pointer (some ⟨bi, 0, none⟩)]) w fun e w' => e = .returned (.int .i64 (shT ys u k j)) ∧ Below w.heap.size w w' := by
  have HA := Lib.hid (addedBy_any ys u k j n a p w hu hk hj hn hy hr)
  have ⟨_, m0, m1, m2, _⟩ := hb
  clear hr hy hu hb
  go_enter Try.func133, Try.ntmps133
  go_wp2_with fail
  refine HA.out.mono ?_
  rintro e w' ⟨rfl, hb⟩
  have HB := Lib.hid hb
  clear hb
  go_wp2_with fail
  go_ret
  exact ⟨rfl, HB.out⟩

set_option maxRecDepth 100000 in
set_option maxHeartbeats 1600000 in
theorem overS_any (ys : List Int) (u : Int) (k n : Nat) (a : Option Addr) (p : Nat) (w : World) (hu : Unit1 u) (hk : k ≤ 12) (hn : n ≤ 13) (hy : ∀ j, j < n → Abs 1000000000000 (ys.getD j 0)) (hr : Reads w a n ys) :
    Calls Try.prog 124 #[.agg #[.slice a n p, .int .i64 u, .int .i64 k], .int .i64 n, .func (.func 125) #[] #[]] w fun e w' => e = .returned (.int .i64 (sumT (shT ys u k) n)) ∧ Below w.heap.size w w' := by
  have L0 := ((Law.start w).box (.slice a n p) (.int .i64 u) (.int .i64 k) 96).has [.func (.func 125) #[] #[]] 97
  simp only [World.size_alloc] at L0
  rw [show ([.func (.func 125) #[] #[]] : List Value).toArray = #[.func (.func 125) #[] #[]] from rfl] at L0
  have HL := Lib.hid L0
  have HF := Lib.hid (fun (W : World) (L : Law w [tHas (w.heap.size + 1) [.func (.func 125) #[] #[]] 97, tBox w.heap.size (.slice a n p) (.int .i64 u) (.int .i64 k)] W) => sumOfTerms_any n 133 #[.pointer (some ⟨w.heap.size + 1, 0, none⟩), .pointer (some ⟨w.heap.size, 0, none⟩)] (shT ys u k) W (by omega) (fun _ _ => by kernel_rfl)
    (fun j hj w' hb => by
      have L2 := L.kept hb
      have hv := L2.ownHas.cell 0
      simp only [List.getElem?_cons_zero] at hv
      exact over1_any ys u k j n (w.heap.size + 1) w.heap.size a p w' hu hk hj hn (hy j hj) (L2.reads hr) hv L2.tl.ownBox)
    (fun j hj => by
      have h := shS_abs ys u hu k (j + 1) hk (by omega) (fun i hi => hy i (by omega))
      rw [sumT] at h
      unfold Abs at h
      exact IntWalk.i64_in _ (by omega)))
  clear L0 hr hy hu
  go_enter Try.func124, Try.ntmps124
  go_upto_region 1 with fail
  generalize (w.alloc (.cells #[.slice a n p, .int .i64 u, .int .i64 k] 96)).alloc (.cells #[.func (.func 125) #[] #[]] 97) = w5 at *
  go_wp2_with fail
  refine (HF.out _ HL.out).mono ?_
  rintro e w' ⟨rfl, hb⟩
  have HB := Lib.hid (HL.out.kept hb).below
  clear hb
  go_wp2_with fail
  go_ret
  exact ⟨rfl, HB.out⟩

/-- The numbers with the variable shifted. -/
def shfL (n : Nat) (ys : List Int) (u : Int) : List Int := lstH n (fun k => sumT (shT ys u k) n)
set_option maxRecDepth 100000 in
set_option maxHeartbeats 3200000 in
theorem shifted_any (n : Nat) (ys : List Int) (u : Int) (a : Option Addr) (p : Nat) (w : World) (hu : Unit1 u) (hn : n ≤ 13) (hy : ∀ j, j < n → Abs 1000000000000 (ys.getD j 0)) (hr : Reads w a n ys) :
    Calls Try.prog 105 #[.slice a n p, .int .i64 u] w fun e w' => ∃ g p, e = .returned (.slice (some ⟨g, 0, none⟩) n p) ∧ Own w' w.heap.size (.slice (some ⟨g, 0, none⟩) n p) (shfL n ys u) ∧ Below w.heap.size w w' := by
  have hmk : ∀ w, (Instr.makeSlice 25 (.int .i64 (n : Int)) (.int .i64 (n : Int))).run Try.prog w = .ok (.slice (some ⟨w.heap.size, 0, none⟩) n n) (w.alloc (.cells (madeCells #[.int .i64 0] n) 3)) := by
    intro w
    exact run_make_row' (P := Try.prog) 25 3 (.int .i64 0) 8 Try.underlying25 Try.infoI rfl .i64 .i64 n (by omega) (by omega) w
  have L0 := (Law.start w).own (below_new _) (own_made w n _ w.heap.size rfl (Nat.le_refl _) (by omega))
  rw [upI_zero n (fun k => sumT (shT ys u k) n)] at L0
  have HS := Lib.hid (fun k (hk : k < n) W (h : Reads W a n ys) => overS_any ys u k n a p W hu (by omega) hn hy h)
  unfold shfL
  obtain ⟨G, hG⟩ : ∃ G : Nat → Int, G = fun k => sumT (shT ys u k) n := ⟨_, rfl⟩
  rw [← hG] at L0 ⊢
  have HGE := Lib.hid hG
  have HR := Lib.hid hr
  have HL := Lib.hid L0
  have hn13 : (n : Int) ≤ 13 := by omega
  clear L0 hr hy hu hG
  go_enter Try.func105, Try.ntmps105
  go_upto_region 2 with fail
  generalize w.alloc (.cells (madeCells #[.int .i64 0] n) 3) = w5 at *
  obtain ⟨g, hgg⟩ : ∃ g, g = w.heap.size := ⟨_, rfl⟩
  rw [← hgg] at HL ⊢
  have HGG := Lib.hid hgg
  clear hmk hgg
  go_wp2_with fail
  go_loopw [12] (fun i wr => ∃ k : Nat, k ≤ n ∧ i = .int .i64 k ∧ Law w [tOwn (.slice (some ⟨g, 0, none⟩) n n) (lstH n (upI G k))] wr) (fun i _ => n - (intOf i).toNat)
  case atStart => exact ⟨0, Nat.zero_le _, rfl, HL.out⟩
  case round =>
    clear HL
    obtain ⟨k, hk, rfl, L⟩ := hrel
    by_cases hlt : k < n
    · have HC := Lib.hid (HS.out k hlt wr (L.reads HR.out))
      rw [show sumT (shT ys u k) n = G k by rw [HGE.out]] at HC
      have HL := Lib.hid L
      clear L
      go_wp2_with fail
      refine HC.out.mono ?_
      rintro e w2 ⟨rfl, hb⟩
      have L2 := HL.out.kept hb
      have hO := L2.ownInts
      have y1 := Own.cell (by rw [lstH_len]; exact hO) k (by rw [lstH_len]; exact hlt)
      have y2 := Own.free (by rw [lstH_len]; exact hO) k
      have hS := Law.store (ts := []) L2 (lstH_len _ _) k (G k)
      rw [upI_set] at hS
      have HS2 := Lib.hid (show Law w [tOwn (.slice (some ⟨g, 0, none⟩) n n) (lstH n (upI G (k + 1)))] (w2.setCell ⟨g, k, none⟩ (.int .i64 (G k))) from hS)
      clear hS hO L2 HL hb HC
      go_wp2_with fail
      go_roundw
      case rel => exact ⟨k + 1, by omega, by go_num, HS2.out⟩
      case measure => simp [intOf]; omega
    · obtain rfl : k = n := by omega
      rw [upI_full] at L
      have HL := Lib.hid L
      clear L
      go_wp2_with fail
      go_ret
      exact ⟨_, _, rfl, HL.out.ownLo, HL.out.below⟩
end Go.Proofs.Ytaipcmplpjkebaa
