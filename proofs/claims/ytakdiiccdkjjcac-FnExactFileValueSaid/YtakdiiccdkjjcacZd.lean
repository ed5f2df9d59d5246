/- File numbers, in the program. No condition but the sizes. -/
import Derived.Test.YtakdiiccdkjjcacHt
import Derived.Test.YtakdiiccdkjjcacI
namespace Go.Proofs.Ytakdiiccdkjjcac
open Go.RowKit Go.WideShapes

/-- How many file placements have k rooks in the first columns. -/
def filF (c : Nat → Int) : Nat → Nat → Int
  | 0, k => if k = 0 then 1 else 0
  | m + 1, k => filF c m k + (if k = 0 then 0 else filF c m (k - 1) * c m)
theorem filF_zero (c : Nat → Int) (m : Nat) : filF c m 0 = 1 := by
  induction m with
  | zero => rfl
  | succ m ih => rw [filF, ih]; rfl
theorem filF_next (c : Nat → Int) (m k : Nat) : filF c (m + 1) (k + 1) = filF c m (k + 1) + filF c m k * c m := by
  rw [filF, if_neg (by omega), Nat.add_sub_cancel]
theorem filF_out (c : Nat → Int) (m : Nat) : ∀ k, m < k → filF c m k = 0 := by
  induction m with
  | zero => intro k hk; rw [filF, if_neg (by omega)]
  | succ m ih =>
    intro k hk
    obtain ⟨j, rfl⟩ : ∃ j, k = j + 1 := ⟨k - 1, by omega⟩
    rw [filF_next, ih _ (by omega), ih _ (by omega), Int.zero_mul, Int.add_zero]
theorem filF_bd (c : Nat → Int) (hc : ∀ i, 0 ≤ c i ∧ c i ≤ 11) (m : Nat) : ∀ k, 0 ≤ filF c m k ∧ filF c m k ≤ (12 : Int) ^ m := by
  induction m with
  | zero => intro k; rw [filF]; split <;> simp
  | succ m ih =>
    intro k
    obtain ⟨h1, h2⟩ := ih k
    have hp : (12 : Int) ^ (m + 1) = 12 ^ m * 12 := Int.pow_succ _ _
    by_cases e : k = 0
    · subst e
      rw [filF_zero] at *
      rw [hp]
      omega
    · obtain ⟨j, rfl⟩ : ∃ j, k = j + 1 := ⟨k - 1, by omega⟩
      obtain ⟨h3, h4⟩ := ih j
      obtain ⟨c1, c2⟩ := hc m
      rw [filF_next, hp]
      have h5 : 0 ≤ filF c m j * c m := Int.mul_nonneg h3 c1
      have h6 : filF c m j * c m ≤ 12 ^ m * 11 := Int.mul_le_mul h4 c2 c1 (Int.le_trans h3 h4)
      omega
theorem filF_small (c : Nat → Int) (hc : ∀ i, 0 ≤ c i ∧ c i ≤ 11) (m : Nat) (hm : m ≤ 11) (k : Nat) : 0 ≤ filF c m k ∧ filF c m k ≤ 743008370688 := by
  obtain ⟨h1, h2⟩ := filF_bd c hc m k
  have h3 : (12 : Int) ^ m ≤ 12 ^ 11 := by
    have key : ∀ m : Fin 12, (12 : Int) ^ (m : Nat) ≤ 12 ^ 11 := by decide +kernel
    exact key ⟨m, by omega⟩
  have h4 : (12 : Int) ^ 11 = 743008370688 := by decide +kernel
  omega
/-- The numbers while column m is counted: those above j are told anew. -/
def midF (c : Nat → Int) (m j i : Nat) : Int := if j < i then filF c (m + 1) i else filF c m i
theorem midF_start (c : Nat → Int) (L m : Nat) : lstH L (midF c m (m + 1)) = lstH L (filF c m) := lstH_congr L _ _ (fun i _ => by
  unfold midF
  by_cases h : m + 1 < i
  · rw [if_pos h, filF_out c (m + 1) i h, filF_out c m i (by omega)]
  · rw [if_neg h])
theorem midF_end (c : Nat → Int) (L m : Nat) : lstH L (midF c m 0) = lstH L (filF c (m + 1)) := lstH_congr L _ _ (fun i _ => by
  unfold midF
  by_cases h : 0 < i
  · rw [if_pos h]
  · obtain rfl : i = 0 := by omega
    rw [if_neg h, filF_zero, filF_zero])
theorem midF_set (c : Nat → Int) (L m j : Nat) : (lstH L (midF c m (j + 1))).set (j + 1) (filF c m (j + 1) + filF c m j * c m) = lstH L (midF c m j) :=
  lstH_set L _ _ (j + 1) _ (by unfold midF; rw [if_pos (by omega), filF_next]) (fun i _ hi => by
    unfold midF
    by_cases h : j + 1 < i
    · rw [if_pos h, if_pos (by omega)]
    · rw [if_neg h, if_neg (by omega)])
theorem filF_first (c : Nat → Int) (L : Nat) : (List.replicate L (0 : Int)).set 0 1 = lstH L (filF c 0) := by
  rw [lstH_zero]
  exact lstH_set L _ _ 0 _ rfl (fun i _ hi => by rw [filF, if_neg hi])

set_option maxRecDepth 100000 in
set_option maxHeartbeats 6400000 in
theorem fileNumbers_any (L : Nat) (cs : List Int) (a : Option Addr) (p : Nat) (w : World) (hl : cs.length = L) (hL : L ≤ 11) (hc : ∀ i, 0 ≤ cs.getD i 0 ∧ cs.getD i 0 ≤ 11) (hr : Reads w a L cs) :
    Calls Try.prog 70 #[.slice a L p] w fun e w' => ∃ g, e = .returned (.slice (some ⟨g, 0, none⟩) (L + 1) (L + 1)) ∧ Own w' w.heap.size (.slice (some ⟨g, 0, none⟩) (L + 1) (L + 1)) (lstH (L + 1) (filF (fun i => cs.getD i 0) L)) ∧ Below w.heap.size w w' := by
  have hmk : ∀ w, (Instr.makeSlice 22 (.int .i64 ((L + 1 : Nat) : Int)) (.int .i64 ((L + 1 : Nat) : Int))).run Try.prog w = .ok (.slice (some ⟨w.heap.size, 0, none⟩) (L + 1) (L + 1)) (w.alloc (.cells (madeCells #[.int .i64 0] (L + 1)) 3)) := by
    intro w
    exact run_make_row' (P := Try.prog) 22 3 (.int .i64 0) 8 Try.underlying22 Try.infoI rfl .i64 .i64 (L + 1) (by omega) (by omega) w
  have L0 := (Law.start w).own (below_new _) (own_made w (L + 1) _ w.heap.size rfl (Nat.le_refl _) (by omega))
  have o := L0.ownInts
  have y1 := Own.cell (by rw [List.length_replicate]; exact o) 0 (by rw [List.length_replicate]; omega)
  have y2 := Own.free (by rw [List.length_replicate]; exact o) 0
  rw [show (List.replicate (L + 1) (0 : Int)).getD 0 0 = 0 from rfl] at y1
  have hS := Law.store (ts := []) L0 (by simp) 0 1
  obtain ⟨c, hcc⟩ : ∃ c : Nat → Int, c = fun i => cs.getD i 0 := ⟨_, rfl⟩
  rw [filF_first c (L + 1)] at hS
  have HS := Lib.hid (show Law w [tOwn (.slice (some ⟨w.heap.size, 0, none⟩) (L + 1) (L + 1)) (lstH (L + 1) (filF c 0))] _ from hS)
  rw [← hcc]
  have HSM := Lib.hid (fun m (hm : m ≤ 11) k => filF_small c (by rw [hcc]; exact hc) m hm k)
  have HCB := Lib.hid (fun i => show 0 ≤ c i ∧ c i ≤ 11 by rw [hcc]; exact hc i)
  have HCE := Lib.hid (fun i => show cs.getD i 0 = c i by rw [hcc])
  have HR := Lib.hid hr
  have hc1 : ((L + 1 : Nat) : Int) = (L : Int) + 1 := by omega
  have hLI : (L : Int) ≤ 11 := by omega
  have HLL := Lib.hid hl
  rw [hc1] at hmk
  clear L0 o hS hcc hc hr hc1 hl
  go_enter Try.func70, Try.ntmps70
  go_upto_region 2 with fail
  generalize w.alloc (.cells (madeCells #[.int .i64 0] (L + 1)) 3) = w5 at *
  obtain ⟨g, hgg⟩ : ∃ g, g = w.heap.size := ⟨_, rfl⟩
  rw [← hgg] at HS y1 y2 ⊢
  have HGG := Lib.hid hgg
  clear hmk hgg
  go_wp2_with fail
  go_loopw [15] (fun i wr => ∃ m : Nat, m ≤ L ∧ i = .int .i64 m ∧ Law w [tOwn (.slice (some ⟨g, 0, none⟩) (L + 1) (L + 1)) (lstH (L + 1) (filF c m))] wr) (fun i _ => L - (intOf i).toNat)
  case atStart => exact ⟨0, Nat.zero_le _, rfl, HS.out⟩
  case round =>
    clear HS y1 y2
    obtain ⟨m, hm, rfl, L0⟩ := hrel
    by_cases hlt : m < L
    · have hr1 := L0.reads HR.out
      obtain ⟨b, off, rfl, hb, hcell⟩ := reads_row hr1 (by omega)
      have hck := hcell m hlt
      rw [HCE.out m] at hck
      rw [← midF_start c (L + 1) m] at L0
      have hcb := HCB.out m
      obtain ⟨cm, hcm⟩ : ∃ cm, cm = c m := ⟨_, rfl⟩
      have HCM := Lib.hid hcm
      rw [← hcm] at hck hcb
      have HL := Lib.hid L0
      have hmL : (m : Int) < L := by omega
      clear L0 hr1 hb hcell hcm
      go_upto_region 7 with fail
      go_loopw [6] (fun i wr => ∃ j : Nat, j ≤ m + 1 ∧ ∃ x : Int, i = .int .i64 x ∧ Hid (x = (j : Int) - 1) ∧ Law w [tOwn (.slice (some ⟨g, 0, none⟩) (L + 1) (L + 1)) (lstH (L + 1) (midF c m j))] wr) (fun i _ => (intOf i + 1).toNat)
      case atStart => exact ⟨m + 1, Nat.le_refl _, _, rfl, Lib.hid (by omega), HL.out⟩
      case round =>
        clear HL
        obtain ⟨j, hj, x, rfl, HX, L1⟩ := hrel
        by_cases hj0 : 0 < j
        · obtain ⟨k, rfl⟩ : ∃ k, j = k + 1 := ⟨j - 1, by omega⟩
          have hxk : x = (k : Int) := by have := HX.out; omega
          subst hxk
          have o := L1.ownInts
          have y1 := Own.cell (by rw [lstH_len]; exact o) (k + 1) (by rw [lstH_len]; omega)
          have y2 := Own.free (by rw [lstH_len]; exact o) (k + 1)
          have z1 := Own.cell (by rw [lstH_len]; exact o) k (by rw [lstH_len]; omega)
          rw [lstH_get (L + 1) _ _ (by omega), show midF c m (k + 1) (k + 1) = filF c m (k + 1) by simp [midF]] at y1
          rw [lstH_get (L + 1) _ _ (by omega), show midF c m (k + 1) k = filF c m k by unfold midF; rw [if_neg (by omega)]] at z1
          have hS := Law.store (ts := []) L1 (lstH_len _ _) (k + 1) (filF c m (k + 1) + filF c m k * c m)
          rw [midF_set] at hS
          rw [← HCM.out] at hS
          have b1 := HSM.out m (by omega) (k + 1)
          have b2 := HSM.out m (by omega) k
          generalize filF c m (k + 1) = v1 at *
          generalize filF c m k = v2 at *
          have b3 : 0 ≤ v2 * cm := Int.mul_nonneg b2.1 hcb.1
          have b4 : v2 * cm ≤ 743008370688 * 11 := Int.mul_le_mul b2.2 hcb.2 hcb.1 (by decide)
          obtain ⟨q, hq⟩ : ∃ q, q = v2 * cm := ⟨_, rfl⟩
          rw [← hq] at b3 b4 hS
          have hq1 : wrap64 (v2 * cm) = q := by rw [← hq]; exact IntWalk.wrap64_in _ (by omega)
          have hq2 : IntKind.i64.wrap (v2 * cm) = q := by rw [← hq]; exact IntWalk.i64_in _ (by omega)
          have HQ3 := Lib.hid (show wrap64 (v1 + q) = v1 + q from IntWalk.wrap64_in _ (by omega))
          have hq4 : IntKind.i64.wrap (v1 + q) = v1 + q := IntWalk.i64_in _ (by omega)
          have HS := Lib.hid (show Law w [tOwn (.slice (some ⟨g, 0, none⟩) (L + 1) (L + 1)) (lstH (L + 1) (midF c m k))] _ from hS)
          have k0 : (0 : Int) ≤ k := by omega
          have k1 : (k : Int) + 1 < (L : Int) + 1 := by omega
          have k2 : (k : Int) < (L : Int) + 1 := by omega
          have k3 : IntKind.i64.wrap ((k : Int) + 1) = (k : Int) + 1 := IntWalk.i64_in _ (by omega)
          clear L1 o hS hq b1 b2 b3 b4 hj0 HX hcb
          go_wp2_with fail
          go_region
          go_wp2_with fail
          go_roundw
          case rel => exact ⟨k, by omega, _, rfl, Lib.hid (by omega), HS.out.drew⟩
          case measure => simp [intOf]
        · have hj1 : j = 0 := by omega
          subst hj1
          have hxk : x = -1 := by have := HX.out; omega
          subst hxk
          rw [midF_end] at L1
          have HL := Lib.hid L1
          clear L1 HX hj0
          go_wp2_with fail
          go_roundw
          case rel => exact ⟨m + 1, by omega, by go_num, HL.out⟩
          case measure => simp [intOf]; omega
    · obtain rfl : m = L := by omega
      have HL := Lib.hid L0
      clear L0
      go_wp2_with fail
      go_ret
      exact ⟨_, rfl, HL.out.ownLo, HL.out.below⟩
end Go.Proofs.Ytakdiiccdkjjcac
