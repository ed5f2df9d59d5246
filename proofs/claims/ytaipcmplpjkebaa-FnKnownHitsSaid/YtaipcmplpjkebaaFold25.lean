import Derived.Test.YtaipcmplpjkebaaFold10
import Derived.Deep.RegionHeld3
import Derived.Deep.RegionWith
namespace Go.Proofs.Ytaipcmplpjkebaa
open Go.RowKit Go.WideShapes

/-- Rook numbers, each with the orders of what is left. -/
def exfL (n : Nat) (ys : List Int) : List Int := lstH n (fun k => ys.getD k 0 * fct (n - 1 - k))
/-- Hit numbers. -/
def hfrL (n : Nat) (ys : List Int) : List Int := shfL n (exfL n ys) (-1)
set_option maxRecDepth 100000 in
set_option maxHeartbeats 3200000 in
theorem hitsFromRooks_any (n : Nat) (ys : List Int) (a : Option Addr) (p : Nat) (w : World) (hn0 : 0 < n) (hn : n ≤ 13) (hy : ∀ j, j < n → Abs 1000000000000 (ys.getD j 0 * fct (n - 1 - j))) (hr : Reads w a n ys) :
    Calls Try.prog 68 #[.slice a n p] w fun e w' => ∃ g p, e = .returned (.slice (some ⟨g, 0, none⟩) n p) ∧ Own w' w.heap.size (.slice (some ⟨g, 0, none⟩) n p) (hfrL n ys) ∧ Below w.heap.size w w' := by
  have hmk : ∀ w, (Instr.makeSlice 25 (.int .i64 (n : Int)) (.int .i64 (n : Int))).run Try.prog w = .ok (.slice (some ⟨w.heap.size, 0, none⟩) n n) (w.alloc (.cells (madeCells #[.int .i64 0] n) 3)) := by
    intro w
    exact run_make_row' (P := Try.prog) 25 3 (.int .i64 0) 8 Try.underlying25 Try.infoI rfl .i64 .i64 n (by omega) (by omega) w
  have L0 := (Law.start w).own (below_new _) (own_made w n _ w.heap.size rfl (Nat.le_refl _) (by omega))
  rw [upI_zero n (fun k => ys.getD k 0 * fct (n - 1 - k))] at L0
  have HSH := Lib.hid (fun g p W (h : Reads W (some ⟨g, 0, none⟩) n (exfL n ys)) => shifted_any n (exfL n ys) (-1) (some ⟨g, 0, none⟩) p W (.inr rfl) hn (fun j hj => by unfold exfL; rw [lstH_get n _ j hj]; exact hy j hj) h)
  have HEX := Lib.hid (show exfL n ys = lstH n (fun k => ys.getD k 0 * fct (n - 1 - k)) from rfl)
  unfold hfrL
  obtain ⟨E, hE⟩ : ∃ E, E = exfL n ys := ⟨_, rfl⟩
  rw [← hE] at HSH HEX ⊢
  obtain ⟨G, hG⟩ : ∃ G : Nat → Int, G = fun k => ys.getD k 0 * fct (n - 1 - k) := ⟨_, rfl⟩
  rw [← hG] at L0 HEX
  have HGE := Lib.hid hG
  have HR := Lib.hid hr
  have HY := Lib.hid hy
  have HL := Lib.hid L0
  have hn13 : (n : Int) ≤ 13 := by omega
  have hs1 : IntKind.i64.wrap ((n : Int) - 1) = ((n - 1 : Nat) : Int) := by rw [show (n : Int) - 1 = ((n - 1 : Nat) : Int) by omega]; exact IntWalk.i64_in _ (by omega)
  have hs2 : wrap64 ((n : Int) - 1) = ((n - 1 : Nat) : Int) := by rw [show (n : Int) - 1 = ((n - 1 : Nat) : Int) by omega]; exact IntWalk.wrap64_in _ (by omega)
  clear L0 hr hy hG hE
  go_enter Try.func68, Try.ntmps68
  go_upto_region 3 with fail
  generalize w.alloc (.cells (madeCells #[.int .i64 0] n) 3) = w5 at *
  obtain ⟨g, hgg⟩ : ∃ g, g = w.heap.size := ⟨_, rfl⟩
  rw [← hgg] at HL ⊢
  have HGG := Lib.hid hgg
  clear hmk hgg hs1 hs2
  go_wp2_with fail
  go_loopw [15] (fun i wr => ∃ k : Nat, k ≤ n ∧ i = .int .i64 k ∧ Law w [tOwn (.slice (some ⟨g, 0, none⟩) n n) (lstH n (upI G k))] wr) (fun i _ => n - (intOf i).toNat)
  case atStart => exact ⟨0, Nat.zero_le _, rfl, HL.out⟩
  case round =>
    clear HL
    obtain ⟨k, hk, rfl, L⟩ := hrel
    by_cases hlt : k < n
    · have HC := Lib.hid (factG_any (n - 1 - k) wr (by omega))
      obtain ⟨b1, o1, rfl, hb1, hc1⟩ := reads_row (L.reads HR.out) (by omega)
      have hck := hc1 k hlt
      have hty := HY.out k hlt
      have hGk : G k = ys.getD k 0 * fct (n - 1 - k) := by rw [HGE.out]
      have hsb : IntKind.i64.wrap (((n - 1 : Nat) : Int) - k) = ((n - 1 - k : Nat) : Int) := by rw [show ((n - 1 : Nat) : Int) - k = ((n - 1 - k : Nat) : Int) by omega]; exact IntWalk.i64_in _ (by omega)
      have hml : IntKind.i64.wrap (ys.getD k 0 * fct (n - 1 - k)) = ys.getD k 0 * fct (n - 1 - k) := by unfold Abs at hty; exact IntWalk.i64_in _ (by omega)
      have hO := L.ownInts
      have y1 := Own.cell (by rw [lstH_len]; exact hO) k (by rw [lstH_len]; exact hlt)
      have y2 := Own.free (by rw [lstH_len]; exact hO) k
      have hS := Law.store (ts := []) L (lstH_len _ _) k (G k)
      rw [upI_set, hGk] at hS
      generalize fct (n - 1 - k) = v at *
      generalize ys.getD k 0 = y at *
      have HS2 := Lib.hid (show Law w [tOwn (.slice (some ⟨g, 0, none⟩) n n) (lstH n (upI G (k + 1)))] (wr.setCell ⟨g, k, none⟩ (.int .i64 (y * v))) from hS)
      have hk0 : (0 : Int) ≤ k := by omega
      have hk1 : (k : Int) < n := by omega
      clear hS hO L hty hGk hc1 hb1
      go_wp2_with fail
      refine HC.out.mono ?_
      rintro e w2 ⟨rfl, rfl⟩
      go_wp2_with fail
      go_roundw
      case rel => exact ⟨k + 1, by omega, by go_num, HS2.out⟩
      case measure => simp [intOf]; omega
    · obtain rfl : k = n := by omega
      rw [upI_full, ← HEX.out] at L
      obtain ⟨lo, hO⟩ : ∃ lo, Own wr lo (.slice (some ⟨g, 0, none⟩) k k) E := ⟨_, L.ownInts⟩
      have HRD := Lib.hid (show Reads wr (some ⟨g, 0, none⟩) k E from by
        have h := hO.reads
        obtain ⟨a, c, e, h⟩ := h
        have hl : E.length = k := by rw [HEX.out]; exact lstH_len _ _
        rw [hl] at e h
        cases e
        exact h)
      have HL := Lib.hid L
      clear L hO
      go_wp2_with fail
      refine (HSH.out _ _ _ HRD.out).mono ?_
      rintro e w2 ⟨g2, p2, rfl, hO2, hb⟩
      have HL2 := Lib.hid (HL.out.own hb hO2)
      clear hO2 hb HL
      go_wp2_with fail
      go_ret
      exact ⟨_, _, rfl, HL2.out.ownLo, HL2.out.below⟩

/-- Are all numbers whole behind the division? -/
def wholeF (n : Nat) (Z : Nat → Int) : Bool := (List.range n).all (fun k => (Z k).tmod (fct (n - 1 - k)) == 0)
/-- .. divided. -/
def quoF (n : Nat) (Z : Nat → Int) (k : Nat) : Int := (Z k).tdiv (fct (n - 1 - k))
/-- The first k are divided. -/
def quoV (n : Nat) (Z : Nat → Int) (k i : Nat) : Int := if i < k then quoF n Z i else Z i
theorem quoV_zero (n : Nat) (Z : Nat → Int) : lstH n (quoV n Z 0) = lstH n Z := lstH_congr n _ _ (fun k _ => by simp [quoV])
theorem quoV_full (n : Nat) (Z : Nat → Int) : lstH n (quoV n Z n) = lstH n (quoF n Z) := lstH_congr n _ _ (fun k hk => by simp [quoV, hk])
theorem quoV_set (n : Nat) (Z : Nat → Int) (k : Nat) : (lstH n (quoV n Z k)).set k (quoF n Z k) = lstH n (quoV n Z (k + 1)) :=
  lstH_set n _ _ k _ (by simp [quoV]) (fun i _ hi => by
    unfold quoV
    by_cases h : i < k
    · rw [if_pos h, if_pos (by omega)]
    · rw [if_neg h, if_neg (by omega)])
theorem whole_yes (n : Nat) (Z : Nat → Int) (h : ∀ k, k < n → (Z k).tmod (fct (n - 1 - k)) = 0) : wholeF n Z = true :=
  List.all_eq_true.2 (fun k hk => by rw [beq_iff_eq]; exact h k (List.mem_range.1 hk))
theorem whole_no (n : Nat) (Z : Nat → Int) (k : Nat) (hk : k < n) (h : (Z k).tmod (fct (n - 1 - k)) ≠ 0) : wholeF n Z = false := by
  cases e : wholeF n Z
  · rfl
  · have := List.all_eq_true.1 e k (List.mem_range.2 hk)
    rw [beq_iff_eq] at this
    exact absurd this h
/-- Rook numbers off hit numbers. -/
def rfhR (n : Nat) (ys : List Int) : LR := if wholeF n (fun k => sumT (shT ys 1 k) n) then ⟨lstH n (quoF n (fun k => sumT (shT ys 1 k) n)), true⟩ else ⟨[], false⟩

set_option maxRecDepth 100000 in
set_option maxHeartbeats 6400000 in
theorem rooksFromHits_any (n : Nat) (ys : List Int) (a : Option Addr) (p : Nat) (w : World) (hn0 : 0 < n) (hn : n ≤ 13) (hy : ∀ j, j < n → Abs 1000000000000 (ys.getD j 0)) (hr : Reads w a n ys) :
    Calls Try.prog 97 #[.slice a n p] w fun e w' => AnsL (rfhR n ys) w e w' := by
  have HSH := Lib.hid (shifted_any n ys 1 a p w (.inl rfl) hn hy hr)
  have hzb : ∀ k, k < n → Abs 12012000000000000 (sumT (shT ys 1 k) n) := fun k hk => shS_abs ys 1 (.inl rfl) k n (by omega) hn hy
  unfold rfhR
  unfold shfL at HSH
  obtain ⟨Z, hZ⟩ : ∃ Z : Nat → Int, Z = fun k => sumT (shT ys 1 k) n := ⟨_, rfl⟩
  have hzb2 : ∀ k, k < n → Abs 12012000000000000 (Z k) := fun k hk => by rw [hZ]; exact hzb k hk
  rw [← hZ] at HSH ⊢
  have HZB := Lib.hid hzb2
  obtain ⟨R, hR⟩ : ∃ R : LR, R = if wholeF n Z then ⟨lstH n (quoF n Z), true⟩ else ⟨[], false⟩ := ⟨_, rfl⟩
  rw [← hR]
  have HRR := Lib.hid hR
  clear hR
  have hn13 : (n : Int) ≤ 13 := by omega
  have hs1 : IntKind.i64.wrap ((n : Int) - 1) = ((n - 1 : Nat) : Int) := by rw [show (n : Int) - 1 = ((n - 1 : Nat) : Int) by omega]; exact IntWalk.i64_in _ (by omega)
  have hs2 : wrap64 ((n : Int) - 1) = ((n - 1 : Nat) : Int) := by rw [show (n : Int) - 1 = ((n - 1 : Nat) : Int) by omega]; exact IntWalk.wrap64_in _ (by omega)
  clear hr hy hZ hzb hzb2
  go_enter Try.func97, Try.ntmps97
  go_wp2_with fail
  refine HSH.out.mono ?_
  rintro e w1 ⟨g, p1, rfl, hO, hb⟩
  have L0 := (Law.start w).own hb hO
  rw [← quoV_zero] at L0
  have HL := Lib.hid L0
  clear L0 hO hb HSH hs1 hs2
  go_wp2_with fail
  go_loopw [14] (fun i wr => ∃ k : Nat, k ≤ n ∧ i = .int .i64 k ∧ Hid (∀ i, i < k → (Z i).tmod (fct (n - 1 - i)) = 0) ∧ Law w [tOwn (.slice (some ⟨g, 0, none⟩) n p1) (lstH n (quoV n Z k))] wr) (fun i _ => n - (intOf i).toNat)
  case atStart => exact ⟨0, Nat.zero_le _, rfl, Lib.hid (fun i hi => by omega), HL.out⟩
  case round =>
    clear HL
    obtain ⟨k, hk, rfl, HW, L⟩ := hrel
    by_cases hlt : k < n
    · have HC := Lib.hid (fun W => factG_any (n - 1 - k) W (by omega))
      have hv := fctG_bd (n - 1 - k) (by omega)
      have hzk := HZB.out k hlt
      have hO := L.ownInts
      have y1 := Own.cell (by rw [lstH_len]; exact hO) k (by rw [lstH_len]; exact hlt)
      have y2 := Own.free (by rw [lstH_len]; exact hO) k
      rw [lstH_get n _ k hlt, show quoV n Z k k = Z k by simp [quoV]] at y1
      have hsb : IntKind.i64.wrap (((n - 1 : Nat) : Int) - k) = ((n - 1 - k : Nat) : Int) := by rw [show ((n - 1 : Nat) : Int) - k = ((n - 1 - k : Nat) : Int) by omega]; exact IntWalk.i64_in _ (by omega)
      have hvz : (fct (n - 1 - k) == 0) = false := by rw [beq_eq_false_iff_ne]; omega
      have hk0 : (0 : Int) ≤ k := by omega
      have hk1 : (k : Int) < n := by omega
      have HNX := Lib.hid (fun h => whole_no n Z k hlt h)
      have HQ := Lib.hid (show quoF n Z k = (Z k).tdiv (fct (n - 1 - k)) from rfl)
      have HWN := Lib.hid (show (Z k).tmod (fct (n - 1 - k)) = 0 → ∀ i, i < k + 1 → (Z i).tmod (fct (n - 1 - i)) = 0 from fun h i hi => by
        by_cases e : i = k
        · subst e; exact h
        · exact HW.out i (by omega))
      have hqs : IntKind.i64.wrap ((Z k).tdiv (fct (n - 1 - k))) = (Z k).tdiv (fct (n - 1 - k)) := by unfold Abs at hzk; exact IntWalk.i64_quo' _ _ (by omega)
      have HL := Lib.hid L
      clear L hO HW
      generalize fct (n - 1 - k) = v at *
      have HZK := Lib.hid (show ∃ z, z = Z k from ⟨_, rfl⟩)
      obtain ⟨z, hz⟩ := HZK.out
      rw [← hz] at y1 hzk HNX HQ HWN hqs
      clear HZK
      have HZ := Lib.hid hz
      clear hz
      by_cases hm : z.tmod v = 0
      · have hm1 : (z.tmod v != 0) = false := by simp [hm]
        have hm2 : (z.tmod v == 0) = true := by simp [hm]
        have HM := Lib.hid hm
        clear hm
        go_wp2_with fail
        go_quiet ((go_at_call 104; with_reducible exact Calls.quiet_of_same (HC.out _)))
        go_wp2_with fail
        have LW := HL.out.kept (below_drewN (Below.refl _ _) nq)
        generalize wr.drewN nq = W at *
        have hO := LW.drew.ownInts
        have y1 := Own.cell (by rw [lstH_len]; exact hO) k (by rw [lstH_len]; exact hlt)
        have y2 := Own.free (by rw [lstH_len]; exact hO) k
        rw [lstH_get n _ k hlt, show quoV n Z k k = Z k by simp [quoV], ← HZ.out] at y1
        have hS := Law.store (ts := []) LW.drew (lstH_len _ _) k (quoF n Z k)
        rw [quoV_set, HQ.out] at hS
        have HS2 := Lib.hid (show Law w [tOwn (.slice (some ⟨g, 0, none⟩) n p1) (lstH n (quoV n Z (k + 1)))] (W.drew.setCell ⟨g, k, none⟩ (.int .i64 (z.tdiv v))) from hS)
        clear hS hO LW HL hm1 hm2
        go_region_with ((go_at_call 104; ((with_reducible refine (HC.out _).mono ?_); rintro e wA ⟨rfl, rfl⟩)))
        all_goals
          go_wp2_with fail
          go_roundw
          case rel => exact ⟨k + 1, by omega, by go_num, Lib.hid (HWN.out HM.out), HS2.out⟩
          case measure => simp [intOf]; omega
      · have hm1 : (z.tmod v != 0) = true := by simp [hm]
        have HM := Lib.hid hm
        clear hm
        have HWF := Lib.hid (HNX.out HM.out)
        go_wp2_with fail
        go_quiet ((go_at_call 104; with_reducible exact Calls.quiet_of_same (HC.out _)))
        go_wp2_with fail
        go_ret2
        have e : R = ⟨[], false⟩ := by rw [HRR.out, HWF.out]; rfl
        rw [e]
        exact ⟨_, rfl, Own.nil _ _, below_drewN HL.out.below _⟩
    · obtain rfl : k = n := by omega
      rw [quoV_full] at L
      have HL := Lib.hid L
      have HWF := Lib.hid (whole_yes k Z HW.out)
      clear L HW
      go_wp2_with fail
      go_ret2
      have e : R = ⟨lstH k (quoF k Z), true⟩ := by rw [HRR.out, HWF.out]; rfl
      rw [e]
      exact ⟨_, rfl, HL.out.ownLo, HL.out.below⟩
end Go.Proofs.Ytaipcmplpjkebaa
