/- Numbers of the staircase: both texts. No condition. -/
import Derived.Test.YthkghbnmdebhpabFz
import Derived.Test.YthkghbnmdebhpabAp
namespace Go.Proofs.Ythkghbnmdebhpab
open Go.RowKit Go.WideShapes

def stM (k q : Nat) : Int := if q < k then (q : Int) else 0

set_option maxRecDepth 100000 in
set_option maxHeartbeats 1600000 in
theorem specStair_any (n : Int) (w : World) :
    Calls Try.prog 21 #[.int .i64 n] w fun e w' => AnsL (stairR n) w e w' := by
  cases hg : inB 1 n 6
  · rw [show stairR n = ⟨[], false⟩ by simp [stairR, hg]]
    have HC := Lib.hid (at_bool (boSide_any n) hg)
    clear hg
    go_enter Try.func21, Try.ntmps21
    go_wp2_with fail
    refine (HC.out _).mono ?_
    rintro e w2 ⟨rfl, hww⟩
    subst w2
    go_wp2_with fail
    go_ret2
    exact ⟨_, rfl, Own.nil _ _, Below.refl _ _⟩
  · have hb := inB_iff.1 hg
    obtain ⟨m, rfl⟩ := Int.eq_ofNat_of_zero_le (show 0 ≤ n by omega)
    rw [show stairR (m : Int) = ⟨numLen (stairL m), true⟩ by simp [stairR, hg]]
    have HC := Lib.hid (at_bool (boSide_any m) hg)
    have hm : m ≤ 6 := by omega
    have HF := Lib.hid (fun (a : Option Addr) (p : Nat) (W : World) (h : Reads W a (stairL m).length (stairL m)) => feNumbers_any a p (stairL m) W (by rw [stairL_len]; exact hm) (stairL_bd m hm) h)
    clear hg hb
    go_enter Try.func21, Try.ntmps21
    go_wp2_with fail
    refine (HC.out _).mono ?_
    rintro e w2 ⟨rfl, hww⟩
    subst w2
    go_wp2_with fail
    go_loopw [4, 5] (fun o i wr => ∃ k : Nat, k ≤ m ∧ i = .int .i64 k ∧ Law w [tOwn o (stairL k)] wr) (fun _ i _ => m - (intOf i).toNat)
    case atStart => exact ⟨0, Nat.zero_le _, rfl, by simpa [stairL] using (Law.start w).own (Below.refl _ _) (Own.nil w _)⟩
    case round =>
      obtain ⟨k, hk, rfl, L⟩ := hrel
      obtain ⟨wo, rfl⟩ : ∃ wo : World, wo = wr := ⟨_, rfl⟩
      by_cases hlt : k < m
      · have L2 := L.kept (below_new (.cells #[.int .i64 (k : Int)] 3))
        have HL2 := Lib.hid L2
        have HX := Lib.hid (show (wo.alloc (.cells #[.int .i64 (k : Int)] 3)).cell? ⟨wo.heap.size, 0, none⟩ = some (.int .i64 (k : Int)) by rw [World.cell?_alloc_at _ _ _ _ rfl]; rfl)
        clear L L2
        go_wp2_with (at_builtin; refine wp_appendI rfl _ _ rfl (k : Int) HL2.out wo.heap.size rfl rfl HX.out (by rw [stairL_len]; omega) (stairL (k + 1)) (stairL_snoc k) ?_)
        intro g1 cap1 w3 L3
        have HL3 := Lib.hid L3
        clear L3 HL2 HX
        go_wp2_with fail
        go_roundw
        case rel => exact ⟨k + 1, by omega, by go_num, HL3.out⟩
        case measure => simp [intOf]; omega
      · obtain rfl : k = m := by omega
        obtain ⟨a, p, rfl, hr⟩ := L.ownInts.reads
        have hc := HF.out a p wo hr
        have HL := Lib.hid L
        have HC2 := Lib.hid hc
        clear L hr hc hlt
        go_wp2_with fail
        refine HC2.out.mono ?_
        rintro e w3 ⟨v, rfl, hO, hb3⟩
        have HL3 := Lib.hid (HL.out.own hb3 hO)
        clear hO hb3 HL
        go_wp2_with fail
        go_ret2
        exact ⟨_, rfl, HL3.out.ownLo, HL3.out.below⟩

set_option maxRecDepth 100000 in
set_option maxHeartbeats 1600000 in
theorem implStair_any (n : Int) (w : World) :
    Calls Try.prog 22 #[.int .i64 n] w fun e w' => AnsL (stairR n) w e w' := by
  cases hg : inB 1 n 6
  · rw [show stairR n = ⟨[], false⟩ by simp [stairR, hg]]
    have HC := Lib.hid (at_bool (isSide_any n) hg)
    clear hg
    go_enter Try.func22, Try.ntmps22
    go_wp2_with fail
    refine (HC.out _).mono ?_
    rintro e w2 ⟨rfl, hww⟩
    subst w2
    go_wp2_with fail
    go_ret2
    exact ⟨_, rfl, Own.nil _ _, Below.refl _ _⟩
  · have hb := inB_iff.1 hg
    obtain ⟨m, rfl⟩ := Int.eq_ofNat_of_zero_le (show 0 ≤ n by omega)
    rw [show stairR (m : Int) = ⟨numLen (stairL m), true⟩ by simp [stairR, hg]]
    have HC := Lib.hid (at_bool (isSide_any m) hg)
    have hm : m ≤ 6 := by omega
    have hf := fun W => rookNumbers3_any (stairL m) (stM m) W (by rw [stairL_len]; exact hm) (stairL_bd m hm) (stairL_sort m) (fun k hk => by
      unfold stM
      by_cases h : k < m
      · rw [if_pos h, stairL_get m k h]
      · rw [if_neg h, List.getD_eq_getElem?_getD, List.getElem?_eq_none (by rw [stairL_len]; omega)]; rfl)
    rw [stairL_len] at hf
    have HF := Lib.hid hf
    have L0 := (Law.start w).has (sl m (stM 0)) 64
    rw [show w.alloc (.cells (sl m (stM 0)).toArray 64) = w.alloc (.cells #[.int .i64 m, .int .i64 0, .int .i64 0, .int .i64 0, .int .i64 0, .int .i64 0, .int .i64 0] 64) from rfl] at L0
    have HL0 := Lib.hid L0
    clear hg hb hf L0
    go_enter Try.func22, Try.ntmps22
    go_wp2_with fail
    refine (HC.out _).mono ?_
    rintro e w2 ⟨rfl, hww⟩
    subst w2
    go_wp2_with fail
    go_loopw [12] (fun i wr => ∃ k : Nat, k ≤ m ∧ i = .int .i64 k ∧ Law w [tHas w.heap.size (sl m (stM k)) 64] wr) (fun i _ => m - (intOf i).toNat)
    case atStart => exact ⟨0, Nat.zero_le _, rfl, HL0.out⟩
    case round =>
      clear HL0
      obtain ⟨k, hk, rfl, L⟩ := hrel
      by_cases hlt : k < m
      · have hcx := L.ownHas.cell (1 + k)
        rw [sl_get _ _ k (by omega)] at hcx
        have hfr := L.ownHas.free (1 + k)
        have hS := Law.setHas (ts := []) L (1 + k) (.int .i64 (k : Int))
        rw [sl_set _ _ (stM (k + 1)) k (by omega) (k : Int) (by unfold stM; rw [if_pos (by omega)]) (fun q hq => by
          unfold stM
          by_cases h : q < k
          · rw [if_pos h, if_pos (by omega)]
          · rw [if_neg h, if_neg (by omega)])] at hS
        have HS := Lib.hid hS
        generalize stM k k = z at *
        clear L hS
        go_wp2_with fail
        go_roundw
        case rel => exact ⟨k + 1, by omega, by go_num, HS.out⟩
        case measure => simp [intOf]; omega
      · obtain rfl : k = m := by omega
        obtain ⟨e0, e1, e2, e3, e4, e5, e6, _⟩ := L.ownHas.seven
        have HL := Lib.hid L
        clear L hlt
        generalize stM k = M at *
        go_wp2_with fail
        refine (HF.out _).mono ?_
        rintro e w3 ⟨v, rfl, hO, hb3⟩
        have HL3 := Lib.hid (HL.out.own hb3 hO)
        clear hO hb3 HL
        go_wp2_with fail
        go_ret2
        exact ⟨_, rfl, HL3.out.ownLo, HL3.out.below⟩

end Go.Proofs.Ythkghbnmdebhpab
