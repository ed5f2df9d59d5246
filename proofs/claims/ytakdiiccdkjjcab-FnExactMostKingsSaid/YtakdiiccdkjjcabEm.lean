/- King numbers of the sets apart from a set, in the program. No condition but the sizes. -/
import Derived.Test.YtakdiiccdkjjcabEk
import Derived.Test.YtakdiiccdkjjcabEv
namespace Go.Proofs.Ytakdiiccdkjjcab
open Go.RowKit Go.WideShapes

theorem near_bits (S : Nat) (h : S < 64) : bits .or .i64 (bits .or .i64 (S : Int) ((S : Int) * 2)) ((S : Int) / 2) = (nearN S : Nat) := by
  have key : ∀ S : Fin 64, bits .or .i64 (bits .or .i64 ((S.val : Nat) : Int) (((S.val : Nat) : Int) * 2)) (((S.val : Nat) : Int) / 2) = (nearN S : Nat) := by decide +kernel
  exact key ⟨S, h⟩
set_option maxRecDepth 100000 in
theorem apart_bits (T S : Nat) (hT : T < 64) (hS : S < 64) : (bits .and .i64 (T : Int) (nearN S : Nat) == 0) = apartB T S := by
  have key : ∀ T S : Fin 64, (bits .and .i64 ((T.val : Nat) : Int) (nearN S : Nat) == 0) = apartB T S := by decide +kernel
  exact key ⟨T, hT⟩ ⟨S, hS⟩
/-- The headers of the sets apart. -/
def apV (hd : Nat → Value) (S t : Nat) : List Value := ((List.range t).filter (fun T => apartB T S)).map hd
theorem apV_yes (hd : Nat → Value) (S t : Nat) (h : apartB t S = true) : apV hd S t ++ [hd t] = apV hd S (t + 1) := by
  unfold apV
  rw [List.range_succ, List.filter_append, List.map_append]
  simp [h]
theorem apV_no (hd : Nat → Value) (S t : Nat) (h : apartB t S = false) : apV hd S (t + 1) = apV hd S t := by
  unfold apV
  rw [List.range_succ, List.filter_append, List.map_append]
  simp [h]
theorem apV_len (hd : Nat → Value) (S t : Nat) : (apV hd S t).length ≤ t := by
  unfold apV
  rw [List.length_map]
  exact Nat.le_trans (List.length_filter_le _ _) (by simp)
theorem near_lt (S : Nat) (h : S < 64) : nearN S < 128 := by
  have key : ∀ S : Fin 64, nearN S < 128 := by decide +kernel
  exact key ⟨S, h⟩

set_option maxRecDepth 100000 in
set_option maxHeartbeats 6400000 in
theorem numbersApart_any (a : Option Addr) (c N S : Nat) (W0 : Nat → List Int) (w : World) (hN0 : 0 < N) (hN : N ≤ 64) (hS : S < 64) (hr : ReadsM w a N ((List.range N).map W0))
    (hl : (sumR (apL W0 S N)).length ≤ 1048576)
    (hb : ∀ k (h : k < (apL W0 S N).length) e, IntKind.i64.wrap ((sumR ((apL W0 S N).take k)).getD e 0 + (apL W0 S N)[k].getD e 0) = (sumR ((apL W0 S N).take k)).getD e 0 + (apL W0 S N)[k].getD e 0) :
    Calls Try.prog 111 #[.slice a N c, .int .i64 S] w fun e w' => ∃ v, e = .returned v ∧ Own w' w.heap.size v (sumR (apL W0 S N)) ∧ Below w.heap.size w w' := by
  have hlen : ((List.range N).map W0).length = N := by simp
  obtain ⟨b, off, a0, c0, ha, hb0, _, _⟩ := hr.row 0 (by omega)
  subst ha
  obtain ⟨hd, hhd⟩ : ∃ hd : Nat → Value, ∀ j, j < N → w.cell? ⟨b, off + j, none⟩ = some (hd j) ∧ ∃ aj cj, hd j = .slice aj (W0 j).length cj ∧ Reads w aj (W0 j).length (W0 j) := by
    refine ⟨fun j => (w.cell? ⟨b, off + j, none⟩).getD (.slice none 0 0), fun j hj => ?_⟩
    obtain ⟨b2, off2, aj, cj, e, _, h1, h2⟩ := hr.row j (by omega)
    injection e with e
    injection e with e1 e2
    subst e1
    subst e2
    simp only [List.getElem_map, List.getElem_range] at h1 h2
    refine ⟨?_, aj, cj, ?_, h2⟩
    · show _ = some ((w.cell? ⟨b, off + j, none⟩).getD _); rw [h1]; rfl
    · show (w.cell? ⟨b, off + j, none⟩).getD _ = _; rw [h1]; rfl
  have HD := Lib.hid hhd
  have HB := Lib.hid hb
  have HLE := Lib.hid hl
  have hnb := near_bits S hS
  have HNL := near_lt S hS
  have HAB := Lib.hid (fun T (hT : T < 64) => apart_bits T S hT hS)
  have HL0 := Lib.hid ((Law.start w).nilV)
  clear hr hhd hb hl
  go_enter Try.func111, Try.ntmps111
  go_upto_region 3 with fail
  clear hnb
  generalize hnn : nearN S = nn at *
  clear hnn
  go_wp2_with fail
  go_loopw [6, 7, 8, 18] (fun v _ _ i wr => ∃ t : Nat, t ≤ N ∧ i = .int .i64 t ∧ Law w [tV v (apV hd S t)] wr) (fun _ _ _ i _ => N - (intOf i).toNat)
  case atStart => exact ⟨0, Nat.zero_le _, rfl, HL0.out⟩
  case round =>
    clear HL0
    obtain ⟨t, ht, rfl, L⟩ := hrel
    by_cases hlt : t < N
    · obtain ⟨h0, aj, cj, hj, hrj⟩ := HD.out t hlt
      have h1 := (L.below.cell (p := ⟨b, off + t, none⟩) hb0).trans h0
      have hap := HAB.out t (by omega)
      cases hq : apartB t S
      · rw [hq] at hap
        have HN := Lib.hid (apV_no hd S t hq)
        have HL := Lib.hid L
        clear L hq h0 hrj
        go_wp2_with fail
        go_roundw
        case rel => exact ⟨t + 1, by omega, by go_num, by rw [HN.out]; exact HL.out⟩
        case measure => simp [intOf]; omega
      · rw [hq] at hap
        have HN := Lib.hid (apV_yes hd S t hq)
        have hln : (apV hd S t).length + 1 ≤ 1048576 := by have := apV_len hd S t; omega
        have HONE := Lib.hid (show (hd t).oneCell' = true by rw [hj]; rfl)
        have HL := Lib.hid (L.kept (below_new (.cells #[hd t] 22)))
        have HNEW := Lib.hid (show (wr.alloc (.cells #[hd t] 22)).cell? ⟨wr.heap.size, 0, none⟩ = some (hd t) by rw [World.cell?_alloc_at _ _ _ _ rfl]; rfl)
        rw [hj] at h1 HN HL HNEW HONE
        clear L hq h0 hj hrj
        generalize (W0 t).length = lw at *
        go_wp2_with (at_builtin; refine wp_appendV rfl _ _ rfl HL.out wr.heap.size rfl rfl HNEW.out HONE.out hln ?_)
        intro g cp w3 L3
        rw [HN.out] at L3
        have HL3 := Lib.hid L3
        clear L3 HL HNEW
        go_wp2_with fail
        go_roundw
        case rel => exact ⟨t + 1, by omega, by go_num, HL3.out⟩
        case measure => simp [intOf]; omega
    · obtain rfl : t = N := by omega
      have hll : (apL W0 S t).length = (apV hd S t).length := by simp [apL, apV]
      obtain ⟨a1, p1, hv, hrm⟩ := readsV L hll (fun j hj => by
        have hm : ∀ (l : List Nat), (∀ x ∈ l, x < t) → ∀ j (hj : j < (l.map W0).length), ∃ aj cj, (l.map hd)[j]'(by simpa using hj) = .slice aj (l.map W0)[j].length cj ∧ Reads wr aj (l.map W0)[j].length (l.map W0)[j] := by
          intro l hl j hj
          simp only [List.getElem_map]
          obtain ⟨_, aj, cj, e, r⟩ := HD.out (l[j]'(by simpa using hj)) (hl _ (List.getElem_mem _))
          exact ⟨aj, cj, e, r.kept L.below⟩
        exact hm _ (fun x hx => List.mem_range.1 (List.mem_filter.1 hx).1) j hj)
      subst hv
      have HADD := Lib.hid (added_any a1 p1 (apL W0 S t) wr (by have := apV_len hd S t; omega) HLE.out hrm HB.out)
      have HB2 := Lib.hid L.below
      clear L hrm hll
      go_wp2_with fail
      refine HADD.out.mono ?_
      rintro e w4 ⟨v, rfl, hO, hb⟩
      have HF := Lib.hid (And.intro (hO.lower HB2.out.size) (below_on HB2.out hb))
      clear hO hb
      go_wp2_with fail
      go_ret
      exact ⟨_, rfl, HF.out.1, HF.out.2⟩

end Go.Proofs.Ytakdiiccdkjjcab
