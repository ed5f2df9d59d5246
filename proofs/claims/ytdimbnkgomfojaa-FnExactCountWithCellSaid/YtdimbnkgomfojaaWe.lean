/- Rooks counted at one place, in the program. No condition but the sizes. -/
import Derived.Test.YtdimbnkgomfojaaWc
import Derived.Test.YtdimbnkgomfojaaWd
import Derived.Test.YtdimbnkgomfojaaSm
namespace Go.Proofs.Ytdimbnkgomfojaa
open Go.RowKit Go.WideShapes

set_option maxRecDepth 100000 in
set_option maxHeartbeats 1600000 in
theorem cwc1_any (F : Nat → Int) (br bc i c0 : Nat) (w : World) (hi : i < 6) (h1 : Has w br [.int .i64 i] 3) (h2 : Has w bc [.int .i64 c0] 3) :
    Calls Try.prog 75 (#[pv6 F] ++ #[.pointer (some ⟨br, 0, none⟩), .pointer (some ⟨bc, 0, none⟩)]) w fun e w' => e = .returned (.int .i64 (if F i = (c0 : Int) then 1 else 0)) ∧ Below w.heap.size w w' := by
  have hb := below_new (w := w) (.cells #[.int .i64 (F 0), .int .i64 (F 1), .int .i64 (F 2), .int .i64 (F 3), .int .i64 (F 4), .int .i64 (F 5)] 70)
  have hn : Has (w.alloc (.cells #[.int .i64 (F 0), .int .i64 (F 1), .int .i64 (F 2), .int .i64 (F 3), .int .i64 (F 4), .int .i64 (F 5)] 70)) w.heap.size (pl6 F) 70 := Has.new w (pl6 F) 70
  have e1 := (h1.kept hb h1.lt).cell 0
  have e2 := (h2.kept hb h2.lt).cell 0
  have e3 := hn.cell i
  rw [pl6_get F i hi] at e3
  simp only [List.getElem?_cons_zero] at e1 e2
  have hi0 : (0 : Int) ≤ i := by omega
  have hi6 : (i : Int) < 6 := by omega
  have HB := Lib.hid hb
  clear hn h1 h2
  generalize hx : F i = x at *
  clear hx
  by_cases hc : x = (c0 : Int)
  · subst hc
    rw [if_pos rfl]
    have hcc : ((c0 : Int) == c0) = true := by simp
    go_enter Try.func75, Try.ntmps75
    go_wp2_with fail
    go_quiet (fail)
    go_wp2_with fail
    go_ret
    exact ⟨rfl, below_drewN HB.out _⟩
  · rw [if_neg hc]
    have hcc : (x == (c0 : Int)) = false := by rw [beq_eq_false_iff_ne]; exact hc
    clear hc
    go_enter Try.func75, Try.ntmps75
    go_wp2_with fail
    go_quiet (fail)
    go_wp2_with fail
    go_ret
    exact ⟨rfl, below_drewN HB.out _⟩

/-- The block of the sum over placements. -/
abbrev sumP2 (br bc : Nat) (t : Int) : List Value := [.func (.func 75) #[] #[.pointer (some ⟨br, 0, none⟩), .pointer (some ⟨bc, 0, none⟩)], .int .i64 t]

set_option maxRecDepth 100000 in
set_option maxHeartbeats 3200000 in
theorem addP_any (bs br bc i c0 : Nat) (t : Int) (F : Nat → Int) (w : World) (hi : i < 6) (H : Has w bs (sumP2 br bc t) 83) (h1 : Has w br [.int .i64 i] 3) (h2 : Has w bc [.int .i64 c0] 3) (ht : 0 ≤ t ∧ t ≤ 1000000) :
    Calls Try.prog 76 #[.pointer (some ⟨bs, 0, none⟩), pv6 F] w fun e w' => e = .returned (.bool true) ∧ Chg (fun k => k = bs) w w' ∧ Has w' bs (sumP2 br bc (t + if F i = (c0 : Int) then 1 else 0)) 83 := by
  have hb := (below_new (w := w) (.cells #[.int .i64 (F 0), .int .i64 (F 1), .int .i64 (F 2), .int .i64 (F 3), .int .i64 (F 4), .int .i64 (F 5)] 70))
  have hn : Has (w.alloc (.cells #[.int .i64 (F 0), .int .i64 (F 1), .int .i64 (F 2), .int .i64 (F 3), .int .i64 (F 4), .int .i64 (F 5)] 70)) w.heap.size (pl6 F) 70 := Has.new w (pl6 F) 70
  have H' := H.kept hb H.lt
  have h1' := h1.kept hb h1.lt
  have h2' := h2.kept hb h2.lt
  have hlt := H'.lt
  have HB := Lib.hid hb
  obtain ⟨v, hv⟩ : ∃ v : Int, v = if F i = (c0 : Int) then 1 else 0 := ⟨_, rfl⟩
  have HV := Lib.hid hv
  have hvb : 0 ≤ v ∧ v ≤ 1 := by rw [hv]; split <;> omega
  rw [← hv]
  have hs : IntKind.i64.wrap (t + v) = t + v := IntWalk.i64_in _ (by omega)
  clear H h1 h2 hb hv
  go_enter Try.func76, Try.ntmps76
  go_wp2_with fail
  generalize w.alloc (.cells #[.int .i64 (F 0), .int .i64 (F 1), .int .i64 (F 2), .int .i64 (F 3), .int .i64 (F 4), .int .i64 (F 5)] 70) = w5 at *
  obtain ⟨p0, p1, p2, p3, p4, p5, _⟩ := (show Has w5.drew w.heap.size (pl6 F) 70 from hn.drew).six
  obtain ⟨e0, e1, ef⟩ := (show Has w5.drew bs (sumP2 br bc t) 83 from H'.drew).two
  have HC := Lib.hid (fun W => fun a b => cwc1_any F br bc i c0 W hi a b)
  have HH := Lib.hid H'
  have HR := Lib.hid (And.intro h1' h2')
  clear H' h1' h2' hn
  go_region_with (((refine (HC.out _ HR.out.1.drew HR.out.2.drew).mono ?_); rintro e w1 ⟨rfl, hb⟩; rw [← HV.out]; have m0 := cell_later hb e0; have m1 := cell_later hb e1; have mf := (hb.frozen (p := ⟨bs, 1, none⟩) hlt).trans (ef 1); have HB1 := Lib.hid hb; clear hb))
  all_goals
    have HN := Lib.hid (((HH.out.drew).kept HB1.out hlt).set 1 (.int .i64 (t + v)))
    have HCg := Lib.hid (show Chg (fun k => k = bs) w (w1.setCell ⟨bs, 1, none⟩ (.int .i64 (t + v))) from (((Chg.of_below HB.out).trans (Chg.of_below (Below.refl _ _).drew)).trans (Chg.of_below HB1.out)).trans ⟨rfl, rfl, rfl, by simp [World.setCell], fun k _ hf => Below.heap_setCell w1 ⟨bs, 1, none⟩ _ k hf⟩)
    go_wp2_with fail
    go_ret
    exact ⟨rfl, HCg.out, HN.out⟩
end Go.Proofs.Ytdimbnkgomfojaa
