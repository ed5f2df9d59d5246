/- Lists put one behind the other by the library; weights moved up, in the program. No condition but the sizes. -/
import Derived.Test.YtakdiiccdkjjcabKa
import Derived.Test.YtakdiiccdkjjcabP
import Derived.Test.YtakdiiccdkjjcabMg
import Derived.Test.YtakdiiccdkjjcabG2
import Derived.Test.YtakdiiccdkjjcabQj
namespace Go.Proofs.Ytakdiiccdkjjcab
open Go.RowKit Go.WideShapes

theorem upL_app (s : Nat) (ys : List Int) (h : 0 < ys.length) : upL s ys = List.replicate s 0 ++ ys := by
  unfold upL
  rw [if_neg (by omega)]
  refine Eq.trans (lstI_congr _ _ (fun k => (List.replicate s (0 : Int) ++ ys).getD k 0) (fun k _ => ?_)) ?_
  · by_cases e : k < s
    · rw [if_pos e, List.getD_eq_getElem?_getD, List.getElem?_append_left (by rw [List.length_replicate]; exact e)]
      simp [e]
    · rw [if_neg e, List.getD_eq_getElem?_getD (l := _ ++ _), List.getElem?_append_right (by rw [List.length_replicate]; omega), List.length_replicate]
      simp [List.getD_eq_getElem?_getD]
  · have := lstI_self (List.replicate s (0 : Int) ++ ys)
    rwa [List.length_append, List.length_replicate] at this

set_option maxRecDepth 100000 in
set_option maxHeartbeats 3200000 in
theorem movedUp_any (s : Nat) (ys : List Int) (v : Value) (w : World) (hl : s + ys.length ≤ 1048576) (hs : Src w v ys) :
    Calls Try.prog 110 #[v, .int .i64 s] w fun e w' => ∃ u, e = .returned u ∧ Own w' w.heap.size u (upL s ys) ∧ Below w.heap.size w w' := by
  obtain ⟨a, c, hv⟩ := src_len hs
  rw [hv]
  by_cases h0 : ys.length = 0
  · obtain rfl : ys = [] := List.eq_nil_of_length_eq_zero h0
    rw [upL_nil]
    rw [show ([] : List Int).length = 0 from rfl]
    clear hs hv h0 hl
    go_enter Try.func110, Try.ntmps110
    go_wp2
    go_ret
    exact ⟨_, rfl, Own.nil _ _, Below.refl _ _⟩
  · have hmk : ∀ w, (Instr.makeSlice 22 (.int .i64 (s : Int)) (.int .i64 (s : Int))).run Try.prog w = .ok (.slice (some ⟨w.heap.size, 0, none⟩) s s) (w.alloc (.cells (madeCells #[.int .i64 0] s) 3)) := by
      intro w
      exact run_make_row' (P := Try.prog) 22 3 (.int .i64 0) 8 Try.underlying22 Try.infoI rfl .i64 .i64 s (by omega) (by omega) w
    have L0 := ((Law.start w).own (below_new _) (own_made w s _ w.heap.size rfl (Nat.le_refl _) (by omega))).has [.slice (some ⟨w.heap.size, 0, none⟩) s s, v] 22
    simp only [World.size_alloc] at L0
    rw [hv, show (([.slice (some ⟨w.heap.size, 0, none⟩) s s, .slice a ys.length c] : List Value).toArray) = #[.slice (some ⟨w.heap.size, 0, none⟩) s s, .slice a ys.length c] from rfl] at L0
    rw [hv] at hs
    let S : Nat → Value := fun k => if k = 0 then .slice (some ⟨w.heap.size, 0, none⟩) s s else .slice a ys.length c
    let Y : Nat → List Int := fun k => if k = 0 then List.replicate s 0 else ys
    have hY : catY Y 2 = upL s ys := by rw [upL_app s ys (by omega)]; rfl
    have hcat : ∀ W, Law w [tHas (w.heap.size + 1) [.slice (some ⟨w.heap.size, 0, none⟩) s s, .slice a ys.length c] 22, tOwn (.slice (some ⟨w.heap.size, 0, none⟩) s s) (List.replicate s 0)] W →
        Calls Try.prog 138 #[.slice (some ⟨w.heap.size + 1, 0, none⟩) 2 2] W fun e w' => ∃ v, e = .returned v ∧ Own w' W.heap.size v (upL s ys) ∧ Below W.heap.size W w' := fun W L => by
      have := concat_any (w.heap.size + 1) 2 2 S Y W (by omega) L.ownHas.lt (by rw [hY, upL_len, if_neg h0]; omega) (by rw [hY, upL_len, if_neg h0]; omega) (fun k hk => by
        have : k = 0 ∨ k = 1 := by omega
        rcases this with rfl | rfl
        · exact L.ownHas.cell 0
        · exact L.ownHas.cell 1) (fun k hk => by
        have : k = 0 ∨ k = 1 := by omega
        rcases this with rfl | rfl
        · have := L.tl.ownInts.src
          exact this
        · exact hs.kept' L.below)
      rw [hY] at this
      exact this
    have HC := Lib.hid hcat
    have HL := Lib.hid L0
    have hn0 : ((ys.length : Int) == 0) = false := by rw [beq_eq_false_iff_ne]; omega
    clear hcat L0 hs hv
    clear hY
    clear Y S
    generalize upL s ys = zs at *
    generalize ys.length = n at *
    go_enter Try.func110, Try.ntmps110
    go_upto_region 4 with fail
    refine (HC.out _ HL.out).mono ?_
    rintro e w1 ⟨u, rfl, hO, hb⟩
    have HF := Lib.hid (And.intro (hO.lower HL.out.below.size) (HL.out.kept hb).below)
    clear hO hb HL HC hmk
    go_wp2_with fail
    go_ret
    exact ⟨_, rfl, HF.out.1, HF.out.2⟩
end Go.Proofs.Ytakdiiccdkjjcab
