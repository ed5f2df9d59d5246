/- Moves; two rows that attack each other; lists read off. No condition but the sizes. -/
import Derived.Test.YtmhlpaenfknofaaUb
import Derived.BigQuiet
namespace Go.Proofs.Ytmhlpaenfknofaa
open Go.RowKit Go.WideShapes

/-- A move, as a function value of the program: what it reads stays. -/
structure MoveV (F : FuncId) (cap : Array Value) (I : World → Prop) (D : Int → Int → Bool) : Prop where
  call : ∀ (args : Array Value) (w : World), (callFunc F args).run Try.prog w = .ok (.enter F args) w
  run : ∀ (d r : Int) (W : World), I W → -8 ≤ d → d ≤ 8 → -8 ≤ r → r ≤ 8 → Calls Try.prog F (#[.int .i64 d, .int .i64 r] ++ cap) W fun e w' => e = .returned (.bool (D d r)) ∧ w' = W
  kept : ∀ w w' : World, I w → Below w.heap.size w w' → I w'

theorem bishopQ_any (d r : Int) (W : World) (hr : -8 ≤ r ∧ r ≤ 8) : Calls Try.prog 50 #[.int .i64 d, .int .i64 r] W fun e w' => e = .returned (.bool (bQ d r)) ∧ w' = W := by
  have hn : wrap64 (-r) = -r := IntWalk.wrap64_in _ (by omega)
  unfold bQ
  cases h1 : (d == r)
  · cases h2 : (d == -r)
    · go_enter Try.func50, Try.ntmps50
      go_wp2_with fail
      go_ret
      exact ⟨rfl, rfl⟩
    · go_enter Try.func50, Try.ntmps50
      go_wp2_with fail
      go_ret
      exact ⟨rfl, rfl⟩
  · go_enter Try.func50, Try.ntmps50
    go_wp2_with fail
    go_ret
    exact ⟨rfl, rfl⟩
theorem bishop_moveV : MoveV 50 #[] (fun _ => True) bQ := ⟨fun _ _ => by kernel_rfl, fun d r W _ _ _ h3 h4 => bishopQ_any d r W ⟨h3, h4⟩, fun _ _ _ _ => trivial⟩
theorem torus1_any (n : Nat) (hn : 1 ≤ n ∧ n ≤ 8) (g : Nat) (d r : Int) (W : World) (hd : -8 ≤ d ∧ d ≤ 8) (hr : -8 ≤ r ∧ r ≤ 8) (hc : W.cell? ⟨g, 0, none⟩ = some (.int .i64 n)) :
    Calls Try.prog 72 #[.int .i64 d, .int .i64 r, .pointer (some ⟨g, 0, none⟩)] W fun e w' => e = .returned (.bool (tQ n d r)) ∧ w' = W := by
  have h1 : wrap64 (d + r) = d + r := IntWalk.wrap64_in _ (by omega)
  have h2 : wrap64 (d - r) = d - r := IntWalk.wrap64_in _ (by omega)
  have h3 : ((n : Int) == 0) = false := by rw [beq_eq_false_iff_ne]; omega
  unfold tQ
  cases k1 : ((d + r).tmod n == 0)
  · cases k2 : ((d - r).tmod n == 0)
    · go_enter Try.func72, Try.ntmps72
      go_wp2_with fail
      go_ret
      exact ⟨rfl, rfl⟩
    · go_enter Try.func72, Try.ntmps72
      go_wp2_with fail
      go_ret
      exact ⟨rfl, rfl⟩
  · go_enter Try.func72, Try.ntmps72
    go_wp2_with fail
    go_ret
    exact ⟨rfl, rfl⟩
theorem torus_moveV (n : Nat) (hn : 1 ≤ n ∧ n ≤ 8) (g : Nat) : MoveV 72 #[.pointer (some ⟨g, 0, none⟩)] (fun W => W.cell? ⟨g, 0, none⟩ = some (.int .i64 n)) (tQ n) :=
  ⟨fun _ _ => by kernel_rfl, fun d r W h h1 h2 h3 h4 => torus1_any n hn g d r W ⟨h1, h2⟩ ⟨h3, h4⟩ h, fun _ _ h hb => cell_later hb h⟩
theorem torusMove_any (n : Int) (w : World) : Calls Try.prog 52 #[.int .i64 n] w fun e w' => e = .returned (.func (.func 72) #[] #[.pointer (some ⟨w.heap.size, 0, none⟩)]) ∧ w'.cell? ⟨w.heap.size, 0, none⟩ = some (.int .i64 n) ∧ Below w.heap.size w w' := by
  have L0 := (Law.start w).has [.int .i64 n] 3
  rw [show w.alloc (.cells ([.int .i64 n] : List Value).toArray 3) = w.alloc (.cells #[.int .i64 n] 3) from rfl] at L0
  have HL := Lib.hid L0
  clear L0
  go_enter Try.func52, Try.ntmps52
  go_upto_region 1 with fail
  generalize w.alloc _ = w1 at *
  go_wp2_with fail
  go_ret
  exact ⟨rfl, HL.out.ownHas.cell 0, HL.out.below⟩
set_option maxRecDepth 100000 in
set_option maxHeartbeats 3200000 in
theorem meet_any (c : Int) (F : Nat → Int) (r s : Nat) (M : FuncId) (cap : Array Value) (I : World → Prop) (D : Int → Int → Bool) (hM : MoveV M cap I D) (w : World) (hI : I w) (hr : r < 8) (hs : s < 8) (hF : ∀ k, k < 8 → 0 ≤ F k ∧ F k < 8) :
    Calls Try.prog 71 #[qv c F, .int .i64 r, .int .i64 s, .func (.func M) #[] cap] w fun e w' => e = .returned (.bool (D ((s : Int) - r) (F s - F r))) ∧ Below w.heap.size w w' := by
  have L0 := (Law.start w).has (ql c F) 46
  rw [show w.alloc (.cells (ql c F).toArray 46) = w.alloc (.cells #[.int .i64 c, .int .i64 (F 0), .int .i64 (F 1), .int .i64 (F 2), .int .i64 (F 3), .int .i64 (F 4), .int .i64 (F 5), .int .i64 (F 6), .int .i64 (F 7)] 46) from rfl] at L0
  have hI1 := hM.kept _ _ hI L0.below
  have c1 := L0.ownHas.cell (1 + r)
  rw [ql_get _ _ r hr] at c1
  have c2 := L0.ownHas.cell (1 + s)
  rw [ql_get _ _ s hs] at c2
  have b1 := hF r hr
  have b2 := hF s hs
  have HMV := Lib.hid (fun W (h : I W) => hM.run ((s : Int) - r) (F s - F r) W h (by omega) (by omega) (by omega) (by omega))
  have hcall := hM.call
  have HI := Lib.hid (fun k => hM.kept _ _ hI1 (below_drewN (Below.refl _ _) k))
  have HB := Lib.hid L0.below
  have r0 : (0 : Int) ≤ r := by omega
  have r8 : (r : Int) < 8 := by omega
  have s0 : (0 : Int) ≤ s := by omega
  have s8 : (s : Int) < 8 := by omega
  have h1 : IntKind.i64.wrap ((s : Int) - r) = (s : Int) - r := IntWalk.i64_in _ (by omega)
  have h2 : IntKind.i64.wrap (F s - F r) = F s - F r := IntWalk.i64_in _ (by omega)
  generalize D ((s : Int) - r) (F s - F r) = d at *
  generalize hfs : F s = fs at *
  generalize hfr : F r = fr at *
  clear L0 hI hI1 hM hF hfs hfr
  go_enter Try.func71, Try.ntmps71
  go_upto_region 1 with fail
  generalize w.alloc _ = w1 at *
  go_quiet ((with_reducible exact Calls.quiet_of_same (HMV.out _ (HI.out _))))
  have HB2 := Lib.hid (below_drewN HB.out nq)
  go_wp2_with fail
  go_ret
  exact ⟨rfl, HB2.out⟩
theorem col_cells (F : Nat → Int) (xs : List Int) (h : xs.length ≤ 8) (hF : ∀ k, k < xs.length → F k = xs.getD k 0) : [F 0, F 1, F 2, F 3, F 4, F 5, F 6, F 7].take xs.length = xs := by
  refine List.ext_getElem (by simp; omega) (fun i h1 h2 => ?_)
  rw [List.getElem_take]
  have e := hF i h2
  simp only [List.getD, List.getElem?_eq_getElem h2, Option.getD_some] at e
  rw [← e]
  rcases eight_cases (show i < 8 by omega) with rfl | rfl | rfl | rfl | rfl | rfl | rfl | rfl <;> rfl
theorem list_facts (n : Nat) (F : Nat → Int) (w : World) (w2 : World)
    (hw : (w.alloc (.cells (ql n F).toArray 46)).alloc (.cells (madeCells #[.int .i64 0] n) 3) = w2) :
    Has w2 (w.heap.size + 1) (List.replicate n (.int .i64 0)) 3 ∧ Below w.heap.size w w2 ∧
    (∀ j v, (([F 0, F 1, F 2, F 3, F 4, F 5, F 6, F 7].take n).map (Value.int .i64))[j]? = some v → w2.cell? ((⟨w.heap.size, 1, none⟩ : Addr).add j) = some v) := by
  have H1 := Has.new w (ql n F) 46
  have b1 := below_new (w := w) (.cells (ql n F).toArray 46)
  generalize hw1 : w.alloc (.cells (ql n F).toArray 46) = w1 at *
  have H3 : Has (w1.alloc (.cells (madeCells #[.int .i64 0] n) 3)) w1.heap.size (List.replicate n (.int .i64 0)) 3 := by rw [made_eq]; exact Has.new w1 _ _
  have b3 := below_new (w := w1) (.cells (madeCells #[.int .i64 0] n) 3)
  have H13 := H1.kept b3 H1.lt
  have hz1 : w1.heap.size = w.heap.size + 1 := by rw [← hw1]; simp
  rw [hw] at H3 H13 b3
  rw [hz1] at H3
  refine ⟨H3, below_on b1 b3, fun j v hj => ?_⟩
  rw [add_plain, H13.cell]
  rw [List.map_take, List.getElem?_take] at hj
  split at hj
  · rw [show 1 + j = j + 1 by omega]; exact hj
  · cases hj
set_option maxHeartbeats 1600000 in
theorem list_any (n : Nat) (F : Nat → Int) (xs : List Int) (w : World) (hn : n ≤ 8) (hx : [F 0, F 1, F 2, F 3, F 4, F 5, F 6, F 7].take n = xs) :
    Calls Try.prog 57 #[qv n F] w fun e w' => ∃ s, e = .returned s ∧ Own w' w.heap.size s xs ∧ Below w.heap.size w w' := by
  have hmk := run_make_row' (P := Try.prog) 22 3 (.int .i64 0) 8 Try.underlying22 Try.infoI rfl .i64 .i64 n (by omega) (by omega)
  obtain ⟨F1, F4, F5⟩ := list_facts n F w _ rfl
  rw [hx] at F5
  have hlen : (xs.map (Value.int .i64)).length = n := by rw [← hx]; simp; omega
  have HM := Lib.hid (show (xs.map (Value.int .i64)).length = Nat.min 8 n by rw [hlen]; exact (Nat.min_eq_right hn).symm)
  have HF := Lib.hid (show 0 + (xs.map (Value.int .i64)).length ≤ (List.replicate n (Value.int .i64 0)).length by rw [hlen, List.length_replicate]; omega)
  have G1 := Lib.hid F1.row; have G4 := Lib.hid F4; have G5 := Lib.hid F5; have HL := Lib.hid hlen
  clear F1 F4 F5 hlen hx
  rw [show (ql n F).toArray = #[.int .i64 n, .int .i64 (F 0), .int .i64 (F 1), .int .i64 (F 2), .int .i64 (F 3), .int .i64 (F 4), .int .i64 (F 5), .int .i64 (F 6), .int .i64 (F 7)] from rfl] at *
  go_enter Try.func57, Try.ntmps57
  go_wp2_with (with_reducible refine wpList_copy_splice rfl (.tmp 7) (.tmp 9) 22 22 rfl 3 Try.underlying22 (by kernel_rfl) _ _ n n 8 8 rfl rfl (w.heap.size + 1) 0 _ 3 G1.out _ HM.out (fun _ => ⟨rfl, _, rfl, G5.out⟩) HF.out (ints_oneCell _ _) (w.heap.size + 1) _ (Below.refl _ _) (Nat.le_refl _) ?_)
  intro w4 hg4 hb4
  have H4 : Has w4 (w.heap.size + 1) (xs.map (Value.int .i64)) 3 := by
    have h : Has w4 (w.heap.size + 1) _ 3 := hg4.out
    rw [splice_all n _ (by have := HL.out; exact this)] at h
    simpa using h
  have HB4 := Lib.hid (G4.out.trans (hb4.mono (by omega))); clear hb4 hg4
  have HH := Lib.hid H4; clear H4 hmk
  go_wp2
  go_ret
  refine ⟨_, rfl, ?_, HB4.out⟩
  exact (own_of_has (lo := w.heap.size + 1) HH.out (Nat.le_refl _) (by have := HL.out; simpa using this) (by unfold maxLen; omega)).lower (by omega)
set_option maxHeartbeats 1600000 in
theorem fullOf_any (a : Option Addr) (cap : Nat) (xs : List Int) (w : World) (hx : xs.length ≤ 1048576) (hcap : xs.length ≤ cap) (hr : Reads w a xs.length xs) :
    Calls Try.prog 48 #[.slice a xs.length cap] w fun e w' => e = .returned (linV xs.length xs) ∧ Below w.heap.size w w' := by
  have L0 := (Law.start w).has (ql 0 (fun _ => 0)) 46
  rw [show w.alloc (.cells (ql 0 (fun _ => 0)).toArray 46) = w.alloc (.cells #[.int .i64 0, .int .i64 0, .int .i64 0, .int .i64 0, .int .i64 0, .int .i64 0, .int .i64 0, .int .i64 0, .int .i64 0] 46) from rfl] at L0
  have HC := Lib.hid (lineupOf_any xs.length a cap xs _ hx hcap (L0.reads hr))
  have HL := Lib.hid L0
  clear L0 hr
  have key : ∃ (c : Int) (G : Nat → Int) (b : Bool), linV xs.length xs = .tuple #[qv c G, .bool b] := by
    cases h : linB xs.length xs
    · exact ⟨_, _, _, linV_no h⟩
    · exact ⟨_, _, _, linV_yes h⟩
  obtain ⟨c, G, b, hk⟩ := key
  rw [hk] at HC
  have HK := Lib.hid hk
  rw [hk]
  clear hk HK
  generalize xs.length = m at *
  go_enter Try.func48, Try.ntmps48
  go_upto_region 1 with fail
  generalize w.alloc _ = w1 at *
  go_wp2_with (go_at_call 60; ((with_reducible refine HC.out.mono ?_); rintro e w2 ⟨rfl, hb⟩; have HL2 := Lib.hid (HL.out.kept hb); clear hb; obtain ⟨f0, f1, f2, f3, f4, f5, f6, f7, f8, ff⟩ := HL2.out.ownHas.nineQ))
  have hp := HL2.out.ownHas.putQ c G
  have HB := Lib.hid (And.intro HL2.out.below HL2.out.ownHas.lt)
  clear HL HL2 f0 f1 f2 f3 f4 f5 f6 f7 f8 ff
  obtain ⟨f0, f1, f2, f3, f4, f5, f6, f7, f8, ff⟩ := ql_held hp
  clear hp
  refine bodyPost_ret (v := .tuple #[qv c G, .bool b]) (by simp [results, Try.results48, go_sem, f0, f1, f2, f3, f4, f5, f6, f7, f8]) rfl ⟨rfl, ?_⟩
  exact below_putQ HB.out.1 _ (Nat.le_refl _) c G

end Go.Proofs.Ytmhlpaenfknofaa
