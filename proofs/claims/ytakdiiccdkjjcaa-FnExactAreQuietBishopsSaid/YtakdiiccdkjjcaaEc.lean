/- A board turned for a colour, in the program. No condition but the sizes. -/
import Derived.Test.YtakdiiccdkjjcaaEa
import Derived.Test.YtakdiiccdkjjcaaT3
import Derived.Deep.RegionWith
import Derived.Deep.RegionHeld3
import Derived.IntWalk
namespace Go.Proofs.Ytakdiiccdkjjcaa
open Go.RowKit Go.WideShapes

/-- A turned board as a value, and its block. -/
abbrev tv (r c : Int) (m : Nat → Int) (k : Int) : Value := .agg #[.int .i64 r, .int .i64 c, .int .i64 (m 0), .int .i64 (m 1), .int .i64 (m 2), .int .i64 (m 3), .int .i64 (m 4), .int .i64 (m 5), .int .i64 k]
def tl9 (r c : Int) (m : Nat → Int) (k : Int) : List Value := [.int .i64 r, .int .i64 c, .int .i64 (m 0), .int .i64 (m 1), .int .i64 (m 2), .int .i64 (m 3), .int .i64 (m 4), .int .i64 (m 5), .int .i64 k]
theorem Has.nine {w : World} {b : Nat} {v0 v1 v2 v3 v4 v5 v6 v7 v8 : Value} {t : TypeId} (h : Has w b [v0, v1, v2, v3, v4, v5, v6, v7, v8] t) :
    w.cell? ⟨b, 0, none⟩ = some v0 ∧ w.cell? ⟨b, 1, none⟩ = some v1 ∧ w.cell? ⟨b, 2, none⟩ = some v2 ∧ w.cell? ⟨b, 3, none⟩ = some v3 ∧ w.cell? ⟨b, 4, none⟩ = some v4 ∧ w.cell? ⟨b, 5, none⟩ = some v5 ∧ w.cell? ⟨b, 6, none⟩ = some v6 ∧ w.cell? ⟨b, 7, none⟩ = some v7 ∧ w.cell? ⟨b, 8, none⟩ = some v8 ∧ ∀ o, w.frozen? ⟨b, o, none⟩ = false :=
  ⟨h.cell 0, h.cell 1, h.cell 2, h.cell 3, h.cell 4, h.cell 5, h.cell 6, h.cell 7, h.cell 8, h.free⟩

set_option maxRecDepth 100000 in
theorem pl_bd (m k i j : Nat) (hm : m ≤ 6) (hk : k < 2) (hi : i < 6) (hj : j < 6) : (-20 ≤ plR m k i j ∧ plR m k i j ≤ 20) ∧ (-20 ≤ plC m k i j ∧ plC m k i j ≤ 20) := by
  have key : ∀ m : Fin 7, ∀ k : Fin 2, ∀ i j : Fin 6, (-20 ≤ plR m k i j ∧ plR m k i j ≤ 20) ∧ (-20 ≤ plC m k i j ∧ plC m k i j ≤ 20) := by decide +kernel
  exact key ⟨m, by omega⟩ ⟨k, hk⟩ ⟨i, hi⟩ ⟨j, hj⟩
theorem Has.farS {w : World} {b : Nat} {cs : List Value} {t : TypeId} (h : Has w b cs t) (g o : Nat) (v : Value) (hg : b ≠ g) : Has (w.setCell ⟨g, o, none⟩ v) b cs t :=
  (Below.heap_setCell w ⟨g, o, none⟩ v b hg).trans h
theorem Chg.ofS {foot : Nat → Prop} (w : World) (b o : Nat) (v : Value) (hf : foot b) : Chg foot w (w.setCell ⟨b, o, none⟩ v) :=
  ⟨rfl, rfl, rfl, by simp [World.setCell], fun k _ hk => Below.heap_setCell w ⟨b, o, none⟩ v k (fun e => hk (by rw [show k = b from e]; exact hf))⟩
theorem Has.put8 {w : World} {b : Nat} {v0 v1 v2 v3 v4 v5 v6 v7 : Value} {t : TypeId} (h : Has w b [v0, v1, v2, v3, v4, v5, v6, v7] t) (n m : Int) (F : Nat → Int) : Has ((((((((w.setCell ⟨b, 0, none⟩ (.int .i64 n)).setCell ⟨b, 1, none⟩ (.int .i64 m)).setCell ⟨b, 2, none⟩ (.int .i64 (F 0))).setCell ⟨b, 3, none⟩ (.int .i64 (F 1))).setCell ⟨b, 4, none⟩ (.int .i64 (F 2))).setCell ⟨b, 5, none⟩ (.int .i64 (F 3))).setCell ⟨b, 6, none⟩ (.int .i64 (F 4))).setCell ⟨b, 7, none⟩ (.int .i64 (F 5))) b (gl n m F) t :=
  (((((((h.set 0 _).set 1 _).set 2 _).set 3 _).set 4 _).set 5 _).set 6 _).set 7 _
theorem Has.far8 {w : World} {b k : Nat} {cs : List Value} {t : TypeId} (h : Has w k cs t) (n m : Int) (F : Nat → Int) (hk : k ≠ b) : Has ((((((((w.setCell ⟨b, 0, none⟩ (.int .i64 n)).setCell ⟨b, 1, none⟩ (.int .i64 m)).setCell ⟨b, 2, none⟩ (.int .i64 (F 0))).setCell ⟨b, 3, none⟩ (.int .i64 (F 1))).setCell ⟨b, 4, none⟩ (.int .i64 (F 2))).setCell ⟨b, 5, none⟩ (.int .i64 (F 3))).setCell ⟨b, 6, none⟩ (.int .i64 (F 4))).setCell ⟨b, 7, none⟩ (.int .i64 (F 5))) k cs t :=
  (((((((h.farS b 0 _ hk).farS b 1 _ hk).farS b 2 _ hk).farS b 3 _ hk).farS b 4 _ hk).farS b 5 _ hk).farS b 6 _ hk).farS b 7 _ hk
theorem Chg.put8 {foot : Nat → Prop} (w : World) (b : Nat) (n m : Int) (F : Nat → Int) (hf : foot b) : Chg foot w ((((((((w.setCell ⟨b, 0, none⟩ (.int .i64 n)).setCell ⟨b, 1, none⟩ (.int .i64 m)).setCell ⟨b, 2, none⟩ (.int .i64 (F 0))).setCell ⟨b, 3, none⟩ (.int .i64 (F 1))).setCell ⟨b, 4, none⟩ (.int .i64 (F 2))).setCell ⟨b, 5, none⟩ (.int .i64 (F 3))).setCell ⟨b, 6, none⟩ (.int .i64 (F 4))).setCell ⟨b, 7, none⟩ (.int .i64 (F 5))) :=
  (((((((Chg.ofS w b 0 _ hf).trans (Chg.ofS _ b 1 _ hf)).trans (Chg.ofS _ b 2 _ hf)).trans (Chg.ofS _ b 3 _ hf)).trans (Chg.ofS _ b 4 _ hf)).trans (Chg.ofS _ b 5 _ hf)).trans (Chg.ofS _ b 6 _ hf)).trans (Chg.ofS _ b 7 _ hf)

theorem Has.put9 {w : World} {b : Nat} {v0 v1 v2 v3 v4 v5 v6 v7 v8 : Value} {t : TypeId} (h : Has w b [v0, v1, v2, v3, v4, v5, v6, v7, v8] t) (n m : Int) (F : Nat → Int) (k : Int) : Has (((((((((w.setCell ⟨b, 0, none⟩ (.int .i64 n)).setCell ⟨b, 1, none⟩ (.int .i64 m)).setCell ⟨b, 2, none⟩ (.int .i64 (F 0))).setCell ⟨b, 3, none⟩ (.int .i64 (F 1))).setCell ⟨b, 4, none⟩ (.int .i64 (F 2))).setCell ⟨b, 5, none⟩ (.int .i64 (F 3))).setCell ⟨b, 6, none⟩ (.int .i64 (F 4))).setCell ⟨b, 7, none⟩ (.int .i64 (F 5))).setCell ⟨b, 8, none⟩ (.int .i64 k)) b (tl9 n m F k) t :=
  (((((((((h.set 0 _).set 1 _).set 2 _).set 3 _).set 4 _).set 5 _).set 6 _).set 7 _).set 8 _)
theorem Has.far9 {w : World} {b q : Nat} {cs : List Value} {t : TypeId} (h : Has w q cs t) (n m : Int) (F : Nat → Int) (k : Int) (hk : q ≠ b) : Has (((((((((w.setCell ⟨b, 0, none⟩ (.int .i64 n)).setCell ⟨b, 1, none⟩ (.int .i64 m)).setCell ⟨b, 2, none⟩ (.int .i64 (F 0))).setCell ⟨b, 3, none⟩ (.int .i64 (F 1))).setCell ⟨b, 4, none⟩ (.int .i64 (F 2))).setCell ⟨b, 5, none⟩ (.int .i64 (F 3))).setCell ⟨b, 6, none⟩ (.int .i64 (F 4))).setCell ⟨b, 7, none⟩ (.int .i64 (F 5))).setCell ⟨b, 8, none⟩ (.int .i64 k)) q cs t :=
  (((((((((h.farS b 0 _ hk).farS b 1 _ hk).farS b 2 _ hk).farS b 3 _ hk).farS b 4 _ hk).farS b 5 _ hk).farS b 6 _ hk).farS b 7 _ hk).farS b 8 _ hk)
theorem nine_held {W : World} {b : Nat} {n m : Int} {M : Nat → Int} {k : Int} {t : TypeId} (h : Has W b (tl9 n m M k) t) :
    W.cell? ⟨b, 0, none⟩ = some (.int .i64 n) ∧ W.cell? ⟨b, 1, none⟩ = some (.int .i64 m) ∧ W.cell? ⟨b, 2, none⟩ = some (.int .i64 (M 0)) ∧ W.cell? ⟨b, 3, none⟩ = some (.int .i64 (M 1)) ∧ W.cell? ⟨b, 4, none⟩ = some (.int .i64 (M 2)) ∧ W.cell? ⟨b, 5, none⟩ = some (.int .i64 (M 3)) ∧ W.cell? ⟨b, 6, none⟩ = some (.int .i64 (M 4)) ∧ W.cell? ⟨b, 7, none⟩ = some (.int .i64 (M 5)) ∧ W.cell? ⟨b, 8, none⟩ = some (.int .i64 k) :=
  ⟨h.cell 0, h.cell 1, h.cell 2, h.cell 3, h.cell 4, h.cell 5, h.cell 6, h.cell 7, h.cell 8⟩
theorem ret_int9 {x y : Int} (h : x = y) : Ending.returned (.int .i64 x) = Ending.returned (.int .i64 y) := by rw [h]

theorem ret_two {a b x y : Int} (h : a = x) (k : b = y) : Ending.returned (.tuple #[.int .i64 a, .int .i64 b]) = Ending.returned (.tuple #[.int .i64 x, .int .i64 y]) := by rw [h, k]

theorem firstSum_any (r c : Int) (M : Nat → Int) (k : Int) (w : World) :
    Calls Try.prog 101 #[tv r c M k] w fun e w' => e = .returned (.int .i64 k) ∧ Below w.heap.size w w' := by
  have HB := Lib.hid (below_new (w := w) (.cells (tl9 r c M k).toArray 73))
  go_enter Try.func101, Try.ntmps101
  go_wp2
  go_ret
  exact ⟨rfl, HB.out⟩
theorem firstDiff_any (n m : Nat) (M : Nat → Int) (k : Nat) (w : World) (hm1 : 1 ≤ m) (hm : m ≤ 6) (hk : k < 2) :
    Calls Try.prog 103 #[tv n m M k] w fun e w' => e = .returned (.int .i64 (fdI m k : Nat)) ∧ Below w.heap.size w w' := by
  have HB := Lib.hid (below_new (w := w) (.cells (tl9 n m M k).toArray 73))
  have HE := Lib.hid (show ((k : Int) + m - 1) % 2 = (fdI m k : Nat) by unfold fdI; omega)
  go_enter Try.func103, Try.ntmps103
  go_wp2
  go_ret
  exact ⟨ret_int9 HE.out, HB.out⟩
theorem lines_any (n m : Nat) (M : Nat → Int) (k : Int) (f : Nat) (w : World) (hn1 : 1 ≤ n) (hn : n ≤ 6) (hm : m ≤ 6) (hm1 : 1 ≤ m) (hf : f < 2) :
    Calls Try.prog 100 #[tv n m M k, .int .i64 f] w fun e w' => e = .returned (.int .i64 (lnI n m f : Nat)) ∧ Below w.heap.size w w' := by
  have HB := Lib.hid (below_new (w := w) (.cells (tl9 n m M k).toArray 73))
  have HE := Lib.hid (show ((n : Int) + m - f) / 2 = (lnI n m f : Nat) by unfold lnI; omega)
  go_enter Try.func100, Try.ntmps100
  go_wp2
  go_ret
  exact ⟨ret_int9 HE.out, HB.out⟩
set_option maxRecDepth 100000 in
set_option maxHeartbeats 3200000 in
theorem place_any (n m : Nat) (M : Nat → Int) (k i j : Nat) (w : World) (hm1 : 1 ≤ m) (hm : m ≤ 6) (hk : k < 2) (hi : i < 6) (hj : j < 6) :
    Calls Try.prog 65 #[tv n m M k, .int .i64 i, .int .i64 j] w fun e w' => e = .returned (.tuple #[.int .i64 (plR m k i j), .int .i64 (plC m k i j)]) ∧ Below w.heap.size w w' := by
  have L0 := ((Law.start w).has (tl9 n m M k) 73).drew
  rw [show w.alloc (.cells (tl9 n m M k).toArray 73) = w.alloc (.cells #[.int .i64 n, .int .i64 m, .int .i64 (M 0), .int .i64 (M 1), .int .i64 (M 2), .int .i64 (M 3), .int .i64 (M 4), .int .i64 (M 5), .int .i64 k] 73) from rfl] at L0
  obtain ⟨k0, k1, k2, k3, k4, k5, k6, k7, k8, _⟩ := L0.ownHas.nine
  have hf := fd_le m k
  have HP := Lib.hid (show ((k : Int) + 2 * i + ((fdI m k : Nat) + 2 * j) - m + 1).tdiv 2 = plR m k i j by unfold plR; congr 1)
  have HC := Lib.hid (show (k : Int) + 2 * i - plR m k i j = plC m k i j by unfold plC; push_cast; rfl)
  have hR := (pl_bd m k i j hm hk hi hj).1
  have H1 := Lib.hid (fun W => firstDiff_any n m M k W hm1 hm hk)
  generalize fdI m k = f at *
  have HL := Lib.hid L0
  clear L0
  go_enter Try.func65, Try.ntmps65
  go_wp2_with fail
  go_region_held3 (fun w' => w'.cell? ⟨w.heap.size, 0, none⟩ = some (.int .i64 n) ∧ w'.cell? ⟨w.heap.size, 1, none⟩ = some (.int .i64 m) ∧ w'.cell? ⟨w.heap.size, 2, none⟩ = some (.int .i64 (M 0)) ∧ w'.cell? ⟨w.heap.size, 3, none⟩ = some (.int .i64 (M 1)) ∧ w'.cell? ⟨w.heap.size, 4, none⟩ = some (.int .i64 (M 2)) ∧ w'.cell? ⟨w.heap.size, 5, none⟩ = some (.int .i64 (M 3)) ∧ w'.cell? ⟨w.heap.size, 6, none⟩ = some (.int .i64 (M 4)) ∧ w'.cell? ⟨w.heap.size, 7, none⟩ = some (.int .i64 (M 5)) ∧ w'.cell? ⟨w.heap.size, 8, none⟩ = some (.int .i64 k)) (exact ⟨k0, k1, k2, k3, k4, k5, k6, k7, k8⟩) ((first
    | (go_at_call 101; ((with_reducible refine (firstSum_any _ _ _ _ _).mono ?_); rintro r wA ⟨rfl, hb⟩; replace HL := Lib.hid (HL.out.kept hb); replace k0 := cell_later hb k0; replace k1 := cell_later hb k1; replace k2 := cell_later hb k2; replace k3 := cell_later hb k3; replace k4 := cell_later hb k4; replace k5 := cell_later hb k5; replace k6 := cell_later hb k6; replace k7 := cell_later hb k7; replace k8 := cell_later hb k8; clear hb))
    | (go_at_call 103; ((with_reducible refine (H1.out _).mono ?_); rintro r wA ⟨rfl, hb⟩; replace HL := Lib.hid (HL.out.kept hb); replace k0 := cell_later hb k0; replace k1 := cell_later hb k1; replace k2 := cell_later hb k2; replace k3 := cell_later hb k3; replace k4 := cell_later hb k4; replace k5 := cell_later hb k5; replace k6 := cell_later hb k6; replace k7 := cell_later hb k7; replace k8 := cell_later hb k8; clear hb))
    | fail))
  go_wp2_with fail
  have HB := Lib.hid HL.out.below
  clear HL k0 k1 k2 k3 k4 k5 k6 k7 k8
  rw [HP.out]
  go_ret2
  exact ⟨ret_two rfl (by rw [IntWalk.wrap64_in _ (by omega)]; exact HC.out), HB.out⟩
set_option maxRecDepth 100000 in
set_option maxHeartbeats 3200000 in
theorem isCell_any (n m : Nat) (M : Nat → Int) (k i j : Nat) (w : World) (hn : n ≤ 6) (hm1 : 1 ≤ m) (hm : m ≤ 6) (hk : k < 2) (hi : i < 6) (hj : j < 6) (hgc : ∀ k, k < 6 → 0 ≤ M k ∧ M k < 64) :
    Calls Try.prog 104 #[tv n m M k, .int .i64 i, .int .i64 j] w fun e w' => e = .returned (.bool (colB n m k (fun a b => (M a).toNat.testBit b) i j)) ∧ Below w.heap.size w w' := by
  have L0 := (Law.start w).has (tl9 n m M k) 73
  rw [show w.alloc (.cells (tl9 n m M k).toArray 73) = w.alloc (.cells #[.int .i64 n, .int .i64 m, .int .i64 (M 0), .int .i64 (M 1), .int .i64 (M 2), .int .i64 (M 3), .int .i64 (M 4), .int .i64 (M 5), .int .i64 k] 73) from rfl] at L0
  have HPL := Lib.hid (fun W => place_any n m M k i j W hm1 hm hk hi hj)
  unfold colB
  generalize plR m k i j = x at *
  generalize plC m k i j = y at *
  have HIN := Lib.hid (fun W => inside_any n m x y M W)
  cases hb0 : insB n m x y
  · rw [Bool.false_and]
    rw [hb0] at HIN
    clear hb0
    have HL := Lib.hid L0
    clear L0
    go_enter Try.func104, Try.ntmps104
    go_upto_region 1 with fail
    generalize w.alloc _ = w1 at *
    obtain ⟨k0, k1, k2, k3, k4, k5, k6, k7, k8, _⟩ := HL.out.ownHas.nine
    go_wp2_with fail
    refine (HPL.out _).mono ?_
    rintro e w2 ⟨rfl, hb⟩
    replace HL := Lib.hid (HL.out.kept hb)
    clear hb k0 k1 k2 k3 k4 k5 k6 k7 k8
    obtain ⟨k0, k1, k2, k3, k4, k5, k6, k7, k8, _⟩ := HL.out.ownHas.nine
    go_wp2_with fail
    refine (HIN.out _).mono ?_
    rintro e w3 ⟨rfl, hb⟩
    replace HL := Lib.hid (HL.out.kept hb)
    clear hb k0 k1 k2 k3 k4 k5 k6 k7 k8
    go_wp2_with fail
    go_ret
    exact ⟨rfl, HL.out.below⟩
  · rw [Bool.true_and]
    rw [hb0] at HIN
    obtain ⟨x0, x1, y0, y1⟩ := insB_iff.1 hb0
    clear hb0
    obtain ⟨p, rfl⟩ := Int.eq_ofNat_of_zero_le x0
    obtain ⟨q, rfl⟩ := Int.eq_ofNat_of_zero_le y0
    rw [show ((p : Nat) : Int).toNat = p from rfl, show ((q : Nat) : Int).toNat = q from rfl]
    have HAT := Lib.hid (fun W => at_any n m M p q W (by omega) (by omega) (hgc p (by omega)))
    have HL := Lib.hid L0
    clear L0
    go_enter Try.func104, Try.ntmps104
    go_upto_region 1 with fail
    generalize w.alloc _ = w1 at *
    obtain ⟨k0, k1, k2, k3, k4, k5, k6, k7, k8, _⟩ := HL.out.ownHas.nine
    go_wp2_with fail
    refine (HPL.out _).mono ?_
    rintro e w2 ⟨rfl, hb⟩
    replace HL := Lib.hid (HL.out.kept hb)
    clear hb k0 k1 k2 k3 k4 k5 k6 k7 k8
    obtain ⟨k0, k1, k2, k3, k4, k5, k6, k7, k8, _⟩ := HL.out.ownHas.nine
    go_wp2_with fail
    refine (HIN.out _).mono ?_
    rintro e w3 ⟨rfl, hb⟩
    replace HL := Lib.hid (HL.out.kept hb)
    clear hb k0 k1 k2 k3 k4 k5 k6 k7 k8
    obtain ⟨k0, k1, k2, k3, k4, k5, k6, k7, k8, _⟩ := HL.out.ownHas.nine
    go_wp2_with fail
    refine (HAT.out _).mono ?_
    rintro e w4 ⟨rfl, hb⟩
    replace HL := Lib.hid (HL.out.kept hb)
    clear hb k0 k1 k2 k3 k4 k5 k6 k7 k8
    go_wp2_with fail
    go_ret
    exact ⟨rfl, HL.out.below⟩
/-- The colour board's grid. -/
def colM (n m k : Nat) (P : Nat → Nat → Bool) : Nat → Int := drawn (colB n m k P) (lnI n m (fdI m k)) (lnI n m k) 0
set_option maxRecDepth 100000 in
set_option maxHeartbeats 6400000 in
theorem colourGrid_any (n m : Nat) (M : Nat → Int) (k : Nat) (w : World) (hn1 : 1 ≤ n) (hn : n ≤ 6) (hm1 : 1 ≤ m) (hm : m ≤ 6) (hk : k < 2) (hgc : ∀ k, k < 6 → 0 ≤ M k ∧ M k < 64) :
    Calls Try.prog 62 #[tv n m M k] w fun e w' => e = .returned (gv (lnI n m k : Nat) (lnI n m (fdI m k) : Nat) (colM n m k (fun a b => (M a).toNat.testBit b))) ∧ Below w.heap.size w w' := by
  have L0 := ((((Law.start w).has (tl9 n m M k) 73).has (gl 0 0 (fun _ => 0)) 66)).drew
  simp only [World.size_alloc] at L0
  rw [show (w.alloc (.cells (tl9 n m M k).toArray 73)).alloc (.cells (gl 0 0 (fun _ => 0)).toArray 66) = (w.alloc (.cells #[.int .i64 n, .int .i64 m, .int .i64 (M 0), .int .i64 (M 1), .int .i64 (M 2), .int .i64 (M 3), .int .i64 (M 4), .int .i64 (M 5), .int .i64 k] 73)).alloc (.cells #[.int .i64 0, .int .i64 0, .int .i64 0, .int .i64 0, .int .i64 0, .int .i64 0, .int .i64 0, .int .i64 0] 66) from rfl] at L0
  have H9 := Lib.hid (fun W (h : Has W w.heap.size (tl9 n m M k) 73) => nine_held h)
  have hl1 := ln_le n m k hn hm
  have hl2 := ln_le n m (fdI m k) hn hm
  have H1 := Lib.hid (fun W => firstDiff_any n m M k W hm1 hm hk)
  have H2 := Lib.hid (fun W => lines_any n m M k k W hn1 hn hm hm1 hk)
  have H3 := Lib.hid (fun W => lines_any n m M k (fdI m k) W hn1 hn hm hm1 (Nat.lt_succ_of_le (fd_le m k)))
  have H4 := Lib.hid (fun W => drawGrid_any (lnI n m k) (lnI n m (fdI m k)) 104 #[tv n m M k] #[] (colB n m k (fun a b => (M a).toNat.testBit b)) W hl1 hl2 (fun _ _ => by kernel_rfl) (fun i j w' hi hj _ => isCell_any n m M k i j w' hn hm1 hm hk (by omega) (by omega) hgc))
  have HL := Lib.hid L0
  unfold colM
  clear L0
  generalize colB n m k (fun a b => (M a).toNat.testBit b) = p at *
  generalize lnI n m (fdI m k) = c2 at *
  generalize lnI n m k = c1 at *
  generalize fdI m k = f at *
  go_enter Try.func62, Try.ntmps62
  go_wp2_with fail
  go_region_held3 (fun w' => w'.cell? ⟨w.heap.size, 0, none⟩ = some (.int .i64 n) ∧ w'.cell? ⟨w.heap.size, 1, none⟩ = some (.int .i64 m) ∧ w'.cell? ⟨w.heap.size, 2, none⟩ = some (.int .i64 (M 0)) ∧ w'.cell? ⟨w.heap.size, 3, none⟩ = some (.int .i64 (M 1)) ∧ w'.cell? ⟨w.heap.size, 4, none⟩ = some (.int .i64 (M 2)) ∧ w'.cell? ⟨w.heap.size, 5, none⟩ = some (.int .i64 (M 3)) ∧ w'.cell? ⟨w.heap.size, 6, none⟩ = some (.int .i64 (M 4)) ∧ w'.cell? ⟨w.heap.size, 7, none⟩ = some (.int .i64 (M 5)) ∧ w'.cell? ⟨w.heap.size, 8, none⟩ = some (.int .i64 k)) (first | with_reducible exact H9.out _ HL.out.tl.ownHas | exact H9.out _ (HL.out.tl.ownHas.far8 (b := w.heap.size + 1) c1 c2 (drawn p c2 c1 0) (by omega))) ((first
    | (go_at_call 101; ((with_reducible refine (firstSum_any _ _ _ _ _).mono ?_); rintro r wA ⟨rfl, hb⟩; replace HL := Lib.hid (HL.out.kept hb); clear hb))
    | (go_at_call 103; ((with_reducible refine (H1.out _).mono ?_); rintro r wA ⟨rfl, hb⟩; replace HL := Lib.hid (HL.out.kept hb); clear hb))
    | (go_at_call 100; with_reducible change Calls _ _ #[_, .int .i64 ((k : Nat) : Int)] _ _; ((with_reducible refine (H2.out _).mono ?_); rintro r wA ⟨rfl, hb⟩; replace HL := Lib.hid (HL.out.kept hb); clear hb))
    | (go_at_call 100; with_reducible change Calls _ _ #[_, .int .i64 ((f : Nat) : Int)] _ _; ((with_reducible refine (H3.out _).mono ?_); rintro r wA ⟨rfl, hb⟩; replace HL := Lib.hid (HL.out.kept hb); clear hb))
    | (go_at_call 102; ((with_reducible refine (H4.out _).mono ?_); rintro r wA ⟨rfl, hb⟩; replace HL := Lib.hid (HL.out.kept hb); clear hb; obtain ⟨f0, f1, f2, f3, f4, f5, f6, f7, ff⟩ := HL.out.ownHas.eight))
    | fail))
  all_goals
    have hp := HL.out.ownHas.put8 c1 c2 (drawn p c2 c1 0)
    have HB := Lib.hid (And.intro HL.out.below HL.out.ownHas.lt)
    clear HL f0 f1 f2 f3 f4 f5 f6 f7 ff
    obtain ⟨f0, f1, f2, f3, f4, f5, f6, f7, ff⟩ := hp.eight
    clear hp
    go_wp2_with fail
    refine bodyPost_ret (v := gv (c1 : Nat) (c2 : Nat) (drawn p c2 c1 0)) (by simp [results, Try.results62, go_sem, f0, f1, f2, f3, f4, f5, f6, f7]) rfl ⟨rfl, ?_⟩
    have h2 := HB.out.1
    repeat (refine Below.setCell ?_ (by simp <;> omega) _)
    exact h2
set_option maxRecDepth 100000 in
set_option maxHeartbeats 6400000 in
theorem turnedOf_good (n m : Nat) (a : Option Addr) (cap : Nat) (xs : List Int) (k : Nat) (w : World) (hx : xs.length ≤ 1048576) (hr : Reads w a xs.length xs) (hg : goodB n m xs = true) (hk : k < 2) (M : Nat → Int) (hM : ∀ q, M q = xs.getD q 0) :
    Calls Try.prog 61 #[.agg #[.int .i64 n, .int .i64 m, .slice a xs.length cap], .int .i64 k] w fun e w' => e = .returned (.tuple #[tv n m M k, .bool (decide (0 < lnI n m k))]) ∧ Below w.heap.size w w' := by
  obtain ⟨g1, g2, g3, _⟩ := good_facts hg
  have L0 := ((Law.start w).box (.int .i64 n) (.int .i64 m) (.slice a xs.length cap) 28).has (tl9 0 0 (fun _ => 0) 0) 73
  simp only [World.size_alloc] at L0
  have hr0 := L0.reads hr
  rw [show (w.alloc (.cells #[.int .i64 n, .int .i64 m, .slice a xs.length cap] 28)).alloc (.cells (tl9 0 0 (fun _ => 0) 0).toArray 73) = (w.alloc (.cells #[.int .i64 n, .int .i64 m, .slice a xs.length cap] 28)).alloc (.cells #[.int .i64 0, .int .i64 0, .int .i64 0, .int .i64 0, .int .i64 0, .int .i64 0, .int .i64 0, .int .i64 0, .int .i64 0] 73) from rfl] at L0 hr0
  obtain ⟨M', hM', hc⟩ := gridOf_good n m a cap xs _ hx hr0 hg
  obtain rfl : M' = M := by funext q; rw [hM', hM]
  have HC := Lib.hid hc
  have HLN := Lib.hid (fun W => lines_any n m M' k k W (by omega) (by omega) (by omega) (by omega) hk)
  have hk0 : (0 : Int) ≤ k := by omega
  have hk2 : (k : Int) < 2 := by omega
  have HL := Lib.hid L0
  obtain ⟨c1, hc1⟩ : ∃ c1, c1 = lnI n m k := ⟨_, rfl⟩
  rw [← hc1] at HLN ⊢
  clear L0 hc hM hM' hg hr0 hr g3 hc1
  go_enter Try.func61, Try.ntmps61
  go_upto_region 1 with fail
  generalize (w.alloc _).alloc _ = w1 at *
  have ⟨_, b0, b1, b2, _⟩ := HL.out.tl.ownBox
  go_wp2_with fail
  refine HC.out.mono ?_
  rintro e w2 ⟨rfl, hb⟩
  replace HL := Lib.hid ((HL.out.kept hb).has (gl n m M') 66)
  clear hb HC b0 b1 b2
  rw [show w2.alloc (.cells (gl n m M').toArray 66) = w2.alloc (.cells #[.int .i64 n, .int .i64 m, .int .i64 (M' 0), .int .i64 (M' 1), .int .i64 (M' 2), .int .i64 (M' 3), .int .i64 (M' 4), .int .i64 (M' 5)] 66) from rfl] at HL
  go_upto_region 2 with fail
  generalize w2.alloc _ = w3 at *
  obtain ⟨e0, e1, e2, e3, e4, e5, e6, e7, _⟩ := HL.out.ownHas.eight
  go_upto_region 5 with fail
  replace HL := Lib.hid (HL.out.has (tl9 n m M' k) 73)
  rw [show w3.alloc (.cells (tl9 n m M' k).toArray 73) = w3.alloc (.cells #[.int .i64 n, .int .i64 m, .int .i64 (M' 0), .int .i64 (M' 1), .int .i64 (M' 2), .int .i64 (M' 3), .int .i64 (M' 4), .int .i64 (M' 5), .int .i64 k] 73) from rfl] at HL
  clear e0 e1 e2 e3 e4 e5 e6 e7
  generalize w3.alloc _ = w4 at *
  generalize w3.heap.size = b8 at *
  replace HL := Lib.hid HL.out.drew
  have H9 := Lib.hid (fun W (h : Has W b8 (tl9 n m M' k) 73) => nine_held h)
  have hne : b8 ≠ w.heap.size + 1 := by
    have := (HL.out.tl.tl.ownHas.lt)
    intro e
    have hd := HL.out.dis
    exact (List.pairwise_cons.1 hd).1 (tHas (w.heap.size + 1) (tl9 0 0 (fun _ => 0) 0) 73) (by simp) b8 rfl (by show b8 = _; exact e)
  have HNE := Lib.hid hne
  clear hne
  go_region_held3 (fun w' => w'.cell? ⟨b8, 0, none⟩ = some (.int .i64 n) ∧ w'.cell? ⟨b8, 1, none⟩ = some (.int .i64 m) ∧ w'.cell? ⟨b8, 2, none⟩ = some (.int .i64 (M' 0)) ∧ w'.cell? ⟨b8, 3, none⟩ = some (.int .i64 (M' 1)) ∧ w'.cell? ⟨b8, 4, none⟩ = some (.int .i64 (M' 2)) ∧ w'.cell? ⟨b8, 5, none⟩ = some (.int .i64 (M' 3)) ∧ w'.cell? ⟨b8, 6, none⟩ = some (.int .i64 (M' 4)) ∧ w'.cell? ⟨b8, 7, none⟩ = some (.int .i64 (M' 5)) ∧ w'.cell? ⟨b8, 8, none⟩ = some (.int .i64 k)) (first | with_reducible exact H9.out _ HL.out.ownHas | exact H9.out _ (HL.out.ownHas.far9 (b := w.heap.size + 1) n m M' k HNE.out)) ((first
    | (go_at_call 101; ((with_reducible refine (firstSum_any _ _ _ _ _).mono ?_); rintro r wA ⟨rfl, hb⟩; replace HL := Lib.hid (HL.out.kept hb); clear hb; obtain ⟨f0, f1, f2, f3, f4, f5, f6, f7, f8, ff⟩ := HL.out.tl.tl.ownHas.nine))
    | (go_at_call 100; ((with_reducible refine (HLN.out _).mono ?_); rintro r wA ⟨rfl, hb⟩; replace HL := Lib.hid (HL.out.kept hb); clear hb f0 f1 f2 f3 f4 f5 f6 f7 f8 ff; obtain ⟨f0, f1, f2, f3, f4, f5, f6, f7, f8, ff⟩ := HL.out.tl.tl.ownHas.nine))
    | fail))
  all_goals
    have hp := HL.out.tl.tl.ownHas.put9 n m M' k
    have HB := Lib.hid (And.intro HL.out.below HL.out.tl.tl.ownHas.lt)
    clear HL f0 f1 f2 f3 f4 f5 f6 f7 f8 ff
    obtain ⟨f0, f1, f2, f3, f4, f5, f6, f7, f8, ff⟩ := hp.nine
    clear hp
    go_wp2_with fail
    refine bodyPost_ret (v := .tuple #[tv n m M' k, .bool (decide (0 < c1))]) (by simp [results, Try.results61, go_sem, f0, f1, f2, f3, f4, f5, f6, f7, f8]) rfl ⟨rfl, ?_⟩
    have h2 := HB.out.1
    repeat (refine Below.setCell ?_ (by simp <;> omega) _)
    exact h2
set_option maxRecDepth 100000 in
set_option maxHeartbeats 6400000 in
theorem turnedOf_bad (r c : Int) (a : Option Addr) (cap : Nat) (xs : List Int) (k : Int) (w : World) (hx : xs.length ≤ 1048576) (hr : Reads w a xs.length xs) (hg : goodB r c xs = false) :
    Calls Try.prog 61 #[.agg #[.int .i64 r, .int .i64 c, .slice a xs.length cap], .int .i64 k] w fun e w' => e = .returned (.tuple #[tv 0 0 (fun _ => 0) 0, .bool false]) ∧ Below w.heap.size w w' := by
  have L0 := ((Law.start w).box (.int .i64 r) (.int .i64 c) (.slice a xs.length cap) 28).has (tl9 0 0 (fun _ => 0) 0) 73
  simp only [World.size_alloc] at L0
  have hr0 := L0.reads hr
  rw [show (w.alloc (.cells #[.int .i64 r, .int .i64 c, .slice a xs.length cap] 28)).alloc (.cells (tl9 0 0 (fun _ => 0) 0).toArray 73) = (w.alloc (.cells #[.int .i64 r, .int .i64 c, .slice a xs.length cap] 28)).alloc (.cells #[.int .i64 0, .int .i64 0, .int .i64 0, .int .i64 0, .int .i64 0, .int .i64 0, .int .i64 0, .int .i64 0, .int .i64 0] 73) from rfl] at L0 hr0
  have hc := gridOf_no r c a cap xs _ hx hr0 hg
  have HC := Lib.hid hc
  have HL := Lib.hid L0
  clear L0 hc hg hr0 hr
  go_enter Try.func61, Try.ntmps61
  go_upto_region 1 with fail
  generalize (w.alloc _).alloc _ = w1 at *
  have ⟨_, b0, b1, b2, _⟩ := HL.out.tl.ownBox
  go_wp2_with fail
  refine HC.out.mono ?_
  rintro e w2 ⟨rfl, hb⟩
  replace HL := Lib.hid ((HL.out.kept hb).kept (below_new (.cells #[.int .i64 0, .int .i64 0, .int .i64 0, .int .i64 0, .int .i64 0, .int .i64 0, .int .i64 0, .int .i64 0] 66)))
  clear hb HC b0 b1 b2
  obtain ⟨f0, f1, f2, f3, f4, f5, f6, f7, f8, ff⟩ := HL.out.ownHas.nine
  have HB := Lib.hid (And.intro HL.out.below HL.out.ownHas.lt)
  clear HL
  go_wp2_with fail
  refine bodyPost_ret (v := .tuple #[tv 0 0 (fun _ => 0) 0, .bool false]) (by simp [results, Try.results61, go_sem, f0, f1, f2, f3, f4, f5, f6, f7, f8]) rfl ⟨rfl, ?_⟩
  have h2 := HB.out.1
  have h3 := HB.out.2
  simp only [World.size_alloc] at h3
  repeat (refine Below.setCell ?_ (by simp <;> omega) _)
  exact h2
set_option maxRecDepth 100000 in
set_option maxHeartbeats 6400000 in
theorem turnedOf_out (r c : Int) (a : Option Addr) (cap : Nat) (xs : List Int) (k : Int) (w : World) (hx : xs.length ≤ 1048576) (hr : Reads w a xs.length xs) (hg : goodB r c xs = true) (hk : ¬ (0 ≤ k ∧ k < 2)) :
    Calls Try.prog 61 #[.agg #[.int .i64 r, .int .i64 c, .slice a xs.length cap], .int .i64 k] w fun e w' => e = .returned (.tuple #[tv 0 0 (fun _ => 0) 0, .bool false]) ∧ Below w.heap.size w w' := by
  have L0 := ((Law.start w).box (.int .i64 r) (.int .i64 c) (.slice a xs.length cap) 28).has (tl9 0 0 (fun _ => 0) 0) 73
  simp only [World.size_alloc] at L0
  have hr0 := L0.reads hr
  rw [show (w.alloc (.cells #[.int .i64 r, .int .i64 c, .slice a xs.length cap] 28)).alloc (.cells (tl9 0 0 (fun _ => 0) 0).toArray 73) = (w.alloc (.cells #[.int .i64 r, .int .i64 c, .slice a xs.length cap] 28)).alloc (.cells #[.int .i64 0, .int .i64 0, .int .i64 0, .int .i64 0, .int .i64 0, .int .i64 0, .int .i64 0, .int .i64 0, .int .i64 0] 73) from rfl] at L0 hr0
  obtain ⟨M, hMM, hc⟩ := gridOf_good r c a cap xs _ hx hr0 hg
  clear hMM
  have HC := Lib.hid hc
  have HK := Lib.hid hk
  clear hk
  have HL := Lib.hid L0
  clear L0 hc hg hr0 hr
  by_cases hneg : k < 0
  · clear HK
    go_enter Try.func61, Try.ntmps61
    go_upto_region 1 with fail
    generalize (w.alloc _).alloc _ = w1 at *
    have ⟨_, b0, b1, b2, _⟩ := HL.out.tl.ownBox
    go_wp2_with fail
    refine HC.out.mono ?_
    rintro e w2 ⟨rfl, hb⟩
    replace HL := Lib.hid ((HL.out.kept hb).kept (below_new (.cells #[.int .i64 r, .int .i64 c, .int .i64 (M 0), .int .i64 (M 1), .int .i64 (M 2), .int .i64 (M 3), .int .i64 (M 4), .int .i64 (M 5)] 66)))
    clear hb HC b0 b1 b2
    go_upto_region 2 with fail
    generalize w2.alloc _ = w3 at *
    obtain ⟨f0, f1, f2, f3, f4, f5, f6, f7, f8, ff⟩ := HL.out.ownHas.nine
    have HB := Lib.hid (And.intro HL.out.below HL.out.ownHas.lt)
    clear HL
    go_wp2_with fail
    refine bodyPost_ret (v := .tuple #[tv 0 0 (fun _ => 0) 0, .bool false]) (by simp [results, Try.results61, go_sem, f0, f1, f2, f3, f4, f5, f6, f7, f8]) rfl ⟨rfl, ?_⟩
    have h2 := HB.out.1
    have h3 := HB.out.2
    repeat (refine Below.setCell ?_ (by simp <;> omega) _)
    exact h2
  · have hge : (2 : Int) ≤ k := by have := HK.out; omega
    clear HK
    go_enter Try.func61, Try.ntmps61
    go_upto_region 1 with fail
    generalize (w.alloc _).alloc _ = w1 at *
    have ⟨_, b0, b1, b2, _⟩ := HL.out.tl.ownBox
    go_wp2_with fail
    refine HC.out.mono ?_
    rintro e w2 ⟨rfl, hb⟩
    replace HL := Lib.hid ((HL.out.kept hb).kept (below_new (.cells #[.int .i64 r, .int .i64 c, .int .i64 (M 0), .int .i64 (M 1), .int .i64 (M 2), .int .i64 (M 3), .int .i64 (M 4), .int .i64 (M 5)] 66)))
    clear hb HC b0 b1 b2
    go_upto_region 2 with fail
    generalize w2.alloc _ = w3 at *
    obtain ⟨f0, f1, f2, f3, f4, f5, f6, f7, f8, ff⟩ := HL.out.ownHas.nine
    have HB := Lib.hid (And.intro HL.out.below HL.out.ownHas.lt)
    clear HL
    go_wp2_with fail
    refine bodyPost_ret (v := .tuple #[tv 0 0 (fun _ => 0) 0, .bool false]) (by simp [results, Try.results61, go_sem, f0, f1, f2, f3, f4, f5, f6, f7, f8]) rfl ⟨rfl, ?_⟩
    have h2 := HB.out.1
    have h3 := HB.out.2
    repeat (refine Below.setCell ?_ (by simp <;> omega) _)
    exact h2

end Go.Proofs.Ytakdiiccdkjjcaa
