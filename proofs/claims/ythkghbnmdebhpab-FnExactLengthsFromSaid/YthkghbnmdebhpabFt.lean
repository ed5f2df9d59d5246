/- Factors, lists and products of a series, in the program. No condition but the sizes. -/
import Derived.Test.YthkghbnmdebhpabFs
namespace Go.Proofs.Ythkghbnmdebhpab
open Go.RowKit Go.WideShapes

abbrev sl0 : List Value := [.int .i64 0, .int .i64 0, .int .i64 0, .int .i64 0, .int .i64 0, .int .i64 0, .int .i64 0]

set_option maxRecDepth 100000 in
set_option maxHeartbeats 1600000 in
theorem factors_any (xs : List Int) (w : World) (h1 : 1 ≤ xs.length) (h6 : xs.length ≤ 6) (hb : ∀ k, -1000 ≤ xs.getD k 0 ∧ xs.getD k 0 ≤ 1000) :
    Calls Try.prog 82 #[sv xs.length (fl xs)] w fun e w' => e = .returned (sv xs.length (fl (facs xs))) ∧ Below w.heap.size w w' := by
  have L0 := ((Law.start w).has (sl xs.length (fl xs)) 64).has sl0 64
  simp only [World.size_alloc] at L0
  obtain ⟨n, hn⟩ : ∃ n, n = xs.length := ⟨_, rfl⟩
  have hu : (facU xs).length = n := by rw [facU_len, hn]
  have hug := facU_get xs
  rw [← hn] at h1 h6 L0 hug ⊢
  have hov := over_zero (facU xs) xs
  rw [show fl xs = fl (over (facU xs) xs 0) by rw [hov]] at L0 ⊢
  have HL := Lib.hid L0
  have HN := Lib.hid hn.symm
  have HU := Lib.hid (And.intro hu hug)
  clear L0 hn hu hug hov
  generalize hM : fl (over (facU xs) xs 0) = M at *
  have HM := Lib.hid hM
  clear hM
  go_enter Try.func82, Try.ntmps82
  go_upto_region 1 with fail
  generalize ((w.alloc _).alloc _) = w5 at *
  have ⟨e0, _⟩ := HL.out.tl.ownHas.seven
  go_wp2_with fail
  go_loopw [6] (fun i wr => ∃ k : Nat, k ≤ n ∧ i = .int .i64 k ∧ Law w [tHas (w.heap.size + 1) sl0 64, tHas w.heap.size (sl n (fl (over (facU xs) xs k))) 64] wr) (fun i _ => n - (intOf i).toNat)
  case atStart => exact ⟨0, Nat.zero_le _, rfl, by rw [HM.out]; exact HL.out⟩
  case round =>
    clear HL e0 HM
    obtain ⟨k, hk, rfl, L⟩ := hrel
    by_cases hlt : k < n
    · have c1 := L.tl.ownHas.cell (1 + k)
      rw [sl_get _ _ k (by omega)] at c1
      simp only [fl, over_get (facU xs) xs k n HU.out.1 HN.out hlt] at c1
      have hfr := L.tl.ownHas.free (1 + k)
      have hS := Law.setHas (ts := [_]) L (1 + k) (.int .i64 (xs.getD k 0 - k))
      rw [sl_set n _ (fl (over (facU xs) xs (k + 1))) k (by omega) (xs.getD k 0 - k) (by
          simp only [fl]
          rw [← over_set (facU xs) xs k n HU.out.1 HN.out hlt (xs.getD k 0 - k) (HU.out.2 k hlt), List.getD_eq_getElem?_getD, List.getElem?_set_self (by rw [over_len (facU xs) xs k n HU.out.1 HN.out hk]; exact hlt)]
          rfl) (fun q hq => by
          simp only [fl]
          rw [← over_set (facU xs) xs k n HU.out.1 HN.out hlt (xs.getD k 0 - k) (HU.out.2 k hlt), List.getD_eq_getElem?_getD, List.getElem?_set_ne (fun e => hq e.symm), ← List.getD_eq_getElem?_getD])] at hS
      have HS := Lib.hid hS
      have hx := hb k
      generalize xs.getD k 0 = x at *
      have hw : IntKind.i64.wrap (x - k) = x - k := IntWalk.i64_in _ (by omega)
      clear L hS hx hb
      go_wp2_with fail
      go_roundw
      case rel => exact ⟨k + 1, by omega, by go_num, HS.out⟩
      case measure => simp [intOf]; omega
    · obtain rfl : k = n := by omega
      rw [over_full (facU xs) xs k HU.out.1 HN.out] at L
      have hlen := HU.out.1
      have ⟨e0, _⟩ := L.tl.ownHas.seven
      have HL := Lib.hid L
      have hk0 : (0 : Int) ≤ k := by omega
      have hk1 : (k : Int) ≤ 6 := by omega
      have hc := fun (W : World) (hH : Has W w.heap.size (sl (facU xs).length (fl (facU xs))) 64) => sort_any w.heap.size (facU xs).length (facU xs) W (by omega) (by omega) hH
      rw [hlen] at hc
      have HC := Lib.hid hc
      clear L hc hlen hlt
      go_wp2_with fail
      refine (HC.out _ HL.out.tl.ownHas).mono ?_
      rintro e w2 ⟨⟨v, rfl⟩, hH, hC⟩
      have L2 := Law.write (ts := [_]) HL.out hC (tHas w.heap.size (sl k (fl (sortL (facU xs)))) 64) rfl hH
      obtain ⟨f0, f1, f2, f3, f4, f5, f6, _⟩ := L2.ownHas.seven
      obtain ⟨e0, e1, e2, e3, e4, e5, e6, _⟩ := L2.tl.ownHas.seven
      have HB := Lib.hid L2.below
      clear HL L2 hH hC HC
      go_wp2_with fail
      refine bodyPost_ret (v := sv k (fl (facs xs))) (by simp [results, Try.results82, go_sem, f0, f1, f2, f3, f4, f5, f6, facs]) rfl ⟨rfl, ?_⟩
      have h2 := HB.out
      repeat (refine Below.setCell ?_ (by simp <;> omega) _)
      exact h2

theorem sl_vals (n : Int) (L : List Int) (h : L.length ≤ 6) (j : Nat) (v : Value) (hj : (L.map (Value.int .i64))[j]? = some v) : (sl n (fl L))[1 + j]? = some v := by
  obtain ⟨hx1, rfl⟩ := List.getElem?_eq_some_iff.1 hj
  simp only [List.length_map] at hx1
  rw [sl_get _ _ j (by omega)]
  simp [hx1]

set_option maxRecDepth 100000 in
set_option maxHeartbeats 1600000 in
theorem list_any (L : List Int) (w : World) (h6 : L.length ≤ 6) :
    Calls Try.prog 56 #[sv L.length (fl L)] w fun e w' => ∃ s, e = .returned s ∧ Own w' w.heap.size s L ∧ Below w.heap.size w w' := by
  have L0 := (Law.start w).has (sl L.length (fl L)) 64
  obtain ⟨n, hn⟩ : ∃ n, n = L.length := ⟨_, rfl⟩
  have HS := Lib.hid (fun n j v => sl_vals n L h6 j v)
  rw [← hn] at h6 L0 ⊢
  have hmk := run_make_row' (P := Try.prog) 22 3 (.int .i64 0) 8 Try.underlying22 Try.infoI rfl .i64 .i64 n (by omega) (by omega)
  have HL := Lib.hid L0
  have HN := Lib.hid hn.symm
  clear L0 hn
  generalize hM : fl L = M at *
  have HM := Lib.hid hM
  clear hM
  go_enter Try.func56, Try.ntmps56
  go_upto_region 1 with fail
  generalize w.alloc _ = w5 at *
  have ⟨e0, _⟩ := HL.out.ownHas.seven
  go_upto_region 2 with fail
  have L2 := HL.out.add (below_new (.cells (madeCells #[.int .i64 0] n) 3)) (tHas w5.heap.size (List.replicate n (.int .i64 0)) 3) (show Has _ _ _ _ by rw [made_eq]; exact Has.new w5 _ _) (fun k hk => by
    have hk : k = w5.heap.size := hk
    subst hk
    simp)
  have hlt : w.heap.size < w5.heap.size := HL.out.ownHas.lt
  have HL2 := Lib.hid L2
  clear HL L2 e0 hmk
  generalize w5.alloc (.cells (madeCells #[.int .i64 0] n) 3) = w6 at *
  obtain ⟨b, hb⟩ : ∃ b, b = w5.heap.size := ⟨_, rfl⟩
  rw [← hb] at HL2 hlt ⊢
  clear hb
  have HV := Lib.hid (show (L.map (Value.int .i64)).length = Nat.min 6 n by rw [List.length_map, HN.out]; exact (Nat.min_eq_right h6).symm)
  have HF := Lib.hid (show 0 + (L.map (Value.int .i64)).length ≤ (List.replicate n (Value.int .i64 0)).length by rw [List.length_map, HN.out, List.length_replicate]; omega)
  have HP := Lib.hid (show ∀ j v, (L.map (Value.int .i64))[j]? = some v → w6.cell? ((⟨w.heap.size, 1, none⟩ : Addr).add j) = some v from fun j v hj => by
    rw [add_plain, HL2.out.tl.ownHas.cell]
    exact HS.out _ _ _ hj)
  have HG := Lib.hid HL2.out.ownHas.row
  go_wp2_with (with_reducible refine wpList_copy_splice rfl (.tmp 7) (.tmp 9) 22 22 rfl 3 Try.underlying22 (by kernel_rfl) _ _ n n 6 6 rfl rfl b 0 _ 3 HG.out _ HV.out (fun _ => ⟨rfl, _, rfl, HP.out⟩) HF.out (ints_oneCell _ _) b _ (Below.refl _ _) (Nat.le_refl _) ?_)
  intro w4 hg4 hb4
  have H4 : Has w4 b (L.map (Value.int .i64)) 3 := by
    have h : Has w4 b _ 3 := hg4.out
    rw [splice_all n _ (by rw [List.length_map, HN.out])] at h
    exact h
  have HB4 := Lib.hid (HL2.out.below.trans (hb4.mono (by omega)))
  have HO := Lib.hid (own_of_has (lo := w.heap.size) H4 (by omega) HN.out (by unfold maxLen; omega))
  clear hb4 hg4 H4 HG HP HF HV HL2
  go_wp2_with fail
  go_ret
  exact ⟨_, rfl, HO.out, HB4.out⟩

end Go.Proofs.Ythkghbnmdebhpab
