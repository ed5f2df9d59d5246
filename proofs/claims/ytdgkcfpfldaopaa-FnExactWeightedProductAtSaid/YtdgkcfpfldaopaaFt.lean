/- Factors, lists and products of a series, in the program. No condition but the sizes. -/
import Derived.Test.YtdgkcfpfldaopaaFs
namespace Go.Proofs.Ytdgkcfpfldaopaa
open Go.RowKit Go.WideShapes

abbrev sl0 : List Value := [.int .i64 0, .int .i64 0, .int .i64 0, .int .i64 0, .int .i64 0, .int .i64 0, .int .i64 0]

set_option maxRecDepth 100000 in
set_option maxHeartbeats 1600000 in
theorem factors_any (xs : List Int) (w : World) (h1 : 1 ≤ xs.length) (h6 : xs.length ≤ 6) (hb : ∀ k, -1000 ≤ xs.getD k 0 ∧ xs.getD k 0 ≤ 1000) :
    Calls Try.prog 86 #[sv xs.length (fl xs)] w fun e w' => e = .returned (sv xs.length (fl (facs xs))) ∧ Below w.heap.size w w' := by
  have L0 := ((Law.start w).has (sl xs.length (fl xs)) 59).has sl0 59
  simp only [World.size_alloc] at L0
  obtain ⟨n, hn⟩ : ∃ n, n = xs.length := ⟨_, rfl⟩
  have hu : (facU xs).length = n := by rw [facU_len, hn]
  have hug := facU_get xs
  rw [← hn] at h1 h6 L0 hug ⊢
  have hov := over_zero (facU xs) xs
  rw [show fl xs = fl (over (facU xs) xs 0) by rw [hov]] at L0 ⊢
  have HL := Lib.hid L0
  have HN := Lib.hid hn.symm
  have HU := Lib.hid (And.intro hu hug)
  clear L0 hn hu hug hov
  generalize hM : fl (over (facU xs) xs 0) = M at *
  have HM := Lib.hid hM
  clear hM
  go_enter Try.func86, Try.ntmps86
  go_upto_region 1 with fail
  generalize ((w.alloc _).alloc _) = w5 at *
  have ⟨e0, _⟩ := HL.out.tl.ownHas.seven
  go_wp2_with fail
  go_loopw [6] (fun i wr => ∃ k : Nat, k ≤ n ∧ i = .int .i64 k ∧ Law w [tHas (w.heap.size + 1) sl0 59, tHas w.heap.size (sl n (fl (over (facU xs) xs k))) 59] wr) (fun i _ => n - (intOf i).toNat)
  case atStart => exact ⟨0, Nat.zero_le _, rfl, by rw [HM.out]; exact HL.out⟩
  case round =>
    clear HL e0 HM
    obtain ⟨k, hk, rfl, L⟩ := hrel
    by_cases hlt : k < n
    · have c1 := L.tl.ownHas.cell (1 + k)
      rw [sl_get _ _ k (by omega)] at c1
      simp only [fl, over_get (facU xs) xs k n HU.out.1 HN.out hlt] at c1
      have hfr := L.tl.ownHas.free (1 + k)
      have hS := Law.setHas (ts := [_]) L (1 + k) (.int .i64 (xs.getD k 0 - k))
      rw [sl_set n _ (fl (over (facU xs) xs (k + 1))) k (by omega) (xs.getD k 0 - k) (by
          simp only [fl]
          rw [← over_set (facU xs) xs k n HU.out.1 HN.out hlt (xs.getD k 0 - k) (HU.out.2 k hlt), List.getD_eq_getElem?_getD, List.getElem?_set_self (by rw [over_len (facU xs) xs k n HU.out.1 HN.out hk]; exact hlt)]
          rfl) (fun q hq => by
          simp only [fl]
          rw [← over_set (facU xs) xs k n HU.out.1 HN.out hlt (xs.getD k 0 - k) (HU.out.2 k hlt), List.getD_eq_getElem?_getD, List.getElem?_set_ne (fun e => hq e.symm), ← List.getD_eq_getElem?_getD])] at hS
      have HS := Lib.hid hS
      have hx := hb k
      generalize xs.getD k 0 = x at *
      have hw : IntKind.i64.wrap (x - k) = x - k := IntWalk.i64_in _ (by omega)
      clear L hS hx hb
      go_wp2_with fail
      go_roundw
      case rel => exact ⟨k + 1, by omega, by go_num, HS.out⟩
      case measure => simp [intOf]; omega
    · obtain rfl : k = n := by omega
      rw [over_full (facU xs) xs k HU.out.1 HN.out] at L
      have hlen := HU.out.1
      have ⟨e0, _⟩ := L.tl.ownHas.seven
      have HL := Lib.hid L
      have hk0 : (0 : Int) ≤ k := by omega
      have hk1 : (k : Int) ≤ 6 := by omega
      have hc := fun (W : World) (hH : Has W w.heap.size (sl (facU xs).length (fl (facU xs))) 59) => sort_any w.heap.size (facU xs).length (facU xs) W (by omega) (by omega) hH
      rw [hlen] at hc
      have HC := Lib.hid hc
      clear L hc hlen hlt
      go_wp2_with fail
      refine (HC.out _ HL.out.tl.ownHas).mono ?_
      rintro e w2 ⟨⟨v, rfl⟩, hH, hC⟩
      have L2 := Law.write (ts := [_]) HL.out hC (tHas w.heap.size (sl k (fl (sortL (facU xs)))) 59) rfl hH
      obtain ⟨f0, f1, f2, f3, f4, f5, f6, _⟩ := L2.ownHas.seven
      obtain ⟨e0, e1, e2, e3, e4, e5, e6, _⟩ := L2.tl.ownHas.seven
      have HB := Lib.hid L2.below
      clear HL L2 hH hC HC
      go_wp2_with fail
      refine bodyPost_ret (v := sv k (fl (facs xs))) (by simp [results, Try.results86, go_sem, f0, f1, f2, f3, f4, f5, f6, facs]) rfl ⟨rfl, ?_⟩
      have h2 := HB.out
      repeat (refine Below.setCell ?_ (by simp <;> omega) _)
      exact h2

theorem sl_vals (n : Int) (L : List Int) (h : L.length ≤ 6) (j : Nat) (v : Value) (hj : (L.map (Value.int .i64))[j]? = some v) : (sl n (fl L))[1 + j]? = some v := by
  obtain ⟨hx1, rfl⟩ := List.getElem?_eq_some_iff.1 hj
  simp only [List.length_map] at hx1
  rw [sl_get _ _ j (by omega)]
  simp [hx1]

end Go.Proofs.Ytdgkcfpfldaopaa
