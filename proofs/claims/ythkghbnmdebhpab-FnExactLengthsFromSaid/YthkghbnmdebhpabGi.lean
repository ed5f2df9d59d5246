/- One class of lengths, in the program. No condition but the sizes. -/
import Derived.Test.YthkghbnmdebhpabGh
import Derived.Deep.RegionWith
namespace Go.Proofs.Ythkghbnmdebhpab
open Go.RowKit Go.WideShapes Go.ChangeMaps

theorem OwnS.lower {w : World} {lo lo' : Nat} {v : Value} {n : Nat} {LL : List (List Int)} (h : OwnS w lo v n LL) (hl : lo' ≤ lo) : OwnS w lo' v n LL := by
  refine ⟨h.1, ?_⟩
  rcases h.2 with h | ⟨g, cap, cur, e, hb, r⟩
  · exact .inl h
  · exact .inr ⟨g, cap, cur, e, Nat.le_trans hl hb, r⟩

set_option maxRecDepth 100000 in
set_option maxHeartbeats 3200000 in
theorem classOf_any (xs : List Int) (w : World) (h1 : 1 ≤ xs.length) (h6 : xs.length ≤ 6) (hb1 : ∀ k, -1000 ≤ xs.getD k 0 ∧ xs.getD k 0 ≤ 1000) (hb2 : ∀ k, -1000 ≤ (facs xs).getD k 0 ∧ (facs xs).getD k 0 ≤ 1000) :
    Calls Try.prog 55 #[sv xs.length (fl xs)] w fun e w' => ∃ v, e = .returned v ∧ OwnS w' w.heap.size v xs.length (clsL xs.length (facs xs)) ∧ Below w.heap.size w w' := by
  have HF := Lib.hid (fun W => factors_any xs W h1 h6 hb1)
  have HC := Lib.hid (fun W => classesOf_any xs.length W h1 h6)
  have HK := Lib.hid (fun (W0 W : World) (b : Nat) (gs : List Cls) (hg : Good xs.length (goOn xs.length xs.length 0) gs) (L : Law W0 (tGr b xs.length gs ++ []) W) => L.lookG Try.underlying71 h6 hg (facs xs) (facs_len xs) hb2)
  have L0 := (Law.start w).has (sl xs.length (fl xs)) 64
  generalize hR : clsL xs.length (facs xs) = R at *
  rw [show byF (goOn xs.length xs.length 0) (facs xs) = R from hR] at HK
  generalize goOn xs.length xs.length 0 = LL at *
  generalize fl xs = F at *
  generalize fl (facs xs) = N at *
  clear hb1 hb2 hR
  generalize xs.length = n at *
  rw [show w.alloc (.cells (sl n F).toArray 64) = w.alloc (.cells #[.int .i64 n, .int .i64 (F 0), .int .i64 (F 1), .int .i64 (F 2), .int .i64 (F 3), .int .i64 (F 4), .int .i64 (F 5)] 64) from rfl] at L0
  have HL := Lib.hid L0
  clear L0
  go_enter Try.func55, Try.ntmps55
  go_upto_region 1 with fail
  generalize w.alloc _ = w5 at *
  have ⟨f0, f1, f2, f3, f4, f5, f6, _⟩ := HL.out.ownHas.seven
  replace HL := Lib.hid HL.out.drew
  go_region_with ((first
    | (go_at_call 60; ((with_reducible refine (HC.out _).mono ?_); rintro e wA ⟨b, gs, rfl, hG, hM⟩; have HSZ := Lib.hid HL.out.below.size; replace HL := Lib.hid (HL.out.kept hM.below); have HG := Lib.hid hG; have HM := Lib.hid hM; clear hM hG; have ⟨f0, f1, f2, f3, f4, f5, f6, _⟩ := HL.out.ownHas.seven; have ⟨v, hlook, hO⟩ := HK.out _ _ _ _ HG.out HM.out; have HO := Lib.hid hO; clear hO))
    | (go_at_call 82; ((with_reducible refine (HF.out _).mono ?_); rintro e wB ⟨rfl, hbB⟩; replace HL := Lib.hid (HL.out.kept hbB); have ⟨f0, f1, f2, f3, f4, f5, f6, _⟩ := HL.out.ownHas.seven; (try (have ⟨v2, hlook2, hO2⟩ := HK.out _ _ _ _ HG.out (HM.out.kept hbB); have HO2 := Lib.hid hO2; clear hO2)); clear hbB))))
  all_goals
    have HB2 := Lib.hid HL.out.below
    clear HL
    go_wp2_with fail
    go_ret
    first
      | exact ⟨_, rfl, HO2.out.lower HSZ.out, HB2.out⟩
      | exact ⟨_, rfl, HO.out.lower HSZ.out, HB2.out⟩

end Go.Proofs.Ythkghbnmdebhpab
