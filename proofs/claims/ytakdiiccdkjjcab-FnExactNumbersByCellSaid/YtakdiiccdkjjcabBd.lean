/- Rook numbers by a cell, in both texts. No condition but the sizes. -/
import Derived.Test.YtakdiiccdkjjcabBc
import Derived.Deep.RegionWith
import Derived.Test.YtakdiiccdkjjcabT2
namespace Go.Proofs.Ytakdiiccdkjjcab
open Go.RowKit Go.WideShapes

theorem Law.ownLoOf {w0 w : World} {s : Value} {xs : List Int} {ts : List Thing} (h : Law w0 ts w) (hm : tOwn s xs ∈ ts) : Own w w0.heap.size s xs := by
  have h1 : Law w0 [tOwn s xs] w := ⟨h.below, fun t ht => by rw [List.mem_singleton.1 ht]; exact h.holds _ hm, fun t ht => by rw [List.mem_singleton.1 ht]; exact h.range _ hm, by simp⟩
  exact h1.ownLo
theorem Law.apart {w0 w : World} {s s2 : Value} {xs ys : List Int} {a b c : List Thing} (h : Law w0 (a ++ tOwn s xs :: (b ++ tOwn s2 ys :: c)) w) : (∀ k, s.ownBlock = some k → s2.ownBlock ≠ some k) ∧ (∀ k, s2.ownBlock = some k → s.ownBlock ≠ some k) := by
  have hd := h.dis
  rw [List.pairwise_append, List.pairwise_cons] at hd
  have := hd.2.1.1 (tOwn s2 ys) (by simp)
  exact ⟨fun k e e2 => this k e e2, fun k e e2 => this k e2 e⟩

set_option maxRecDepth 100000 in
set_option maxHeartbeats 12800000 in
theorem specBy_any (r c : Int) (xs : List Int) (i j : Int) (w : World) (hx : xs.length ≤ 1048576) (lo : Nat) (s : Value) (hO : Own w lo s xs) :
    Calls Try.prog 42 #[.agg #[.int .i64 r, .int .i64 c, s], .int .i64 i, .int .i64 j] w fun e w' => AnsLL (byB r c xs i j) w e w' := by
  have L0 := (Law.start w).box (.int .i64 r) (.int .i64 c) s 28
  have hO0 := hO.kept L0.below
  have HO := Lib.hid hO
  obtain ⟨a, cap, rfl, _⟩ := hO.reads
  clear hO
  have HC := Lib.hid (boPlace_any r c xs i j _ hx lo _ hO0)
  cases hp : placeB r c xs i j
  · rw [show byB r c xs i j = ⟨[], [], false⟩ by simp [byB, hp]]
    rw [hp] at HC
    clear hp
    go_enter Try.func42, Try.ntmps42
    go_wp2_with fail
    refine HC.out.mono ?_
    rintro e w1 ⟨rfl, hb⟩
    have HB := Lib.hid (L0.kept hb).below
    clear hb L0 hO0 HC
    go_wp2_with fail
    go_ret3
    exact ansLL_no _ _ HB.out
  · rw [hp] at HC
    have hp' := hp
    rw [placeB, Bool.and_eq_true, insB_iff] at hp'
    obtain ⟨hg, h1, h2, h3, h4⟩ := hp'
    obtain ⟨g1, g2, g3, _⟩ := good_facts hg
    obtain ⟨k, rfl⟩ := Int.eq_ofNat_of_zero_le h1
    obtain ⟨l, rfl⟩ := Int.eq_ofNat_of_zero_le h3
    have hbit : bitB xs k l = (xs.getD k 0).toNat.testBit l := by simp [bitB]
    have hcell := good_cell hg
    have HH := Lib.hid (fun W (hO : Own W lo (.slice a xs.length cap) xs) => boHas_any r c xs k l W (by omega) hx (by omega) (hcell k) lo _ hO)
    cases hb1 : (xs.getD k 0).toNat.testBit l
    · rw [show byB r c xs k l = ⟨[], [], false⟩ by unfold byB; rw [hbit, hb1, Bool.and_false]; rfl]
      rw [hb1] at HH
      clear hp hbit hg hcell hb1
      go_enter Try.func42, Try.ntmps42
      go_wp2_with fail
      refine HC.out.mono ?_
      rintro e w1 ⟨rfl, hb⟩
      have ⟨_, k0, k1, k2, _⟩ := (L0.kept hb).ownBox
      have hO1 := hO0.kept hb
      have HL := Lib.hid (L0.kept hb)
      clear hb L0 hO0 HC
      go_wp2_with fail
      refine (HH.out _ hO1).mono ?_
      rintro e w2 ⟨rfl, hb⟩
      have HB := Lib.hid (HL.out.kept hb).below
      clear hb HL hO1 HH k0 k1 k2
      go_wp2_with fail
      go_ret3
      exact ansLL_no _ _ HB.out
    · obtain ⟨n, rfl⟩ : ∃ n : Nat, r = (n : Int) + 1 := ⟨(r - 1).toNat, by omega⟩
      obtain ⟨m, rfl⟩ : ∃ m : Nat, c = (m : Int) + 1 := ⟨(c - 1).toNat, by omega⟩
      rw [show byB ((n : Int) + 1) ((m : Int) + 1) xs k l = ⟨numL (n + 1) (m + 1) (bt (lessL xs k l)), numL n m (bt (strikeL xs k l m)), true⟩ by
        have e1 : ((n : Int) + 1).toNat = n + 1 := by omega
        have e2 : ((m : Int) + 1).toNat = m + 1 := by omega
        unfold byB
        rw [hp, hbit, hb1, Bool.and_self, if_pos rfl, e1, e2]
        simp only [Int.toNat_natCast, Nat.add_sub_cancel]]
      rw [hb1] at HH
      have hn1 := fun (W : World) (lo' : Nat) (s' : Value) (hO : Own W lo' s' (lessL xs k l)) => roNumbers_any (n + 1) (m + 1) (lessL xs k l) W (by rw [lessL_len]; omega) (by omega) (by omega) (by rw [lessL_len]; omega) (lessL_cell xs k l hcell (by omega) hb1) lo' s' hO
      rw [show ((n + 1 : Nat) : Int) = (n : Int) + 1 by push_cast; rfl, show ((m + 1 : Nat) : Int) = (m : Int) + 1 by push_cast; rfl] at hn1
      have hs1 := fun (W : World) (hO : Own W lo (.slice a xs.length cap) xs) => boStrike_any ((n : Int) + 1) ((m : Int) + 1) xs k l m W hx hg (by omega) (by omega) rfl lo _ hO
      rw [show (n : Int) + 1 - 1 = n by omega] at hs1
      have hn2 := fun (W : World) (lo' : Nat) (s' : Value) (hO : Own W lo' s' (strikeL xs k l m)) => roNumbers_any n m (strikeL xs k l m) W (by rw [strikeL_len _ _ _ _ (by omega)]; omega) (by omega) (by omega) (by rw [strikeL_len _ _ _ _ (by omega)]; omega) (strikeL_cell xs k l m (by omega)) lo' s' hO
      have HOW := Lib.hid (fun (W : World) (hO : Own W lo (.slice a xs.length cap) xs) => boOwn_any ((n : Int) + 1) ((m : Int) + 1) xs W hx lo _ hO)
      have HN1 := Lib.hid hn1
      have HN2 := Lib.hid hn2
      have HS := Lib.hid hs1
      obtain ⟨_, _, _, hw1, hw2⟩ := less_bd _ l (hcell k) (by omega) hb1
      have hxk : (k : Int) < xs.length := by omega
      have hkx : k < xs.length := by omega
      have hk0 : (0 : Int) ≤ k := by omega
      have hl0 : (0 : Int) ≤ l := by omega
      have hl64 : (l : Int) < 64 := by omega
      have hset : xs.set k (xs.getD k 0 - 2 ^ l) = lessL xs k l := rfl
      have HSET := Lib.hid hset
      have hlen : (lessL xs k l).length = xs.length := lessL_len xs k l
      have HLL := Lib.hid hlen
      generalize min (n + 1) (m + 1) = qa at *
      generalize min n m = qb at *
      generalize lessL xs k l = us at *
      generalize strikeL xs k l m = vs at *
      generalize numL (n + 1) (m + 1) (bt us) = A1 at *
      generalize numL n m (bt vs) = A2 at *
      obtain ⟨x, hxx⟩ : ∃ x, x = xs.getD k 0 := ⟨_, rfl⟩
      have HXX := Lib.hid hxx
      rw [← hxx] at hw1 hw2
      clear hp hbit hg hcell hb1 hn1 hn2 hs1 hset hlen hxx g1 g2 g3
      go_enter Try.func42, Try.ntmps42
      go_wp2_with fail
      refine HC.out.mono ?_
      rintro e w1 ⟨rfl, hb⟩
      have ⟨_, k0, k1, k2, _⟩ := (L0.kept hb).ownBox
      have hO1 := hO0.kept hb
      have HL := Lib.hid (L0.kept hb)
      clear hb L0 hO0 HC
      go_wp2_with fail
      refine (HH.out _ hO1).mono ?_
      rintro e w2 ⟨rfl, hb⟩
      have L2 := HL.out.kept hb
      have hO2 := hO1.kept hb
      clear hb HL hO1 HH k0 k1 k2
      have ⟨_, k0, k1, k2, _⟩ := L2.ownBox
      have HL := Lib.hid L2
      clear L2
      go_wp2_with fail
      refine (HOW.out _ hO2).mono ?_
      rintro e w3 ⟨v, rfl, hO3, hb⟩
      rcases hO3.cases with ⟨_, h0⟩ | ⟨g, p, hv, _, _, _, _⟩
      · rw [h0] at hkx; simp at hkx
      · subst hv
        have hO4 := hO2.kept hb
        have L3 := (HL.out.own hb hO3).box (.int .i64 ((n : Int) + 1)) (.int .i64 ((m : Int) + 1)) (.slice (some ⟨g, 0, none⟩) xs.length p) 28
        have hO5 := hO4.kept (below_new (.cells #[.int .i64 ((n : Int) + 1), .int .i64 ((m : Int) + 1), .slice (some ⟨g, 0, none⟩) xs.length p] 28))
        have HL3 := Lib.hid L3
        have HO5 := Lib.hid hO5
        clear HL hO2 hO3 hO4 hO5 hb L3 HOW k0 k1 k2
        go_upto_region 4 with fail
        generalize w3.alloc (.cells #[.int .i64 ((n : Int) + 1), .int .i64 ((m : Int) + 1), .slice (some ⟨g, 0, none⟩) xs.length p] 28) = w5 at *
        obtain ⟨b9, hb9⟩ : ∃ b9, b9 = w3.heap.size := ⟨_, rfl⟩
        rw [← hb9] at HL3 ⊢
        clear hb9
        have ⟨_, j0, j1, j2, jf⟩ := HL3.out.ownBox
        have oK := HL3.out.tl.ownInts
        have y1 := Own.cell oK k hkx
        have y2 := Own.free oK k
        rw [← HXX.out] at y1
        have hS := (Law.store (ts := [_]) HL3.out rfl k (x - 2 ^ l)).drew
        rw [HXX.out, HSET.out, ← HXX.out] at hS
        have HL4 := Lib.hid hS
        clear hS oK HL3 HO5
        go_region
        generalize (w5.setCell ⟨g, k, none⟩ (.int .i64 (x - 2 ^ l))).drew = w6 at *
        have L5 := HL4.out.drew
        have HL := Lib.hid L5
        have ⟨_, i0, i1, i2, _⟩ := L5.boxOf (n := b9) (x := .int .i64 ((n : Int) + 1)) (y := .int .i64 ((m : Int) + 1)) (z := .slice (some ⟨g, 0, none⟩) xs.length p) (by simp)
        have ⟨_, q0, q1, q2, _⟩ := L5.boxOf (n := w.heap.size) (x := .int .i64 ((n : Int) + 1)) (y := .int .i64 ((m : Int) + 1)) (z := .slice a xs.length cap) (by simp)
        clear L5 HL4 j0 j1 j2 y1 y2 hw1 hw2
        go_wp2_with fail
        go_region_with ((first
          | (go_at_call 79; ((with_reducible refine (HN1.out _ 0 _ (HL.out.ownOf (by simp))).mono ?_); rintro e wA ⟨gA, pA, rfl, hOA, hbA⟩; replace HL := Lib.hid (HL.out.own hbA hOA); (try (replace q0 := cell_later hbA q0)); (try (replace q1 := cell_later hbA q1)); (try (replace q2 := cell_later hbA q2)); clear hOA hbA))
          | (go_at_call 80; ((with_reducible refine (HS.out _ (HO.out.kept HL.out.below)).mono ?_); rintro e wS ⟨vS, rfl, hOS, hbS⟩; replace HL := Lib.hid (HL.out.own hbS hOS); (try (replace i0 := cell_later hbS i0)); (try (replace i1 := cell_later hbS i1)); (try (replace i2 := cell_later hbS i2)); clear hOS hbS))
          | (go_at_call 79; ((with_reducible refine (HN2.out _ 0 vS (HL.out.ownOf (by simp))).mono ?_); rintro e wB ⟨gB, pB, rfl, hOB, hbB⟩; replace HL := Lib.hid (HL.out.own hbB hOB); (try (replace i0 := cell_later hbB i0)); (try (replace i1 := cell_later hbB i1)); (try (replace i2 := cell_later hbB i2)); clear hOB hbB))))
        all_goals
          go_wp2_with fail
          go_ret3
          first
          | exact ⟨.slice (some ⟨gA, 0, none⟩) (qa + 1) pA, .slice (some ⟨gB, 0, none⟩) (qb + 1) pB, rfl, HL.out.ownLoOf (by simp), HL.out.ownLoOf (by simp), (Law.apart (a := []) (b := []) HL.out).1, HL.out.below⟩
          | exact ⟨.slice (some ⟨gA, 0, none⟩) (qa + 1) pA, .slice (some ⟨gB, 0, none⟩) (qb + 1) pB, rfl, HL.out.ownLoOf (by simp), HL.out.ownLoOf (by simp), (Law.apart (a := []) (b := []) HL.out).2, HL.out.below⟩
          | exact ⟨.slice (some ⟨gA, 0, none⟩) (qa + 1) pA, .slice (some ⟨gB, 0, none⟩) (qb + 1) pB, rfl, HL.out.ownLoOf (by simp), HL.out.ownLoOf (by simp), (Law.apart (a := []) (b := [_]) HL.out).2, HL.out.below⟩
end Go.Proofs.Ytakdiiccdkjjcab
