import Derived.Test.YtdgkcfpfldaopaaFold19
import Derived.Test.YtdgkcfpfldaopaaFold8
import Derived.Test.YtdgkcfpfldaopaaFold7
import Derived.Test.YtdgkcfpfldaopaaFold6

section
namespace Go.Proofs.Ytdgkcfpfldaopaa
open Go.RowKit Go.WideShapes

set_option maxRecDepth 100000 in
set_option maxHeartbeats 3200000 in
theorem feSorted_any (a : Option Addr) (pc : Nat) (xs : List Int) (w : World) (h6 : xs.length ≤ 1000) (hr : Reads w a xs.length xs) :
    Calls Try.prog 118 #[.slice a xs.length pc] w fun e w' => ∃ v, e = .returned v ∧ Own w' w.heap.size v (sortL xs) ∧ Below w.heap.size w w' := by
  go_enter Try.func118, Try.ntmps118
  go_wp2_with fail
  go_loopw [3, 10] (fun o i wr => ∃ k : Nat, k ≤ xs.length ∧ i = .int .i64 k ∧ Own wr w.heap.size o (sortL (xs.take k)) ∧ Below w.heap.size w wr) (fun _ i _ => xs.length - (intOf i).toNat)
  case atStart => exact ⟨0, Nat.zero_le _, rfl, by simpa [sortL] using Own.nil _ _, Below.refl _ _⟩
  case round =>
    obtain ⟨k, hk, rfl, hO, hB⟩ := hrel
    obtain ⟨wo, rfl⟩ : ∃ wo : World, wo = wr := ⟨_, rfl⟩
    by_cases hlt : k < xs.length
    · have hL := (Law.start w).own hB hO
      obtain ⟨b, off, rfl, hbl, hc⟩ := reads_row (hr.kept hB) (by omega)
      have hck := hc k hlt
      have hsucc := sortL_succ xs k hlt
      obtain ⟨p, hp⟩ : ∃ p, p = sortL (xs.take k) := ⟨_, rfl⟩
      have hpl : p.length = k := by rw [hp, sortL_len, List.length_take]; omega
      rw [← hp] at hO hsucc hL
      generalize xs.getD k 0 = x at *
      have HS := Lib.hid hsucc
      have HL := Lib.hid hL
      clear hc hbl hsucc hp hB hL
      rcases hO.cases with ⟨rfl, rfl⟩ | ⟨g, cap, rfl, g1, g2, g3, g4⟩
      · simp only [List.length_nil] at hpl
        subst hpl
        rw [Nat.add_zero] at hck
        simp only [show ((0 : Nat) : Int) = 0 from rfl]
        clear hO
        go_wp2_with fail
        refine wp_loop_rounds 1 ?_
        rw [rounds_succ]
        go_wp2_with fail
        refine (l1Own_any [] _ (by simp) _ (.inl ⟨rfl, rfl⟩)).mono ?_
        rintro e w2 ⟨v, rfl, hO2, hb2⟩
        have L2 := (HL.out.own hb2 hO2).kept (below_new (.cells #[.int .i64 x] 3))
        have HL2 := Lib.hid L2
        obtain ⟨ws, hws⟩ : ∃ ws, ws = w2.heap.size := ⟨_, rfl⟩
        have HX := Lib.hid (show (w2.alloc (.cells #[.int .i64 x] 3)).cell? ⟨w2.heap.size, 0, none⟩ = some (.int .i64 x) by rw [World.cell?_alloc_at _ _ _ _ rfl]; rfl)
        clear L2 hO2 hb2 HL
        go_wp2_with (at_builtin; refine wp_appendI rfl _ _ rfl x HL2.out w2.heap.size rfl rfl HX.out (by simp) [x] rfl ?_)
        intro g cap w3 L3
        have HL3 := Lib.hid L3
        clear L3 HL2 HX
        go_wp2_with (at_builtin; refine wp_append rfl _ _ rfl w.heap.size _ [x] [] _ rfl rfl HL3.out.ownLo (.inl ⟨rfl, rfl⟩) (by simp) HL3.out.below.size ?_)
        intro v4 w4 hO4 hg4
        have HF := Lib.hid (And.intro hO4 (HL3.out.below.grown hg4 HL3.out.below.size (fun k e => (own_lt HL3.out.ownLo k e).1)))
        clear hO4 hg4 HL3
        go_wp2_with fail
        go_roundw
        case rel => exact ⟨1, by omega, by go_num, by rw [HS.out]; exact HF.out.1, HF.out.2⟩
        case measure => simp [intOf]; omega
      · rw [hpl] at hO g3 ⊢
        have HO := Lib.hid hO
        have HP := Lib.hid hpl
        have HC := Lib.hid (fun j (hj : j < k) => show wo.cell? ⟨g, j, none⟩ = some (.int .i64 (p.getD j 0)) from Own.cell (by rw [hpl]; exact hO) j (by omega))
        rw [hpl] at HL
        have hg0 : g < wo.heap.size := g2
        clear hO hpl
        go_wp2_with fail
        go_loop [6] (fun i => ∃ j : Nat, j ≤ k ∧ i = .int .i64 j ∧ Hid (∀ i, i < j → p.getD i 0 ≤ x)) (fun i => k - (intOf i).toNat)
        case atStart => exact ⟨0, Nat.zero_le _, rfl, (fun i h => by omega : ∀ i, i < 0 → p.getD i 0 ≤ x)⟩
        case round =>
          obtain ⟨j, hj, rfl, HQ⟩ := hrel
          by_cases hjk : j < k
          · have hcj := HC.out j hjk
            by_cases hxy : p.getD j 0 ≤ x
            · have HQ2 := Lib.hid (show ∀ i, i < j + 1 → p.getD i 0 ≤ x from fun i h => by
                by_cases e : i = j
                · subst e; exact hxy
                · exact HQ.out i (by omega))
              generalize p.getD j 0 = y at *
              clear HQ
              go_wp2_with fail
              go_round
              case rel => exact ⟨j + 1, by omega, by go_num, HQ2.out⟩
              case measure => simp [intOf]; omega
            · have HI := Lib.hid (insL_at x p j (by have := HP.out; omega) HQ.out (fun _ => by omega))
              have hlx : x < p.getD j 0 := by omega
              generalize p.getD j 0 = y at *
              clear hxy HQ
              have hjc : j ≤ cap := by omega
              have hj0 : (0 : Int) ≤ j := by omega
              have hj1 : (j : Int) ≤ k := by omega
              have hj2 : (j : Int) ≤ cap := by omega
              go_wp2_with fail
              have hsrc : Src wo (.slice (some ⟨g, 0, none⟩) j cap) (p.take j) := by
                have hl : (p.take j).length = j := by rw [List.length_take]; have := HP.out; omega
                refine .inr ⟨⟨g, 0, none⟩, cap, by rw [hl], fun i hi => ?_⟩
                rw [hl] at hi
                rw [Addr.add_lit, Nat.zero_add, HC.out i (by omega)]
                simp [List.getD, hi]
              refine (l1Own_any (p.take j) _ (by rw [List.length_take]; omega) _ hsrc).mono ?_
              rintro e w2 ⟨v, rfl, hO2, hb2⟩
              have L2 := (HL.out.own hb2 hO2).kept (below_new (.cells #[.int .i64 x] 3))
              have HL2 := Lib.hid L2
              have HX := Lib.hid (show (w2.alloc (.cells #[.int .i64 x] 3)).cell? ⟨w2.heap.size, 0, none⟩ = some (.int .i64 x) by rw [World.cell?_alloc_at _ _ _ _ rfl]; rfl)
              clear L2 hO2 hb2 HL hsrc HC HO
              have hl1 : (p.take j ++ [x]).length = j + 1 := by rw [List.length_append, List.length_take]; have := HP.out; simp; omega
              go_wp2_with (at_builtin; refine wp_appendI rfl _ _ rfl x HL2.out w2.heap.size rfl rfl HX.out (by rw [List.length_take]; omega) (p.take j ++ [x]) rfl ?_)
              intro g1 cap1 w3 L3
              have HL3 := Lib.hid L3
              clear L3 HL2 HX
              have hsrc2 : ∀ q, q = k - j → Src w3 (.slice (some ⟨g, j, none⟩) q (cap - j)) (p.drop j) := fun q hq => by
                have hl : (p.drop j).length = q := by rw [List.length_drop]; have := HP.out; omega
                refine .inr ⟨⟨g, j, none⟩, cap - j, by rw [hl], fun i hi => ?_⟩
                rw [hl] at hi
                have o := HL3.out.tl.ownInts
                have hpl := HP.out
                rw [Addr.add_lit, Own.cell (by rw [hpl]; exact o) (j + i) (by omega)]
                simp [List.getD]
              go_wp2_with (at_builtin; refine wp_append rfl _ _ rfl w.heap.size (.slice (some ⟨g1, 0, none⟩) (j + 1) cap1) (p.take j ++ [x]) (p.drop j) (.slice (some ⟨g, j, none⟩) (k - j) (cap - j)) rfl rfl HL3.out.ownLo (hsrc2 _ (by omega)) (by rw [hl1, List.length_drop]; have := HP.out; omega) HL3.out.below.size ?_)
              intro v4 w4 hO4 hg4
              have HF := Lib.hid (And.intro hO4 (HL3.out.below.grown hg4 HL3.out.below.size (fun k e => (own_lt HL3.out.ownLo k e).1)))
              clear hO4 hg4 HL3
              go_wp2_with fail
              go_roundw
              case rel => exact ⟨k + 1, by omega, by go_num, by rw [HS.out, HI.out]; exact HF.out.1, HF.out.2⟩
              case measure => simp [intOf]; omega
          · have hjk2 : k ≤ j := by omega
            have HI := Lib.hid (insL_at x p j (by have := HP.out; omega) HQ.out (fun h => by have := HP.out; omega))
            clear HQ
            by_cases hcapj : cap = j
            · obtain rfl : j = cap := hcapj.symm
              have hjc : j ≤ j := by omega
              have hj0 : (0 : Int) ≤ j := by omega
              have hj1 : (j : Int) ≤ k := by omega
              have hj2 : (j : Int) ≤ j := by omega
              go_wp2_with fail
              have hsrc : Src wo (.slice (some ⟨g, 0, none⟩) j j) (p.take j) := by
                have hl : (p.take j).length = j := by rw [List.length_take]; have := HP.out; omega
                refine .inr ⟨⟨g, 0, none⟩, j, by rw [hl], fun i hi => ?_⟩
                rw [hl] at hi
                rw [Addr.add_lit, Nat.zero_add, HC.out i (by omega)]
                simp [List.getD, hi]
              refine (l1Own_any (p.take j) _ (by rw [List.length_take]; omega) _ hsrc).mono ?_
              rintro e w2 ⟨v, rfl, hO2, hb2⟩
              have L2 := (HL.out.own hb2 hO2).kept (below_new (.cells #[.int .i64 x] 3))
              have HL2 := Lib.hid L2
              have HX := Lib.hid (show (w2.alloc (.cells #[.int .i64 x] 3)).cell? ⟨w2.heap.size, 0, none⟩ = some (.int .i64 x) by rw [World.cell?_alloc_at _ _ _ _ rfl]; rfl)
              clear L2 hO2 hb2 HL hsrc HC HO
              have hl1 : (p.take j ++ [x]).length = j + 1 := by rw [List.length_append, List.length_take]; have := HP.out; simp; omega
              go_wp2_with (at_builtin; refine wp_appendI rfl _ _ rfl x HL2.out w2.heap.size rfl rfl HX.out (by rw [List.length_take]; omega) (p.take j ++ [x]) rfl ?_)
              intro g1 cap1 w3 L3
              have HL3 := Lib.hid L3
              clear L3 HL2 HX
              have hsrc2 : ∀ ad cp, Src w3 (.slice (some ad) 0 cp) (p.drop j) := fun ad cp => by
                have hl : (p.drop j).length = 0 := by rw [List.length_drop]; have := HP.out; omega
                exact .inr ⟨ad, cp, by rw [hl], fun i hi => by omega⟩
              go_wp2_with (at_builtin; refine wp_append rfl _ _ rfl w.heap.size (.slice (some ⟨g1, 0, none⟩) (j + 1) cap1) (p.take j ++ [x]) (p.drop j) (.slice (some ⟨g, 0, none⟩) 0 0) rfl rfl HL3.out.ownLo (hsrc2 _ _) (by rw [hl1, List.length_drop]; have := HP.out; omega) HL3.out.below.size ?_)
              intro v4 w4 hO4 hg4
              have HF := Lib.hid (And.intro hO4 (HL3.out.below.grown hg4 HL3.out.below.size (fun k e => (own_lt HL3.out.ownLo k e).1)))
              clear hO4 hg4 HL3
              go_wp2_with fail
              go_roundw
              case rel => exact ⟨k + 1, by omega, by go_num, by rw [HS.out, HI.out]; exact HF.out.1, HF.out.2⟩
              case measure => simp [intOf]; omega
            · skip
              have hjc : j ≤ cap := by omega
              have hj0 : (0 : Int) ≤ j := by omega
              have hj1 : (j : Int) ≤ k := by omega
              have hj2 : (j : Int) ≤ cap := by omega
              go_wp2_with fail
              have hsrc : Src wo (.slice (some ⟨g, 0, none⟩) j cap) (p.take j) := by
                have hl : (p.take j).length = j := by rw [List.length_take]; have := HP.out; omega
                refine .inr ⟨⟨g, 0, none⟩, cap, by rw [hl], fun i hi => ?_⟩
                rw [hl] at hi
                rw [Addr.add_lit, Nat.zero_add, HC.out i (by omega)]
                simp [List.getD, hi]
              refine (l1Own_any (p.take j) _ (by rw [List.length_take]; omega) _ hsrc).mono ?_
              rintro e w2 ⟨v, rfl, hO2, hb2⟩
              have L2 := (HL.out.own hb2 hO2).kept (below_new (.cells #[.int .i64 x] 3))
              have HL2 := Lib.hid L2
              have HX := Lib.hid (show (w2.alloc (.cells #[.int .i64 x] 3)).cell? ⟨w2.heap.size, 0, none⟩ = some (.int .i64 x) by rw [World.cell?_alloc_at _ _ _ _ rfl]; rfl)
              clear L2 hO2 hb2 HL hsrc HC HO
              have hl1 : (p.take j ++ [x]).length = j + 1 := by rw [List.length_append, List.length_take]; have := HP.out; simp; omega
              go_wp2_with (at_builtin; refine wp_appendI rfl _ _ rfl x HL2.out w2.heap.size rfl rfl HX.out (by rw [List.length_take]; omega) (p.take j ++ [x]) rfl ?_)
              intro g1 cap1 w3 L3
              have HL3 := Lib.hid L3
              clear L3 HL2 HX
              have hsrc2 : ∀ ad cp, Src w3 (.slice (some ad) 0 cp) (p.drop j) := fun ad cp => by
                have hl : (p.drop j).length = 0 := by rw [List.length_drop]; have := HP.out; omega
                exact .inr ⟨ad, cp, by rw [hl], fun i hi => by omega⟩
              go_wp2_with (at_builtin; refine wp_append rfl _ _ rfl w.heap.size (.slice (some ⟨g1, 0, none⟩) (j + 1) cap1) (p.take j ++ [x]) (p.drop j) (.slice (some ⟨g, j, none⟩) 0 (cap - j)) rfl rfl HL3.out.ownLo (hsrc2 _ _) (by rw [hl1, List.length_drop]; have := HP.out; omega) HL3.out.below.size ?_)
              intro v4 w4 hO4 hg4
              have HF := Lib.hid (And.intro hO4 (HL3.out.below.grown hg4 HL3.out.below.size (fun k e => (own_lt HL3.out.ownLo k e).1)))
              clear hO4 hg4 HL3
              go_wp2_with fail
              go_roundw
              case rel => exact ⟨k + 1, by omega, by go_num, by rw [HS.out, HI.out]; exact HF.out.1, HF.out.2⟩
              case measure => simp [intOf]; omega
    · obtain rfl : k = xs.length := by omega
      rw [List.take_length] at hO
      have HH := Lib.hid (And.intro hO hB)
      clear hO hB
      go_wp2_with fail
      go_ret
      exact ⟨_, rfl, HH.out.1, HH.out.2⟩

end Go.Proofs.Ytdgkcfpfldaopaa
end

section
namespace Go.Proofs.Ytdgkcfpfldaopaa
open Go.RowKit Go.WideShapes

theorem facU_snoc (xs : List Int) (k : Nat) (h : k < xs.length) : (facU xs).take k ++ [xs.getD k 0 - k] = (facU xs).take (k + 1) := by
  rw [List.take_succ_eq_append_getElem (by rw [facU_len]; exact h)]
  have := facU_get xs k h
  rw [← this]
  simp [List.getD, facU_len, h]

set_option maxRecDepth 100000 in
set_option maxHeartbeats 1600000 in
theorem feFactors_any (a : Option Addr) (pc : Nat) (xs : List Int) (w : World) (h6 : xs.length ≤ 1000) (hbd : ∀ k, -1000 ≤ xs.getD k 0 ∧ xs.getD k 0 ≤ 1000) (hr : Reads w a xs.length xs) :
    Calls Try.prog 85 #[.slice a xs.length pc] w fun e w' => ∃ v, e = .returned v ∧ Own w' w.heap.size v (facs xs) ∧ Below w.heap.size w w' := by
  go_enter Try.func85, Try.ntmps85
  go_wp2_with fail
  go_loopw [3, 8] (fun o i wr => ∃ k : Nat, k ≤ xs.length ∧ i = .int .i64 k ∧ Law w [tOwn o ((facU xs).take k)] wr) (fun _ i _ => xs.length - (intOf i).toNat)
  case atStart => exact ⟨0, Nat.zero_le _, rfl, by simpa using (Law.start w).own (Below.refl _ _) (Own.nil w _)⟩
  case round =>
    obtain ⟨k, hk, rfl, L⟩ := hrel
    obtain ⟨wo, rfl⟩ : ∃ wo : World, wo = wr := ⟨_, rfl⟩
    by_cases hlt : k < xs.length
    · obtain ⟨b, off, rfl, hbl, hc⟩ := reads_row (L.reads hr) (by omega)
      have hck := hc k hlt
      have hsn := facU_snoc xs k hlt
      have hx := hbd k
      have hl : ((facU xs).take k).length = k := by rw [List.length_take, facU_len]; omega
      generalize xs.getD k 0 = x at *
      have hw : IntKind.i64.wrap (x - k) = x - k := IntWalk.i64_in _ (by omega)
      have L2 := L.kept (below_new (.cells #[.int .i64 (x - k)] 3))
      have HL := Lib.hid L2
      have HX := Lib.hid (show (wo.alloc (.cells #[.int .i64 (x - k)] 3)).cell? ⟨wo.heap.size, 0, none⟩ = some (.int .i64 (x - k)) by rw [World.cell?_alloc_at _ _ _ _ rfl]; rfl)
      have HS := Lib.hid hsn
      have HK := Lib.hid hl
      clear L L2 hc hbl hx hsn hl hbd
      go_wp2_with (at_builtin; refine wp_appendI rfl _ _ rfl (x - k) HL.out wo.heap.size rfl rfl HX.out (by rw [HK.out]; omega) ((facU xs).take (k + 1)) HS.out ?_)
      intro g1 cap1 w3 L3
      have HL3 := Lib.hid L3
      clear L3 HL HX
      go_wp2_with fail
      go_roundw
      case rel => exact ⟨k + 1, by omega, by go_num, HL3.out⟩
      case measure => simp [intOf]; omega
    · obtain rfl : k = xs.length := by omega
      have e : (facU xs).take xs.length = facU xs := List.take_of_length_le (by rw [facU_len]; omega)
      rw [e] at L
      have hlen := facU_len xs
      obtain ⟨ao, po, rfl, ho⟩ := L.ownInts.reads
      have hc := feSorted_any ao po (facU xs) wo (by omega) ho
      rw [hlen] at hc L ⊢
      have HL := Lib.hid L
      have HC := Lib.hid hc
      clear L hc hlen ho e hlt
      go_wp2_with fail
      refine HC.out.mono ?_
      rintro e w2 ⟨v, rfl, hO, hb⟩
      have HF := Lib.hid (And.intro (hO.lower HL.out.below.size) (HL.out.kept hb).below)
      clear HL hO hb HC
      go_wp2_with fail
      go_ret
      exact ⟨_, rfl, HF.out.1, HF.out.2⟩

theorem len_bd {xs : List Int} (h : lenB xs = true) (k : Nat) : -1000 ≤ xs.getD k 0 ∧ xs.getD k 0 ≤ 1000 := by
  have := (len_facts h).2.2.1 k
  omega

end Go.Proofs.Ytdgkcfpfldaopaa
end
