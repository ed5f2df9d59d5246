import Derived.Test.YtakdiiccdkjjcabFold7
import Derived.Test.YtakdiiccdkjjcabFold6

section
namespace Go.Proofs.Ytakdiiccdkjjcab
open Go.RowKit Go.WideShapes

theorem own_of_has {w : World} {lo g n : Nat} {xs : List Int} (h : Has w g (xs.map (Value.int .i64)) 3) (hl : lo ≤ g) (hn : xs.length = n) (hm : n ≤ maxLen) : Own w lo (.slice (some ⟨g, 0, none⟩) n n) xs := by
  subst hn
  refine ⟨by simp, .inr ⟨g, xs.length, _, rfl, hl, h, Nat.le_refl _, hm, by simp, by simp [List.take_of_length_le]⟩⟩

theorem splice_all (n : Nat) (cs : List Value) (h : cs.length = n) (z : Value) : splice (List.replicate n z) 0 cs = cs := by
  simp [splice, h]

theorem made_eq (n : Nat) (z : Value) : madeCells #[z] n = (List.replicate n z).toArray := by
  rw [← toList_madeCells_one]

theorem own_made (W : World) (n g lo : Nat) (hg : g = W.heap.size) (hl : lo ≤ g) (hn : n ≤ 1048576) : Own (W.alloc (.cells (madeCells #[.int .i64 0] n) 3)) lo (.slice (some ⟨g, 0, none⟩) n n) (List.replicate n 0) := by
  subst hg
  refine own_of_has ?_ hl (by simp) (by unfold maxLen; omega)
  rw [made_eq, List.map_replicate]
  exact Has.new W _ _

theorem board_facts (n : Nat) (c m0 m1 m2 m3 m4 m5 : Int) (w w3 : World) (hw : w3 = (((w.alloc (.cells #[.int .i64 n, .int .i64 c, .int .i64 m0, .int .i64 m1, .int .i64 m2, .int .i64 m3, .int .i64 m4, .int .i64 m5] 64)).alloc (.cells #[.int .i64 0, .int .i64 0, .slice none 0 0] 28)).alloc (.cells (madeCells #[.int .i64 0] n) 3))) :
    Has w3 (w.heap.size + 1 + 1) (List.replicate n (.int .i64 0)) 3 ∧ Has w3 w.heap.size [.int .i64 n, .int .i64 c, .int .i64 m0, .int .i64 m1, .int .i64 m2, .int .i64 m3, .int .i64 m4, .int .i64 m5] 64 ∧ Has w3 (w.heap.size + 1) [.int .i64 0, .int .i64 0, .slice none 0 0] 28 ∧ Below w.heap.size w w3 ∧
    (∀ j v, (([m0, m1, m2, m3, m4, m5].take n).map (Value.int .i64))[j]? = some v → w3.cell? ((⟨w.heap.size, 2, none⟩ : Addr).add j) = some v) := by
  have H1 := Has.new w [.int .i64 n, .int .i64 c, .int .i64 m0, .int .i64 m1, .int .i64 m2, .int .i64 m3, .int .i64 m4, .int .i64 m5] 64
  have b1 := below_new (w := w) (.cells #[.int .i64 n, .int .i64 c, .int .i64 m0, .int .i64 m1, .int .i64 m2, .int .i64 m3, .int .i64 m4, .int .i64 m5] 64)
  generalize hw1 : w.alloc (.cells #[.int .i64 n, .int .i64 c, .int .i64 m0, .int .i64 m1, .int .i64 m2, .int .i64 m3, .int .i64 m4, .int .i64 m5] 64) = w1 at *
  have H2 := Has.new w1 [.int .i64 0, .int .i64 0, .slice none 0 0] 28
  have b2 := below_new (w := w1) (.cells #[.int .i64 0, .int .i64 0, .slice none 0 0] 28)
  have H12 := H1.kept b2 H1.lt
  generalize hw2 : w1.alloc (.cells #[.int .i64 0, .int .i64 0, .slice none 0 0] 28) = w2 at *
  have H3 : Has (w2.alloc (.cells (madeCells #[.int .i64 0] n) 3)) w2.heap.size (List.replicate n (.int .i64 0)) 3 := by rw [made_eq]; exact Has.new w2 _ _
  have b3 := below_new (w := w2) (.cells (madeCells #[.int .i64 0] n) 3)
  have H13 := H12.kept b3 H12.lt
  have H23 := H2.kept b3 H2.lt
  have hz1 : w1.heap.size = w.heap.size + 1 := by rw [← hw1]; simp
  have hz2 : w2.heap.size = w.heap.size + 1 + 1 := by rw [← hw2, World.size_alloc, hz1]
  rw [← hw] at H3 H13 H23 b3
  rw [hz2] at H3
  rw [hz1] at H23
  refine ⟨H3, H13, H23, below_on (below_on b1 b2) b3, fun j v hj => ?_⟩
  rw [add_plain, H13.cell]
  rw [List.map_take, List.getElem?_take] at hj
  split at hj
  · rw [show 2 + j = j + 2 by omega]; exact hj
  · cases hj

set_option maxHeartbeats 800000 in
theorem board_any (n : Nat) (c m0 m1 m2 m3 m4 m5 : Int) (w : World) (hn : n ≤ 6) :
    Calls Try.prog 124 #[.agg #[.int .i64 n, .int .i64 c, .int .i64 m0, .int .i64 m1, .int .i64 m2, .int .i64 m3, .int .i64 m4, .int .i64 m5]] w
      fun e w' => ∃ s, e = .returned (.agg #[.int .i64 n, .int .i64 c, s]) ∧ Own w' w.heap.size s ([m0, m1, m2, m3, m4, m5].take n) ∧ Below w.heap.size w w' := by
  have hmk := run_make_row' (P := Try.prog) 22 3 (.int .i64 0) 8 Try.underlying22 Try.infoI rfl .i64 .i64 n (by omega) (by omega)
  obtain ⟨F1, F2, F3, F4, F5⟩ := board_facts n c m0 m1 m2 m3 m4 m5 w _ rfl
  have hlen : (([m0, m1, m2, m3, m4, m5].take n).map (Value.int .i64)).length = n := by simp; omega
  have HM := Lib.hid (show (([m0, m1, m2, m3, m4, m5].take n).map (Value.int .i64)).length = Nat.min 6 n by rw [hlen]; exact (Nat.min_eq_right hn).symm)
  have HF := Lib.hid (show 0 + (([m0, m1, m2, m3, m4, m5].take n).map (Value.int .i64)).length ≤ (List.replicate n (Value.int .i64 0)).length by rw [hlen, List.length_replicate]; omega)
  have G1 := Lib.hid F1.row; have G2 := Lib.hid F2; have G3 := Lib.hid F3; have G4 := Lib.hid F4; have G5 := Lib.hid F5; have HL := Lib.hid hlen
  clear F1 F2 F3 F4 F5 hlen
  go_enter Try.func124, Try.ntmps124
  go_wp2_with (with_reducible refine wpList_copy_splice rfl (.tmp 7) (.tmp 9) 22 22 rfl 3 Try.underlying22 (by kernel_rfl) _ _ n n 6 6 rfl rfl (w.heap.size + 1 + 1) 0 _ 3 G1.out _ HM.out (fun _ => ⟨rfl, _, rfl, G5.out⟩) HF.out (ints_oneCell _ _) (w.heap.size + 1 + 1) _ (Below.refl _ _) (Nat.le_refl _) ?_)
  intro w4 hg4 hb4
  have H4 : Has w4 (w.heap.size + 1 + 1) (([m0, m1, m2, m3, m4, m5].take n).map (Value.int .i64)) 3 := by
    have h : Has w4 (w.heap.size + 1 + 1) _ 3 := hg4.out
    rw [splice_all n _ (by simp <;> omega)] at h
    simpa using h
  have E := G3.out.kept hb4 (by omega)
  have E2 := G2.out.kept hb4 (by omega)
  obtain ⟨e0, e1, e2, ef⟩ := E.three
  obtain ⟨f0, f1, f2, f3, f4, f5, f6, f7, ff⟩ := E2.eight
  have HB4 := Lib.hid hb4; clear hb4 hg4 E E2
  have hsz := G4.out.size
  have HH := Lib.hid H4; clear H4 hmk
  go_wp2
  have hlt : w.heap.size + 1 + 1 < w4.heap.size := HH.out.lt
  refine bodyPost_ret (v := .agg #[.int .i64 n, .int .i64 c, .slice (some ⟨w.heap.size + 1 + 1, 0, none⟩) n n]) (by simp [results, Try.results124, go_sem, e0, e1, e2]) rfl ⟨_, rfl, ?_, ?_⟩
  · have hO := own_of_has (lo := w.heap.size + 1 + 1) HH.out (Nat.le_refl _) (by have := HL.out; simpa using this) (by unfold maxLen; omega)
    exact (((hO.set (by simp <;> omega) _).set (by simp <;> omega) _).set (by simp <;> omega) _).lower (by omega)
  · have h2 := G4.out.trans (HB4.out.mono (by omega))
    repeat (refine Below.setCell ?_ (by simp <;> omega) _)
    exact h2

end Go.Proofs.Ytakdiiccdkjjcab
end

section
namespace Go.Proofs.Ytakdiiccdkjjcab
open Go.RowKit Go.WideShapes

/-- How far the numbers that are not 0 reach. -/
def tlN (bs : List Int) : Nat → Nat
  | 0 => 0
  | e + 1 => if bs.getD e 0 = 0 then tlN bs e else e + 1
theorem tlN_le (bs : List Int) (e : Nat) : tlN bs e ≤ e := by
  induction e with
  | zero => exact Nat.le_refl _
  | succ e ih => rw [tlN]; split <;> omega
theorem tlN_zero (bs : List Int) (e : Nat) : ∀ k, tlN bs e ≤ k → k < e → bs.getD k 0 = 0 := by
  induction e with
  | zero => intro k _ h; omega
  | succ e ih =>
    intro k h1 h2
    rw [tlN] at h1
    split at h1
    · rename_i h0
      by_cases e2 : k = e
      · rw [e2]; exact h0
      · exact ih k h1 (by omega)
    · omega
theorem tlN_full {bs : List Int} (h : CanL bs) : tlN bs bs.length = bs.length := by
  by_cases h0 : 0 < bs.length
  · have := h.last h0
    rw [show bs.length = (bs.length - 1) + 1 by omega, tlN, if_neg (by omega)]
  · rw [show bs.length = 0 by omega]; rfl
/-- The numbers behind e steps. -/
def gA (ys bs : List Int) (s e k : Nat) : Int := ys.getD k 0 + if s ≤ k ∧ k < s + e then bs.getD (k - s) 0 else 0
def lA (ys bs : List Int) (s e : Nat) : Nat := max ys.length (if tlN bs e = 0 then 0 else s + tlN bs e)
theorem gA_far (ys bs : List Int) (s e k : Nat) (h : lA ys bs s e ≤ k) : gA ys bs s e k = 0 := by
  unfold lA at h
  unfold gA
  rw [getD_far ys k (by omega)]
  split
  · rename_i hk
    rw [tlN_zero bs e (k - s) (by split at h <;> omega) (by omega)]
    rfl
  · rfl
theorem gA_zero (ys bs : List Int) (s : Nat) : lstI (lA ys bs s 0) (gA ys bs s 0) = ys := by
  have e : lA ys bs s 0 = ys.length := by simp [lA, tlN]
  rw [e]
  refine Eq.trans (lstI_congr _ _ _ (fun k _ => ?_)) (lstI_self ys)
  unfold gA
  rw [if_neg (by omega), Int.add_zero]
theorem gA_full (ys : List Int) {bs : List Int} (h : CanL bs) (s : Nat) : lstI (lA ys bs s bs.length) (gA ys bs s bs.length) = addL ys (upL s bs) := by
  unfold addL
  have e : lA ys bs s bs.length = max ys.length (upL s bs).length := by rw [lA, tlN_full h, upL_len]
  rw [e]
  refine lstI_congr _ _ _ (fun k _ => ?_)
  unfold gA
  rw [upL_get]
  congr 1
  by_cases h1 : k < s
  · rw [if_pos h1, if_neg (by omega)]
  · rw [if_neg h1]
    by_cases h2 : k < s + bs.length
    · rw [if_pos ⟨by omega, h2⟩]
    · rw [if_neg (by omega), getD_far bs _ (by omega)]
theorem gA_same (ys bs : List Int) (s e : Nat) (h : bs.getD e 0 = 0) : lstI (lA ys bs s (e + 1)) (gA ys bs s (e + 1)) = lstI (lA ys bs s e) (gA ys bs s e) := by
  have e1 : lA ys bs s (e + 1) = lA ys bs s e := by unfold lA; rw [tlN, if_pos h]
  rw [e1]
  refine lstI_congr _ _ _ (fun k _ => ?_)
  unfold gA
  by_cases h2 : k = s + e
  · subst h2
    rw [if_pos (by omega), if_neg (by omega), Nat.add_sub_cancel_left, h]
  · by_cases h3 : s ≤ k ∧ k < s + e
    · rw [if_pos h3, if_pos (by omega)]
    · rw [if_neg h3, if_neg (by omega)]
theorem gA_put (ys bs : List Int) (s e : Nat) (h : bs.getD e 0 ≠ 0) : (lstI (max (lA ys bs s e) (s + e + 1)) (gA ys bs s e)).set (s + e) (gA ys bs s e (s + e) + bs.getD e 0) = lstI (lA ys bs s (e + 1)) (gA ys bs s (e + 1)) := by
  have e1 : lA ys bs s (e + 1) = max (lA ys bs s e) (s + e + 1) := by
    have := tlN_le bs e
    unfold lA
    rw [tlN, if_neg h]
    rw [if_neg (show ¬ (e + 1 = 0) by omega)]
    split <;> omega
  rw [e1]
  refine lstI_set _ _ _ _ _ ?_ (fun k _ hk => ?_)
  · unfold gA
    rw [if_pos (by omega), if_neg (by omega), Nat.add_sub_cancel_left, Int.add_zero]
  · unfold gA
    by_cases h3 : s ≤ k ∧ k < s + e
    · rw [if_pos h3, if_pos (by omega)]
    · rw [if_neg h3, if_neg (by omega)]
theorem gA_at (ys bs : List Int) (s e : Nat) : gA ys bs s e (s + e) = ys.getD (s + e) 0 := by
  unfold gA
  rw [if_neg (by omega), Int.add_zero]
theorem gA_snoc (ys bs : List Int) (s e N : Nat) (h : lA ys bs s e ≤ N) : lstI N (gA ys bs s e) ++ [0] = lstI (N + 1) (gA ys bs s e) := by
  rw [← lstI_snoc, gA_far ys bs s e N h]
theorem lA_len (ys bs : List Int) (s e L : Nat) (h1 : ys.length ≤ L) (h2 : s + e ≤ L) : lA ys bs s e ≤ L := by
  have := tlN_le bs e
  unfold lA
  split <;> omega

def sliceLenA : Value → Nat
  | .slice _ n _ => n
  | _ => 0
set_option maxRecDepth 100000 in
set_option maxHeartbeats 6400000 in
theorem weAdd_any (ys bs : List Int) (va : Value) (a2 : Option Addr) (c2 : Nat) (s : Nat) (w : World) (hl : ys.length ≤ 1000) (hlb : bs.length ≤ 1000) (hs : s ≤ 100) (hc : CanL bs)
    (h1 : ∀ e, 0 ≤ ys.getD e 0 ∧ ys.getD e 0 ≤ 1000000000) (h2 : ∀ e, 0 ≤ bs.getD e 0 ∧ bs.getD e 0 ≤ 1000000000) (hs1 : Src w va ys) (hs2 : Reads w a2 bs.length bs) :
    Calls Try.prog 130 #[va, .slice a2 bs.length c2, .int .i64 s] w fun e w' => ∃ u, e = .returned u ∧ Own w' w.heap.size u (addL ys (upL s bs)) ∧ Below w.heap.size w w' := by
  have HO := Lib.hid (l1Own_any ys w (by omega) va hs1)
  have HR := Lib.hid hs2
  have HF := Lib.hid (gA_full ys hc s)
  have H1 := Lib.hid h1
  have H2 := Lib.hid h2
  have HLN := Lib.hid (fun e (he : e ≤ 1000) => lA_len ys bs s e 1100 (by omega) (by omega))
  have hs0 : (0 : Int) ≤ s := by omega
  clear hs1 hs2 hc h1 h2 hl
  go_enter Try.func130, Try.ntmps130
  go_wp2_with fail
  refine HO.out.mono ?_
  rintro e w1 ⟨u, rfl, hO, hb⟩
  have L1 := (Law.start w).own hb hO
  rw [← gA_zero ys bs s] at L1
  have HL := Lib.hid L1
  clear hO hb L1 HO
  go_wp2_with fail
  go_loopw [7, 14] (fun v i wr => ∃ e : Nat, e ≤ bs.length ∧ i = .int .i64 e ∧ Law w [tOwn v (lstI (lA ys bs s e) (gA ys bs s e))] wr) (fun _ i _ => bs.length - (intOf i).toNat)
  case atStart => exact ⟨0, Nat.zero_le _, rfl, HL.out⟩
  case round =>
    clear HL
    obtain ⟨e, he, rfl, L⟩ := hrel
    by_cases hlt : e < bs.length
    · obtain ⟨b, off, ha, hb0, hcc⟩ := reads_row (L.reads HR.out) (by omega)
      subst ha
      have hce := hcc e hlt
      by_cases h0 : bs.getD e 0 = 0
      · rw [h0] at hce
        have HN := Lib.hid (show Law w [tOwn u7 (lstI (lA ys bs s (e + 1)) (gA ys bs s (e + 1)))] wr by rw [gA_same ys bs s e h0]; exact L)
        clear L hcc h0
        go_wp2_with fail
        go_roundw
        case rel => exact ⟨e + 1, by omega, by go_num, HN.out⟩
        case measure => simp [intOf]; omega
      · have h0' : (bs.getD e 0 == 0) = false := by rw [beq_eq_false_iff_ne]; exact h0
        have HPUT := Lib.hid (gA_put ys bs s e h0)
        have HAT := Lib.hid (gA_at ys bs s e)
        have HSN := Lib.hid (fun N hN => gA_snoc ys bs s e N hN)
        have hla := HLN.out e (by omega)
        have hA := H1.out (s + e)
        have hB := H2.out e
        have hws : wrap64 ((e : Int) + s) = ((s + e : Nat) : Int) := by rw [show ((s + e : Nat) : Int) = (e : Int) + s by omega]; exact IntWalk.wrap64_in _ (by omega)
        have hws2 : IntKind.i64.wrap ((e : Int) + s) = ((s + e : Nat) : Int) := by rw [show ((s + e : Nat) : Int) = (e : Int) + s by omega]; exact IntWalk.i64_in _ (by omega)
        have HL := Lib.hid L
        generalize gA ys bs s e = G at *
        generalize lA ys bs s e = N0 at *
        clear L hcc h0
        generalize bs.getD e 0 = y at *
        go_wp2_with fail
        go_loopw [7] (fun v wr => ∃ N : Nat, Hid (N0 ≤ N ∧ N ≤ max N0 (s + e + 1)) ∧ Law w [tOwn v (lstI N G)] wr) (fun v _ => s + e + 1 - sliceLenA v)
        case atStart => exact ⟨N0, Lib.hid ⟨Nat.le_refl _, by omega⟩, HL.out⟩
        case round =>
          clear HL
          obtain ⟨N, HN, L⟩ := hrel
          obtain ⟨a5, c5, hv5, _⟩ := L.ownInts.reads
          rw [lstI_len] at hv5
          subst hv5
          have hNb : N ≤ 1200 := by have := HN.out; omega
          by_cases hle : (N : Int) ≤ ((s + e : Nat) : Int)
          · have L2 := L.kept (below_new (.cells #[.int .i64 0] 3))
            have hnew : (wr.alloc (.cells #[.int .i64 0] 3)).cell? ⟨wr.heap.size, 0, none⟩ = some (.int .i64 0) := by rw [World.cell?_alloc_at _ _ _ _ rfl]; rfl
            have HL2 := Lib.hid (And.intro L2 hnew)
            have HS1 := Lib.hid (HSN.out N HN.out.1)
            have HN2 : Hid (N0 ≤ N + 1 ∧ N + 1 ≤ max N0 (s + e + 1)) := Lib.hid (by have := HN.out; omega)
            clear L L2 hnew
            go_wp2_with (at_builtin; refine wp_appendI rfl _ _ rfl 0 HL2.out.1 wr.heap.size rfl rfl HL2.out.2 (by rw [lstI_len]; omega) _ HS1.out ?_)
            intro g cap w' L3
            have HL3 := Lib.hid L3
            rw [lstI_len] at HL3 ⊢
            clear L3 HL2
            go_wp2_with fail
            go_roundw
            case rel => exact ⟨N + 1, HN2, HL3.out⟩
            case measure => simp only [sliceLenA]; omega
          · obtain rfl : N = max N0 (s + e + 1) := by have := HN.out; omega
            have hO := L.ownInts
            obtain ⟨g, rfl⟩ : ∃ g, a5 = some ⟨g, 0, none⟩ := by
              rcases hO.cases with ⟨h, _⟩ | ⟨g, cap, h, _⟩
              · injection h with h1 h2 h3
                omega
              · injection h with h1 h2 h3
                exact ⟨g, h1⟩
            have y1 := Own.cell (by rw [lstI_len]; exact hO) (s + e) (by rw [lstI_len]; omega)
            have y2 := Own.free (by rw [lstI_len]; exact hO) (s + e)
            rw [lstI_get _ _ _ (by omega), HAT.out] at y1
            rw [HAT.out] at HPUT
            have hS := Law.store (ts := []) L (lstI_len _ _) (s + e) (ys.getD (s + e) 0 + y)
            rw [HPUT.out] at hS
            have HS := Lib.hid hS
            have hx : ((s + e : Nat) : Int) < ((max N0 (s + e + 1) : Nat) : Int) := by omega
            have hx0 : (0 : Int) ≤ ((s + e : Nat) : Int) := by omega
            have hw : wrap64 (ys.getD (s + e) 0 + y) = ys.getD (s + e) 0 + y := IntWalk.wrap64_in _ (by omega)
            generalize max N0 (s + e + 1) = NN at *
            generalize ys.getD (s + e) 0 = x at *
            clear hS hO L
            go_wp2_with fail
            go_roundw
            case rel => exact ⟨e + 1, by omega, by go_num, HS.out⟩
            case measure => simp [intOf]; omega
    · obtain rfl : e = bs.length := by omega
      rw [HF.out] at L
      have HLL := Lib.hid L
      clear L
      go_wp2_with fail
      go_ret
      exact ⟨_, rfl, HLL.out.ownLo, HLL.out.below⟩
end Go.Proofs.Ytakdiiccdkjjcab
end
