/- King numbers added, in the specification. No condition but the sizes. -/
import Derived.Test.YtakdiiccdkjjcabEk
import Derived.Test.YtakdiiccdkjjcabKa
import Derived.Test.YtakdiiccdkjjcabP
import Derived.Test.YtakdiiccdkjjcabAp
import Derived.Test.YtakdiiccdkjjcabG2
namespace Go.Proofs.Ytakdiiccdkjjcab
open Go.RowKit Go.WideShapes

def lKi (ys : List Int) (s e : Nat) : Nat := if e = 0 then ys.length else max ys.length (s + e)
def gKi (ys bs : List Int) (s e k : Nat) : Int := ys.getD k 0 + if s ≤ k ∧ k < s + e then bs.getD (k - s) 0 else 0
theorem gKi_far (ys bs : List Int) (s e k : Nat) (h : lKi ys s e ≤ k) : gKi ys bs s e k = 0 := by
  unfold lKi at h
  unfold gKi
  rw [getD_far ys k (by split at h <;> omega), if_neg (by split at h <;> omega)]
  rfl
theorem gKi_zero (ys bs : List Int) (s : Nat) : lstI (lKi ys s 0) (gKi ys bs s 0) = ys := by
  rw [show lKi ys s 0 = ys.length from rfl]
  refine Eq.trans (lstI_congr _ _ _ (fun k _ => ?_)) (lstI_self ys)
  unfold gKi
  rw [if_neg (by omega), Int.add_zero]
theorem gKi_full (ys bs : List Int) (s : Nat) (h : 0 < bs.length) : lstI (lKi ys s bs.length) (gKi ys bs s bs.length) = addL ys (upL s bs) := by
  unfold addL
  have e : lKi ys s bs.length = max ys.length (upL s bs).length := by rw [lKi, if_neg (by omega), upL_len, if_neg (by omega)]
  rw [e]
  refine lstI_congr _ _ _ (fun k _ => ?_)
  unfold gKi
  rw [upL_get]
  congr 1
  by_cases h1 : k < s
  · rw [if_pos h1, if_neg (by omega)]
  · rw [if_neg h1]
    by_cases h2 : k < s + bs.length
    · rw [if_pos ⟨by omega, h2⟩]
    · rw [if_neg (by omega), getD_far bs _ (by omega)]
theorem gKi_put (ys bs : List Int) (s e : Nat) : (lstI (max (lKi ys s e) (s + e + 1)) (gKi ys bs s e)).set (s + e) (gKi ys bs s e (s + e) + bs.getD e 0) = lstI (lKi ys s (e + 1)) (gKi ys bs s (e + 1)) := by
  have e1 : lKi ys s (e + 1) = max (lKi ys s e) (s + e + 1) := by
    unfold lKi
    rw [if_neg (show ¬ (e + 1 = 0) by omega)]
    split <;> omega
  rw [e1]
  refine lstI_set _ _ _ _ _ ?_ (fun k _ hk => ?_)
  · unfold gKi
    rw [if_pos (by omega), if_neg (by omega), Nat.add_sub_cancel_left, Int.add_zero]
  · unfold gKi
    by_cases h3 : s ≤ k ∧ k < s + e
    · rw [if_pos h3, if_pos (by omega)]
    · rw [if_neg h3, if_neg (by omega)]
theorem gKi_at (ys bs : List Int) (s e : Nat) : gKi ys bs s e (s + e) = ys.getD (s + e) 0 := by
  unfold gKi
  rw [if_neg (by omega), Int.add_zero]
theorem gKi_snoc (ys bs : List Int) (s e N : Nat) (h : lKi ys s e ≤ N) : lstI N (gKi ys bs s e) ++ [0] = lstI (N + 1) (gKi ys bs s e) := by
  rw [← lstI_snoc, gKi_far ys bs s e N h]
theorem lKi_len (ys : List Int) (s e L : Nat) (h1 : ys.length ≤ L) (h2 : s + e ≤ L) : lKi ys s e ≤ L := by
  unfold lKi
  split <;> omega
def sliceLenK : Value → Nat
  | .slice _ n _ => n
  | _ => 0
theorem kiAdd_none (va : Value) (a2 : Option Addr) (c2 : Nat) (s : Nat) (w : World) :
    Calls Try.prog 108 #[va, .slice a2 0 c2, .int .i64 s] w fun e w' => e = .returned va ∧ w = w' := by
  go_enter Try.func108, Try.ntmps108
  go_wp2
  go_ret
  exact ⟨rfl, rfl⟩
set_option maxRecDepth 100000 in
set_option maxHeartbeats 6400000 in
theorem kiAdd_any (ys bs : List Int) (va : Value) (a2 : Option Addr) (c2 : Nat) (s : Nat) (w : World) (hl : ys.length ≤ 1000) (hlb : bs.length ≤ 1000) (hs : s ≤ 100) (hc : 0 < bs.length)
    (h1 : ∀ e, 0 ≤ ys.getD e 0 ∧ ys.getD e 0 ≤ 70368744177664) (h2 : ∀ e, 0 ≤ bs.getD e 0 ∧ bs.getD e 0 ≤ 70368744177664) (hs1 : Src w va ys) (hs2 : Reads w a2 bs.length bs) :
    Calls Try.prog 108 #[va, .slice a2 bs.length c2, .int .i64 s] w fun e w' => ∃ u, e = .returned u ∧ Own w' w.heap.size u (addL ys (upL s bs)) ∧ Below w.heap.size w w' := by
  have HO := Lib.hid (l1Own_any ys w (by omega) va hs1)
  have HR := Lib.hid hs2
  have HF := Lib.hid (gKi_full ys bs s hc)
  have H1 := Lib.hid h1
  have H2 := Lib.hid h2
  have HLN := Lib.hid (fun e (he : e ≤ 1000) => lKi_len ys s e 1100 (by omega) (by omega))
  have hs0 : (0 : Int) ≤ s := by omega
  have hnl : ((bs.length : Int) == 0) = false := by rw [beq_eq_false_iff_ne]; omega
  clear hs1 hs2 hc h1 h2 hl
  go_enter Try.func108, Try.ntmps108
  go_wp2_with fail
  refine HO.out.mono ?_
  rintro e w1 ⟨u, rfl, hO, hb⟩
  have L1 := (Law.start w).own hb hO
  rw [← gKi_zero ys bs s] at L1
  have HL := Lib.hid L1
  clear hO hb L1 HO
  go_wp2_with fail
  go_loopw [7, 18] (fun v i wr => ∃ e : Nat, e ≤ bs.length ∧ i = .int .i64 e ∧ Law w [tOwn v (lstI (lKi ys s e) (gKi ys bs s e))] wr) (fun _ i _ => bs.length - (intOf i).toNat)
  case atStart => exact ⟨0, Nat.zero_le _, rfl, HL.out⟩
  case round =>
    clear HL
    obtain ⟨e, he, rfl, L⟩ := hrel
    by_cases hlt : e < bs.length
    · obtain ⟨b, off, ha, hb0, hcc⟩ := reads_row (L.reads HR.out) (by omega)
      subst ha
      have hce := hcc e hlt
      have HPUT := Lib.hid (gKi_put ys bs s e)
      have HAT := Lib.hid (gKi_at ys bs s e)
      have HSN := Lib.hid (fun N hN => gKi_snoc ys bs s e N hN)
      have hla := HLN.out e (by omega)
      have hA := H1.out (s + e)
      have hB := H2.out e
      have hws : wrap64 ((e : Int) + s) = ((s + e : Nat) : Int) := by rw [show ((s + e : Nat) : Int) = (e : Int) + s by omega]; exact IntWalk.wrap64_in _ (by omega)
      have hws2 : IntKind.i64.wrap ((e : Int) + s) = ((s + e : Nat) : Int) := by rw [show ((s + e : Nat) : Int) = (e : Int) + s by omega]; exact IntWalk.i64_in _ (by omega)
      have HL := Lib.hid L
      generalize gKi ys bs s e = G at *
      generalize lKi ys s e = N0 at *
      clear L hcc
      generalize bs.getD e 0 = y at *
      go_wp2_with fail
      go_loopw [7] (fun v wr => ∃ N : Nat, Hid (N0 ≤ N ∧ N ≤ max N0 (s + e + 1)) ∧ Law w [tOwn v (lstI N G)] wr) (fun v _ => s + e + 1 - sliceLenK v)
      case atStart => exact ⟨N0, Lib.hid ⟨Nat.le_refl _, by omega⟩, HL.out⟩
      case round =>
        clear HL
        obtain ⟨N, HN, L⟩ := hrel
        obtain ⟨a5, c5, hv5, _⟩ := L.ownInts.reads
        rw [lstI_len] at hv5
        subst hv5
        have hNb : N ≤ 1200 := by have := HN.out; omega
        by_cases hle : (N : Int) ≤ ((s + e : Nat) : Int)
        · have L2 := L.kept (below_new (.cells #[.int .i64 0] 3))
          have hnew : (wr.alloc (.cells #[.int .i64 0] 3)).cell? ⟨wr.heap.size, 0, none⟩ = some (.int .i64 0) := by rw [World.cell?_alloc_at _ _ _ _ rfl]; rfl
          have HL2 := Lib.hid (And.intro L2 hnew)
          have HS1 := Lib.hid (HSN.out N HN.out.1)
          have HN2 : Hid (N0 ≤ N + 1 ∧ N + 1 ≤ max N0 (s + e + 1)) := Lib.hid (by have := HN.out; omega)
          clear L L2 hnew
          go_wp2_with (at_builtin; refine wp_appendI rfl _ _ rfl 0 HL2.out.1 wr.heap.size rfl rfl HL2.out.2 (by rw [lstI_len]; omega) _ HS1.out ?_)
          intro g cap w' L3
          have HL3 := Lib.hid L3
          rw [lstI_len] at HL3 ⊢
          clear L3 HL2
          go_wp2_with fail
          go_roundw
          case rel => exact ⟨N + 1, HN2, HL3.out⟩
          case measure => simp only [sliceLenK]; omega
        · obtain rfl : N = max N0 (s + e + 1) := by have := HN.out; omega
          have hO := L.ownInts
          obtain ⟨g, rfl⟩ : ∃ g, a5 = some ⟨g, 0, none⟩ := by
            rcases hO.cases with ⟨h, _⟩ | ⟨g, cap, h, _⟩
            · injection h with h1 h2 h3
              omega
            · injection h with h1 h2 h3
              exact ⟨g, h1⟩
          have y1 := Own.cell (by rw [lstI_len]; exact hO) (s + e) (by rw [lstI_len]; omega)
          have y2 := Own.free (by rw [lstI_len]; exact hO) (s + e)
          rw [lstI_get _ _ _ (by omega), HAT.out] at y1
          rw [HAT.out] at HPUT
          have hS := Law.store (ts := []) L (lstI_len _ _) (s + e) (ys.getD (s + e) 0 + y)
          rw [HPUT.out] at hS
          have HS := Lib.hid hS
          have hx : ((s + e : Nat) : Int) < ((max N0 (s + e + 1) : Nat) : Int) := by omega
          have hx0 : (0 : Int) ≤ ((s + e : Nat) : Int) := by omega
          have hw : wrap64 (ys.getD (s + e) 0 + y) = ys.getD (s + e) 0 + y := IntWalk.wrap64_in _ (by omega)
          generalize max N0 (s + e + 1) = NN at *
          generalize ys.getD (s + e) 0 = x at *
          clear hS hO L
          go_wp2_with fail
          go_roundw
          case rel => exact ⟨e + 1, by omega, by go_num, HS.out⟩
          case measure => simp [intOf]; omega
    · obtain rfl : e = bs.length := by omega
      rw [HF.out] at L
      have HLL := Lib.hid L
      clear L
      go_wp2_with fail
      go_ret
      exact ⟨_, rfl, HLL.out.ownLo, HLL.out.below⟩
end Go.Proofs.Ytakdiiccdkjjcab
