import Derived.Test.YtdimbnkgomfojabFold0
import Derived.ProofKit
import Derived.SizedLaws
import Derived.OpenShut
import Derived.Lib.SmallJoins
import Derived.Test.YtdimbnkgomfojabFold1
import Derived.Test.YtdimbnkgomfojabFold4
import Derived.IntWalk
import Derived.Laws.AppendOwnNone

section
namespace Go.Proofs.Ytdimbnkgomfojab
open Go.ChangeShapes Go.WideShapes Go.ChangeAt Go.RowKit Go.Joins

set_option maxRecDepth 100000 in
theorem Try.own : ownKnob Try.prog.godebug = none := by kernel_rfl
set_option maxRecDepth 100000 in
theorem Try.laidOut : laidOutB Try.prog = true := by kernel_rfl
set_option maxRecDepth 100000 in
theorem Try.cellsI : Try.prog.cellsOf 3 = 1 := by kernel_rfl
set_option maxRecDepth 100000 in
theorem Try.cellsLB : Try.prog.cellsOf 24 = 3 := by kernel_rfl

set_option maxRecDepth 100000 in
/-- A slice of ints that came in. -/
theorem reads_of {H : Type} {enc : TypeId × Value → H} {W : World} {a0 : Option Addr} {len cap fuel : Nat} {x : DataW H × List MemPlace}
    (hf : DataW.trod enc Try.prog W 0 (fun _ => true) true fuel 22 [.slice a0 len cap] = some x) : len ≤ 9223372036854775807 ∧ ∃ zs, Reads W a0 len zs := by
  rcases open_ints Try.underlying22 Try.underlying3 Try.cellsI hf with ⟨hcs, hx⟩ | ⟨a, len', cap', zs, hcs, _, hl, hm, hz, hx, hcell, hwz⟩
  · simp at hcs
    obtain ⟨rfl, rfl, rfl⟩ := hcs
    exact ⟨by omega, [], rfl, .inl rfl⟩
  · simp at hcs
    obtain ⟨rfl, rfl, rfl⟩ := hcs
    simp only [if_true] at hz
    unfold maxLen at hm
    refine ⟨by omega, zs.take len, by simp; omega, ?_⟩
    by_cases h0 : len = 0
    · exact .inl h0
    · obtain ⟨b, off, spot⟩ := a
      have hspot : spot = none := by simpa [Addr.add] using World.cell?_spot (hcell 0 (by omega))
      subst hspot
      refine .inr ⟨b, off, rfl, World.block_lt_of_cell? _ _ (by have := hcell 0 (by omega); simpa [Addr.add] using this), fun j hj => ?_⟩
      have := hcell j (by omega)
      rw [add_plain] at this
      rw [this]
      simp [List.getD, hj]

set_option maxRecDepth 100000 in
theorem open_board {H : Type} {enc : TypeId × Value → H} {W : World} {base : Nat} {v : Value} {d : DataW H} {p : List MemPlace}
    (hv : Value.okWide Try.prog W .any base 24 v) (h : DataW.Trod enc Try.prog W 0 (fun _ => true) true 24 v d p) :
    ∃ (r c : Int) (a : Option Addr) (len cap : Nat) (zs : List Int), v = .agg #[.int .i64 r, .int .i64 c, .slice a len cap] ∧ len ≤ 9223372036854775807 ∧ Reads W a len zs := by
  obtain ⟨c0, c1, c2, y0, y1, y2, m, rfl, rfl, rfl, hy0, hy1, hy2⟩ := open_agg3 Try.underlying24 (by kernel_rfl) Try.cellsLB hv h
  obtain ⟨r, e0, rfl, w0⟩ := DataW.trod_int Try.underlying3 hy0
  obtain ⟨c, e1, rfl, w1⟩ := DataW.trod_int Try.underlying3 hy1
  obtain ⟨a, len, cap, e2⟩ := slice_form Try.underlying22 hy2
  simp at e0 e1 e2
  subst e0 e1 e2
  obtain ⟨hl, zs, hr⟩ := reads_of hy2
  exact ⟨r, c, a, len, cap, zs, rfl, hl, hr⟩

end Go.Proofs.Ytdimbnkgomfojab
end

section
namespace Go.Proofs.Ytdimbnkgomfojab
open Go.RowKit

/-- A list told by a function. -/
def lstL (L : Nat) (g : Nat → Nat) : List Int := (List.range L).map (fun k => (g k : Int))
theorem lstL_len (L : Nat) (g : Nat → Nat) : (lstL L g).length = L := by simp [lstL]
theorem lstL_get (L : Nat) (g : Nat → Nat) (k : Nat) (h : k < L) : (lstL L g).getD k 0 = g k := by simp [lstL, List.getD, h]
theorem lstL_zero (L : Nat) : List.replicate L (0 : Int) = lstL L (fun _ => 0) := by
  apply List.ext_getElem
  · simp [lstL]
  · intro i h1 h2
    simp [lstL]
theorem lstL_congr (L : Nat) (g g' : Nat → Nat) (h : ∀ k, k < L → g k = g' k) : lstL L g = lstL L g' := by
  unfold lstL
  refine List.map_congr_left (fun k hk => ?_)
  rw [h k (List.mem_range.1 hk)]
theorem lstL_set (L : Nat) (g g' : Nat → Nat) (i : Nat) (x : Int) (hx : (g' i : Int) = x) (ho : ∀ k, k < L → k ≠ i → g' k = g k) : (lstL L g).set i x = lstL L g' := by
  apply List.ext_getElem
  · simp [lstL]
  · intro k h1 h2
    have hk : k < L := by simpa [lstL] using h2
    by_cases e : k = i
    · subst e
      rw [List.getElem_set_self]
      simp [lstL, hx]
    · rw [List.getElem_set_ne (fun h => e h.symm)]
      simp [lstL, ho k hk e]

/-- What one column adds: w d rows on, the column taken. -/
def term (B : Nat → Nat → Bool) (w : Nat → Nat → Nat) (f t k c : Nat) : Nat := if B f c && !t.testBit c then (if k = 0 then 0 else w (t ||| 2 ^ c) (k - 1)) else 0
/-- In how many ways d rows from f on carry k rooks in columns that are not in t. -/
def wR (m : Nat) (B : Nat → Nat → Bool) : Nat → Nat → Nat → Nat → Nat
  | 0, _, _, k => if k = 0 then 1 else 0
  | d + 1, f, t, k => wR m B d (f + 1) t k + ((List.range m).map (term B (wR m B d (f + 1)) f t k)).sum
/-- .. with the first c columns looked at. -/
def accC (m : Nat) (B : Nat → Nat → Bool) (d f t c k : Nat) : Nat := wR m B d (f + 1) t k + ((List.range c).map (term B (wR m B d (f + 1)) f t k)).sum
theorem accC_zero (m : Nat) (B : Nat → Nat → Bool) (d f t k : Nat) : accC m B d f t 0 k = wR m B d (f + 1) t k := by simp [accC]
theorem accC_full (m : Nat) (B : Nat → Nat → Bool) (d f t k : Nat) : accC m B d f t m k = wR m B (d + 1) f t k := rfl
theorem accC_succ (m : Nat) (B : Nat → Nat → Bool) (d f t c k : Nat) : accC m B d f t (c + 1) k = accC m B d f t c k + term B (wR m B d (f + 1)) f t k c := by
  unfold accC
  rw [List.range_succ, List.map_append, List.sum_append]
  simp [Nat.add_assoc]

theorem sum_le (l : List Nat) (b : Nat) (h : ∀ x ∈ l, x ≤ b) : l.sum ≤ l.length * b := by
  induction l with
  | nil => simp
  | cons a l ih =>
    rw [List.sum_cons, List.length_cons, Nat.succ_mul]
    have := h a (by simp)
    have := ih (fun x hx => h x (by simp [hx]))
    omega
theorem term_le (B : Nat → Nat → Bool) (w : Nat → Nat → Nat) (f t k c b : Nat) (h : ∀ t k, w t k ≤ b) : term B w f t k c ≤ b := by
  unfold term
  split
  · split
    · omega
    · exact h _ _
  · omega
theorem accC_le (m : Nat) (B : Nat → Nat → Bool) (d f t c k b : Nat) (h : ∀ t k, wR m B d (f + 1) t k ≤ b) : accC m B d f t c k ≤ (c + 1) * b := by
  have h1 := h t k
  have h2 := sum_le ((List.range c).map (term B (wR m B d (f + 1)) f t k)) b (fun x hx => by
    obtain ⟨c', _, rfl⟩ := List.mem_map.1 hx
    exact term_le B _ f t k c' b h)
  rw [List.length_map, List.length_range] at h2
  unfold accC
  rw [Nat.succ_mul]
  omega
theorem wR_le (m : Nat) (hm : m ≤ 6) (B : Nat → Nat → Bool) (d : Nat) : ∀ f t k, wR m B d f t k ≤ 7 ^ d := by
  induction d with
  | zero => intro f t k; unfold wR; split <;> simp
  | succ d ih =>
    intro f t k
    have h := accC_le m B d f t m k (7 ^ d) (fun t k => ih (f + 1) t k)
    rw [accC_full] at h
    have h2 : (m + 1) * 7 ^ d ≤ 7 * 7 ^ d := Nat.mul_le_mul_right _ (by omega)
    rw [Nat.pow_succ]
    omega
theorem pow7 (d : Nat) (h : d ≤ 6) : 7 ^ d ≤ 117649 := by
  have : d = 0 ∨ d = 1 ∨ d = 2 ∨ d = 3 ∨ d = 4 ∨ d = 5 ∨ d = 6 := by omega
  rcases this with rfl | rfl | rfl | rfl | rfl | rfl | rfl <;> simp

/-- How many of the first m columns are taken. -/
def cntT (m t : Nat) : Nat := ((List.range m).filter (fun c => t.testBit c)).length
theorem cntT_put (m t c : Nat) (hm : m ≤ 6) (ht : t < 64) (hc : c < m) (h : t.testBit c = false) : cntT m (t ||| 2 ^ c) = cntT m t + 1 ∧ t ||| 2 ^ c < 64 := by
  have key : ∀ m : Fin 7, ∀ t : Fin 64, ∀ c : Fin 6, (c : Nat) < (m : Nat) → (t : Nat).testBit c = false → cntT m (t ||| 2 ^ (c : Nat)) = cntT m t + 1 ∧ (t : Nat) ||| 2 ^ (c : Nat) < 64 := by decide +kernel
  exact key ⟨m, by omega⟩ ⟨t, ht⟩ ⟨c, by omega⟩ hc h
theorem sum_pos (l : List Nat) (h : l.sum ≠ 0) : ∃ x ∈ l, x ≠ 0 := by
  induction l with
  | nil => simp at h
  | cons a l ih =>
    by_cases ha : a = 0
    · rw [List.sum_cons, ha, Nat.zero_add] at h
      obtain ⟨x, hx, h2⟩ := ih h
      exact ⟨x, by simp [hx], h2⟩
    · exact ⟨a, by simp, ha⟩
/-- More rooks than rows or than columns that are left have no way. -/
theorem wR_off (m : Nat) (hm : m ≤ 6) (B : Nat → Nat → Bool) (d : Nat) : ∀ f t k, t < 64 → cntT m t ≤ m → wR m B d f t k ≠ 0 → k ≤ d ∧ k + cntT m t ≤ m := by
  induction d with
  | zero =>
    intro f t k _ hc h
    unfold wR at h
    split at h
    · omega
    · simp at h
  | succ d ih =>
    intro f t k ht hc h
    by_cases h1 : wR m B d (f + 1) t k ≠ 0
    · have := ih _ _ _ ht hc h1; omega
    · have h2 : ((List.range m).map (term B (wR m B d (f + 1)) f t k)).sum ≠ 0 := by
        unfold wR at h
        omega
      obtain ⟨x, hx, hx0⟩ := sum_pos _ h2
      obtain ⟨c, hcm, rfl⟩ := List.mem_map.1 hx
      have hcm := List.mem_range.1 hcm
      unfold term at hx0
      split at hx0
      · rename_i hb
        rw [Bool.and_eq_true, Bool.not_eq_true'] at hb
        split at hx0
        · omega
        · obtain ⟨e1, e2⟩ := cntT_put m t c hm ht hcm hb.2
          have hle : cntT m (t ||| 2 ^ c) ≤ m := by
            unfold cntT
            have := List.length_filter_le (fun c' => (t ||| 2 ^ c).testBit c') (List.range m)
            simpa using this
          have := ih _ _ _ e2 hle hx0
          omega
      · omega
theorem cntT_zero (m : Nat) : cntT m 0 = 0 := by simp [cntT]
theorem cntT_le (m t : Nat) : cntT m t ≤ m := by
  unfold cntT
  have := List.length_filter_le (fun c => t.testBit c) (List.range m)
  simpa using this

end Go.Proofs.Ytdimbnkgomfojab
end

section
namespace Go.Proofs.Ytdimbnkgomfojab
open Go.RowKit Go.WideShapes

/-- The cells of a board, as a test. -/
abbrev bt (xs : List Int) (a b : Nat) : Bool := (xs.getD a 0).toNat.testBit b
theorem bit_nat (t c : Nat) (ht : t < 64) (hc : c < 6) : (((t : Int) / 2 ^ c).tmod 2 == 1) = t.testBit c := by
  have key : ∀ t : Fin 64, ∀ c : Fin 6, ((((t : Nat) : Int) / 2 ^ (c : Nat)).tmod 2 == 1) = (t : Nat).testBit c := by decide +kernel
  exact key ⟨t, ht⟩ ⟨c, hc⟩
theorem or_nat (t c : Nat) (ht : t < 64) (hc : c < 6) : bits .or .i64 (t : Int) (wrap64 (2 ^ c)) = ((t ||| 2 ^ c : Nat) : Int) := by
  have key : ∀ t : Fin 64, ∀ c : Fin 6, bits .or .i64 ((t : Nat) : Int) (wrap64 (2 ^ (c : Nat))) = (((t : Nat) ||| 2 ^ (c : Nat) : Nat) : Int) := by decide +kernel
  exact key ⟨t, ht⟩ ⟨c, hc⟩
theorem or_nat2 (t c : Nat) (ht : t < 64) (hc : c < 6) : bits .or .i64 (t : Int) (IntKind.i64.wrap (2 ^ c)) = ((t ||| 2 ^ c : Nat) : Int) := by
  have key : ∀ t : Fin 64, ∀ c : Fin 6, bits .or .i64 ((t : Nat) : Int) (IntKind.i64.wrap (2 ^ (c : Nat))) = (((t : Nat) ||| 2 ^ (c : Nat) : Nat) : Int) := by decide +kernel
  exact key ⟨t, ht⟩ ⟨c, hc⟩
theorem add_in (x y : Nat) (hx : x ≤ 1000000000) (hy : y ≤ 1000000000) : IntKind.i64.wrap ((x : Int) + y) = ((x + y : Nat) : Int) := by
  rw [show (x : Int) + y = ((x + y : Nat) : Int) by push_cast; rfl]
  exact IntWalk.i64_in _ (by omega)


end Go.Proofs.Ytdimbnkgomfojab
end

section
namespace Go.Proofs.Ytdimbnkgomfojab
open Go.RowKit

/-- What is appended: nothing at all, or a row of cells. -/
def Src (w : World) (src : Value) (ys : List Int) : Prop :=
  (src = .slice none 0 0 ∧ ys = []) ∨ ∃ ad cap, src = .slice (some ad) ys.length cap ∧ ∀ j, j < ys.length → w.cell? (ad.add j) = some (.int .i64 (ys.getD j 0))

theorem Own.src {w : World} {lo : Nat} {v : Value} {xs : List Int} (h : Own w lo v xs) : Src w v xs := by
  rcases h.cases with h2 | ⟨g, cap, rfl, h1, h2, h3, h4⟩
  · exact .inl h2
  · refine .inr ⟨_, cap, rfl, fun j hj => ?_⟩
    rw [Addr.add_lit, Nat.zero_add]
    exact h.cell j hj

theorem Src.kept {w w' : World} {v : Value} {ys : List Int} (h : Src w v ys) (hb : Below w.heap.size w w') : Src w' v ys := by
  rcases h with h | ⟨ad, cap, hv, hc⟩
  · exact .inl h
  · refine .inr ⟨ad, cap, hv, fun j hj => ?_⟩
    have := hc j hj
    have hlt := World.block_lt_of_cell? _ _ this
    rw [hb.cell hlt]
    exact this

theorem wp_append {w : World} {ops : Array Oper} {rest : List Oper} {o : Oper} {a : Act} {Q : Exit → Act → World → Prop} (hgd : o.guard = none) (s x : Operand)
    (ho : o.op = .call { callee := .builtin .append, args := #[s, x], argTypes := #[22, 22] }) (lo : Nat) (v : Value) (xs ys : List Int) (src : Value)
    (hs : a.eval s = v) (hx : a.eval x = src) (hown : Own w lo v xs) (hsrc : Src w src ys) (hl : xs.length + ys.length ≤ 1048576) (hlo : lo ≤ w.heap.size)
    (h : ∀ v' w', Own w' lo v' (xs ++ ys) → w.grownBy w' v.ownBlock → wpList Try.prog ops Q rest (a.put o.dst v') w') : wpList Try.prog ops Q (o :: rest) a w := by
  obtain ⟨i0, hi, hz0, hz1, hz2⟩ := info_parts Try.infoI
  rcases hsrc with ⟨rfl, rfl⟩ | ⟨ad, cap, rfl, hc⟩
  · refine wpList_append_own_none hgd s x 22 ho lo 3 i0 1 Try.underlying22 hi v xs.length _ hs hown hx ?_
    exact h v w (by simpa using hown) (World.grownBy.refl _ _)
  · refine wpList_append_own w hgd s x 22 ho lo 3 i0 (.int .i64 0) 1 8 Try.underlying22 hi hz0 hz1 hz2 rfl (by decide) v xs.length _ hs hown ad ys.length cap (ys.map (Value.int .i64)) hx (by simp) ?_ (ints_oneCell _ _) (by unfold maxLen; omega) (by omega) hlo ?_
    · intro j u hu
      obtain ⟨hj, rfl⟩ := List.getElem?_eq_some_iff.1 hu
      simp only [List.length_map] at hj
      rw [hc j hj]
      simp [List.getD, hj]
    · intro v' w' h1 h2 _
      refine h v' w' ?_ h2
      unfold Own
      rw [List.length_append, List.map_append]
      exact h1

/-- A new slice of nothing. -/
theorem own_empty (w : World) : Own (w.alloc (.cells #[] 3)) w.heap.size (.slice (some ⟨w.heap.size, 0, none⟩) 0 0) [] :=
  ⟨by simp, .inr ⟨w.heap.size, 0, #[], rfl, Nat.le_refl _, heap_alloc_new w _, Nat.le_refl _, by unfold maxLen; omega, by simp, by simp⟩⟩

set_option maxHeartbeats 800000 in
theorem l1Own_any (xs : List Int) (w : World) (hx : xs.length ≤ 1048576) (src : Value) (hs : Src w src xs) :
    Calls Try.prog 89 #[src] w fun e w' => ∃ v, e = .returned v ∧ Own w' w.heap.size v xs ∧ Below w.heap.size w w' := by
  have hb := below_new (w := w) (.cells #[] 3)
  have hs1 := hs.kept hb
  have HO := Lib.hid (own_empty w)
  have HS := Lib.hid hs1
  have HB := Lib.hid hb
  clear hs hb hs1
  go_enter Try.func89, Try.ntmps89
  go_wp2_with (at_builtin; refine wp_append rfl _ _ rfl w.heap.size _ [] xs _ rfl rfl HO.out HS.out ?h1 ?h2 ?_)
  case h1 => simp; omega
  case h2 => simp
  intro v w1 hO hg
  have HO1 := Lib.hid hO; clear hO
  have HB1 := Lib.hid (HB.out.grown hg (by simp) (by intro k hk; simp [Value.ownBlock] at hk; omega))
  clear hg
  go_wp2
  go_ret
  exact ⟨_, rfl, by simpa using HO1.out, HB1.out⟩

end Go.Proofs.Ytdimbnkgomfojab
end
