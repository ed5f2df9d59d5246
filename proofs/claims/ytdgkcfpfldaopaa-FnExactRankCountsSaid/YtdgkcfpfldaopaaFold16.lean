import Derived.Test.YtdgkcfpfldaopaaFold7
import Derived.Test.YtdgkcfpfldaopaaFold15
import Derived.Test.YtdgkcfpfldaopaaFold8
import Derived.Lib.AppendZeros
import Derived.Test.YtdgkcfpfldaopaaFold4

section
namespace Go.Proofs.Ytdgkcfpfldaopaa
open Go.RowKit Go.WideShapes

set_option maxRecDepth 100000 in
set_option maxHeartbeats 1600000 in
theorem grow_any (n : Nat) (w : World) (h0 : 0 < n) (hn : n ≤ 1048576) :
    Calls Try.prog 144 #[.slice none 0 0, .int .i64 n] w fun e w' => ∃ g cap, e = .returned (.slice (some ⟨g, 0, none⟩) 0 cap) ∧ Own w' w.heap.size (.slice (some ⟨g, 0, none⟩) 0 cap) [] ∧ Below w.heap.size w w' := by
  obtain ⟨i0, hi, hz0, hz1, hz2⟩ := info_parts Try.infoI
  have happ := fun (W : World) => Lib.run_append_nil_zeros (P := Try.prog) W 22 3 22 3 i0 (.int .i64 0) .i64 .i64 Try.underlying22 Try.underlying3 hi hz0 n h0 (by omega) (by omega) (by rw [hz2]; omega)
  have hG := fun (W : World) => grownCap_ge W n 0 3
  have hM := fun (W : World) => grownCap_le_maxLen W n 0 3 (by unfold maxLen; omega)
  have hZ : ∀ (W : World), (Builtin.zeroCells (Value.int .i64 0).cells n ++ Builtin.zeroCells (Value.int .i64 0).cells (grownCap W n 0 3 - n)).size = grownCap W n 0 3 := fun W => by
    have := hG W
    simp [size_zeroCells, Value.cells]
    omega
  have hfin : Own (w.drew.alloc (.cells (Builtin.zeroCells (Value.int .i64 0).cells n ++ Builtin.zeroCells (Value.int .i64 0).cells (grownCap w n 0 3 - n)) 3)) w.heap.size (.slice (some ⟨w.heap.size, 0, none⟩) 0 (grownCap w n 0 3)) [] ∧
      Below w.heap.size w (w.drew.alloc (.cells (Builtin.zeroCells (Value.int .i64 0).cells n ++ Builtin.zeroCells (Value.int .i64 0).cells (grownCap w n 0 3 - n)) 3)) := by
    refine ⟨⟨by simp, .inr ⟨w.heap.size, grownCap w n 0 3, _, rfl, Nat.le_refl _, heap_alloc_new _ _, Nat.zero_le _, hM w, ?_, by simp⟩⟩, ((Below.refl _ _).drew).trans (below_new (w := w.drew) _)⟩
    rw [hZ w, Nat.mul_one]
  have HF := Lib.hid hfin
  have hcap := hG w
  generalize hzz : (Builtin.zeroCells (Value.int .i64 0).cells n ++ Builtin.zeroCells (Value.int .i64 0).cells (grownCap w n 0 3 - n)) = Z at HF
  have happ0 := happ w
  rw [hzz] at happ0
  generalize grownCap w n 0 3 = C at *
  have hn0 : ¬ ((n : Int) < 0) := by omega
  have hn1 : (n : Int) > 0 := by omega
  have hC : (n : Int) ≤ C := by omega
  clear hfin hzz happ hG hM hZ
  go_enter Try.func144, Try.ntmps144
  go_wp2_with (at_builtin; refine Lib.wpList_append_run _ rfl _ _ 22 3 rfl _ _ rfl rfl _ _ happ0 ?_)
  go_wp2_with fail
  go_ret
  exact ⟨_, _, rfl, HF.out.1, HF.out.2⟩

theorem Src.kept' {w w' : World} {v : Value} {ys : List Int} (h : Src w v ys) (hb : Below w.heap.size w w') : Src w' v ys := h.kept hb
/-- The first k lists, one behind the other. -/
def catY (Y : Nat → List Int) : Nat → List Int
  | 0 => []
  | k + 1 => catY Y k ++ Y k
theorem catY_len (Y : Nat → List Int) (L : Nat) (k n : Nat) (hk : k ≤ n) (h : (catY Y n).length ≤ L) : (catY Y k).length ≤ L := by
  induction n with
  | zero => rw [show k = 0 by omega]; exact h
  | succ n ih =>
    by_cases e : k = n + 1
    · rw [e]; exact h
    · refine ih (by omega) ?_
      rw [catY, List.length_append] at h
      omega
theorem src_len {w : World} {v : Value} {ys : List Int} (h : Src w v ys) : ∃ a c, v = .slice a ys.length c := by
  rcases h with ⟨rfl, rfl⟩ | ⟨ad, cap, rfl, _⟩
  · exact ⟨none, 0, rfl⟩
  · exact ⟨_, _, rfl⟩

set_option maxRecDepth 100000 in
set_option maxHeartbeats 3200000 in
theorem concat_any (g0 n c : Nat) (S : Nat → Value) (Y : Nat → List Int) (w : World) (hn : n ≤ 1048576) (hg0 : g0 < w.heap.size) (h0 : 0 < (catY Y n).length) (hl : (catY Y n).length ≤ 1048576)
    (hc : ∀ k, k < n → w.cell? ⟨g0, k, none⟩ = some (S k)) (hs : ∀ k, k < n → Src w (S k) (Y k)) :
    Calls Try.prog 132 #[.slice (some ⟨g0, 0, none⟩) n c] w fun e w' => ∃ v, e = .returned v ∧ Own w' w.heap.size v (catY Y n) ∧ Below w.heap.size w w' := by
  have HC := Lib.hid hc
  have HS := Lib.hid hs
  have HL := Lib.hid (fun k (hk : k ≤ n) => catY_len Y _ k n hk hl)
  have HG := Lib.hid (fun W => grow_any (catY Y n).length W h0 hl)
  obtain ⟨T, hT⟩ : ∃ T, T = (catY Y n).length := ⟨_, rfl⟩
  rw [← hT] at HG
  have HT := Lib.hid hT
  clear hc hs h0 hl hT
  go_enter Try.func132, Try.ntmps132
  go_wp2_with fail
  go_loopw [3, 11] (fun z i wr => ∃ k : Nat, k ≤ n ∧ i = .int .i64 k ∧ z = .int .i64 ((catY Y k).length : Int) ∧ w = wr) (fun _ i _ => n - (intOf i).toNat)
  case atStart => exact ⟨0, Nat.zero_le _, rfl, rfl, rfl⟩
  case round =>
    obtain ⟨k, hk, rfl, rfl, hww⟩ := hrel
    subst hww
    by_cases hlt : k < n
    · have hck := HC.out k hlt
      obtain ⟨a, c1, hv⟩ := src_len (HS.out k hlt)
      rw [hv] at hck
      have hz := HL.out (k + 1) hlt
      have hsum : ((catY Y k).length : Int) + ((Y k).length : Int) = ((catY Y (k + 1)).length : Int) := by rw [catY, List.length_append]; omega
      have hw : wrap64 (((catY Y k).length : Int) + ((Y k).length : Int)) = ((catY Y (k + 1)).length : Int) := by rw [hsum]; exact IntWalk.wrap64_in _ (by omega)
      have hpos : ¬ (((catY Y (k + 1)).length : Int) < 0) := by omega
      have HW := Lib.hid hw
      obtain ⟨z3, hz3⟩ : ∃ z3, z3 = (catY Y (k + 1)).length := ⟨_, rfl⟩
      rw [← hz3] at hw hz hpos HW hsum
      have HZ3 := Lib.hid hz3
      generalize (catY Y k).length = z1 at *
      generalize (Y k).length = z2 at *
      clear hsum hv hz hz3
      go_wp2_with fail
      go_roundw
      case rel => exact ⟨k + 1, by omega, by go_num, by rw [HW.out, HZ3.out], by first | rfl | trivial⟩
      case measure => simp [intOf]; omega
    · obtain rfl : k = n := by omega
      rw [← HT.out]
      go_wp2_with fail
      refine (HG.out _).mono ?_
      rintro e w1 ⟨g, cap, rfl, hO, hb⟩
      have HO1 := Lib.hid (And.intro hO hb)
      clear hO hb
      go_wp2_with fail
      go_loopw [6, 27] (fun v i ws => ∃ j : Nat, j ≤ k ∧ i = .int .i64 j ∧ Hid (Own ws w.heap.size v (catY Y j) ∧ Below w.heap.size w ws)) (fun _ i _ => k - (intOf i).toNat)
      case atStart => exact ⟨0, Nat.zero_le _, rfl, HO1⟩
      case round =>
        clear HO1
        obtain ⟨j, hj, rfl, HO⟩ := hrel
        by_cases hlt2 : j < k
        · have hck := (HO.out.2.cell (p := ⟨g0, j, none⟩) hg0).trans (HC.out j hlt2)
          obtain ⟨a, c1, hv⟩ := src_len (HS.out j hlt2)
          have hsrc := (HS.out j hlt2).kept HO.out.2
          rw [hv] at hck hsrc
          have HSR := Lib.hid hsrc
          have HZ := Lib.hid (HL.out (j + 1) hlt2)
          rw [show (catY Y (j + 1)) = catY Y j ++ Y j from rfl] at HZ
          clear hsrc hv
          go_wp2_with (at_builtin; refine wp_append rfl _ _ rfl w.heap.size _ (catY Y j) (Y j) _ rfl rfl HO.out.1 HSR.out ?h1 ?h2 ?_)
          case h1 => have := HZ.out; rw [List.length_append] at this; exact this
          case h2 => exact HO.out.2.size
          intro v' w' hO hg
          have HO2 : Hid (Own w' w.heap.size v' (catY Y (j + 1)) ∧ Below w.heap.size w w') := Lib.hid ⟨hO, HO.out.2.grown hg HO.out.2.size (fun k hk => (own_lt HO.out.1 k hk).1)⟩
          clear hO hg HO HSR HZ
          go_wp2_with fail
          go_roundw
          case rel => exact ⟨j + 1, by omega, by go_num, HO2⟩
          case measure => simp [intOf]; omega
        · obtain rfl : j = k := by omega
          go_wp2_with fail
          go_ret
          exact ⟨_, rfl, HO.out.1, HO.out.2⟩

theorem upL_app (s : Nat) (ys : List Int) (h : 0 < ys.length) : upL s ys = List.replicate s 0 ++ ys := by
  unfold upL
  rw [if_neg (by omega)]
  refine Eq.trans (lstI_congr _ _ (fun k => (List.replicate s (0 : Int) ++ ys).getD k 0) (fun k _ => ?_)) ?_
  · by_cases e : k < s
    · rw [if_pos e, List.getD_eq_getElem?_getD, List.getElem?_append_left (by rw [List.length_replicate]; exact e)]
      simp [e]
    · rw [if_neg e, List.getD_eq_getElem?_getD (l := _ ++ _), List.getElem?_append_right (by rw [List.length_replicate]; omega), List.length_replicate]
      simp [List.getD_eq_getElem?_getD]
  · have := lstI_self (List.replicate s (0 : Int) ++ ys)
    rwa [List.length_append, List.length_replicate] at this

set_option maxRecDepth 100000 in
set_option maxHeartbeats 3200000 in
theorem movedUp_any (s : Nat) (ys : List Int) (v : Value) (w : World) (hl : s + ys.length ≤ 1048576) (hs : Src w v ys) :
    Calls Try.prog 127 #[v, .int .i64 s] w fun e w' => ∃ u, e = .returned u ∧ Own w' w.heap.size u (upL s ys) ∧ Below w.heap.size w w' := by
  obtain ⟨a, c, hv⟩ := src_len hs
  rw [hv]
  by_cases h0 : ys.length = 0
  · obtain rfl : ys = [] := List.eq_nil_of_length_eq_zero h0
    rw [upL_nil]
    rw [show ([] : List Int).length = 0 from rfl]
    clear hs hv h0 hl
    go_enter Try.func127, Try.ntmps127
    go_wp2
    go_ret
    exact ⟨_, rfl, Own.nil _ _, Below.refl _ _⟩
  · have hmk : ∀ w, (Instr.makeSlice 22 (.int .i64 (s : Int)) (.int .i64 (s : Int))).run Try.prog w = .ok (.slice (some ⟨w.heap.size, 0, none⟩) s s) (w.alloc (.cells (madeCells #[.int .i64 0] s) 3)) := by
      intro w
      exact run_make_row' (P := Try.prog) 22 3 (.int .i64 0) 8 Try.underlying22 Try.infoI rfl .i64 .i64 s (by omega) (by omega) w
    have L0 := ((Law.start w).own (below_new _) (own_made w s _ w.heap.size rfl (Nat.le_refl _) (by omega))).has [.slice (some ⟨w.heap.size, 0, none⟩) s s, v] 22
    simp only [World.size_alloc] at L0
    rw [hv, show (([.slice (some ⟨w.heap.size, 0, none⟩) s s, .slice a ys.length c] : List Value).toArray) = #[.slice (some ⟨w.heap.size, 0, none⟩) s s, .slice a ys.length c] from rfl] at L0
    rw [hv] at hs
    let S : Nat → Value := fun k => if k = 0 then .slice (some ⟨w.heap.size, 0, none⟩) s s else .slice a ys.length c
    let Y : Nat → List Int := fun k => if k = 0 then List.replicate s 0 else ys
    have hY : catY Y 2 = upL s ys := by rw [upL_app s ys (by omega)]; rfl
    have hcat : ∀ W, Law w [tHas (w.heap.size + 1) [.slice (some ⟨w.heap.size, 0, none⟩) s s, .slice a ys.length c] 22, tOwn (.slice (some ⟨w.heap.size, 0, none⟩) s s) (List.replicate s 0)] W →
        Calls Try.prog 132 #[.slice (some ⟨w.heap.size + 1, 0, none⟩) 2 2] W fun e w' => ∃ v, e = .returned v ∧ Own w' W.heap.size v (upL s ys) ∧ Below W.heap.size W w' := fun W L => by
      have := concat_any (w.heap.size + 1) 2 2 S Y W (by omega) L.ownHas.lt (by rw [hY, upL_len, if_neg h0]; omega) (by rw [hY, upL_len, if_neg h0]; omega) (fun k hk => by
        have : k = 0 ∨ k = 1 := by omega
        rcases this with rfl | rfl
        · exact L.ownHas.cell 0
        · exact L.ownHas.cell 1) (fun k hk => by
        have : k = 0 ∨ k = 1 := by omega
        rcases this with rfl | rfl
        · have := L.tl.ownInts.src
          exact this
        · exact hs.kept' L.below)
      rw [hY] at this
      exact this
    have HC := Lib.hid hcat
    have HL := Lib.hid L0
    have hn0 : ((ys.length : Int) == 0) = false := by rw [beq_eq_false_iff_ne]; omega
    clear hcat L0 hs hv
    clear hY
    clear Y S
    generalize upL s ys = zs at *
    generalize ys.length = n at *
    go_enter Try.func127, Try.ntmps127
    go_upto_region 4 with fail
    refine (HC.out _ HL.out).mono ?_
    rintro e w1 ⟨u, rfl, hO, hb⟩
    have HF := Lib.hid (And.intro (hO.lower HL.out.below.size) (HL.out.kept hb).below)
    clear hO hb HL HC hmk
    go_wp2_with fail
    go_ret
    exact ⟨_, rfl, HF.out.1, HF.out.2⟩
end Go.Proofs.Ytdgkcfpfldaopaa
end

section
namespace Go.Proofs.Ytdgkcfpfldaopaa
open Go.RowKit

/-- A list told by a function. -/
def lstL (L : Nat) (g : Nat → Nat) : List Int := (List.range L).map (fun k => (g k : Int))
theorem lstL_len (L : Nat) (g : Nat → Nat) : (lstL L g).length = L := by simp [lstL]
theorem lstL_get (L : Nat) (g : Nat → Nat) (k : Nat) (h : k < L) : (lstL L g).getD k 0 = g k := by simp [lstL, List.getD, h]
theorem lstL_zero (L : Nat) : List.replicate L (0 : Int) = lstL L (fun _ => 0) := by
  apply List.ext_getElem
  · simp [lstL]
  · intro i h1 h2
    simp [lstL]
theorem lstL_congr (L : Nat) (g g' : Nat → Nat) (h : ∀ k, k < L → g k = g' k) : lstL L g = lstL L g' := by
  unfold lstL
  refine List.map_congr_left (fun k hk => ?_)
  rw [h k (List.mem_range.1 hk)]
theorem lstL_set (L : Nat) (g g' : Nat → Nat) (i : Nat) (x : Int) (hx : (g' i : Int) = x) (ho : ∀ k, k < L → k ≠ i → g' k = g k) : (lstL L g).set i x = lstL L g' := by
  apply List.ext_getElem
  · simp [lstL]
  · intro k h1 h2
    have hk : k < L := by simpa [lstL] using h2
    by_cases e : k = i
    · subst e
      rw [List.getElem_set_self]
      simp [lstL, hx]
    · rw [List.getElem_set_ne (fun h => e h.symm)]
      simp [lstL, ho k hk e]

/-- What one column adds: w d rows on, the column taken. -/
def term (B : Nat → Nat → Bool) (w : Nat → Nat → Nat) (f t k c : Nat) : Nat := if B f c && !t.testBit c then (if k = 0 then 0 else w (t ||| 2 ^ c) (k - 1)) else 0
/-- In how many ways d rows from f on carry k rooks in columns that are not in t. -/
def wR (m : Nat) (B : Nat → Nat → Bool) : Nat → Nat → Nat → Nat → Nat
  | 0, _, _, k => if k = 0 then 1 else 0
  | d + 1, f, t, k => wR m B d (f + 1) t k + ((List.range m).map (term B (wR m B d (f + 1)) f t k)).sum
/-- .. with the first c columns looked at. -/
def accC (m : Nat) (B : Nat → Nat → Bool) (d f t c k : Nat) : Nat := wR m B d (f + 1) t k + ((List.range c).map (term B (wR m B d (f + 1)) f t k)).sum
theorem accC_zero (m : Nat) (B : Nat → Nat → Bool) (d f t k : Nat) : accC m B d f t 0 k = wR m B d (f + 1) t k := by simp [accC]
theorem accC_full (m : Nat) (B : Nat → Nat → Bool) (d f t k : Nat) : accC m B d f t m k = wR m B (d + 1) f t k := rfl
theorem accC_succ (m : Nat) (B : Nat → Nat → Bool) (d f t c k : Nat) : accC m B d f t (c + 1) k = accC m B d f t c k + term B (wR m B d (f + 1)) f t k c := by
  unfold accC
  rw [List.range_succ, List.map_append, List.sum_append]
  simp [Nat.add_assoc]

theorem sum_le (l : List Nat) (b : Nat) (h : ∀ x ∈ l, x ≤ b) : l.sum ≤ l.length * b := by
  induction l with
  | nil => simp
  | cons a l ih =>
    rw [List.sum_cons, List.length_cons, Nat.succ_mul]
    have := h a (by simp)
    have := ih (fun x hx => h x (by simp [hx]))
    omega
theorem term_le (B : Nat → Nat → Bool) (w : Nat → Nat → Nat) (f t k c b : Nat) (h : ∀ t k, w t k ≤ b) : term B w f t k c ≤ b := by
  unfold term
  split
  · split
    · omega
    · exact h _ _
  · omega
theorem accC_le (m : Nat) (B : Nat → Nat → Bool) (d f t c k b : Nat) (h : ∀ t k, wR m B d (f + 1) t k ≤ b) : accC m B d f t c k ≤ (c + 1) * b := by
  have h1 := h t k
  have h2 := sum_le ((List.range c).map (term B (wR m B d (f + 1)) f t k)) b (fun x hx => by
    obtain ⟨c', _, rfl⟩ := List.mem_map.1 hx
    exact term_le B _ f t k c' b h)
  rw [List.length_map, List.length_range] at h2
  unfold accC
  rw [Nat.succ_mul]
  omega
theorem wR_le (m : Nat) (hm : m ≤ 6) (B : Nat → Nat → Bool) (d : Nat) : ∀ f t k, wR m B d f t k ≤ 7 ^ d := by
  induction d with
  | zero => intro f t k; unfold wR; split <;> simp
  | succ d ih =>
    intro f t k
    have h := accC_le m B d f t m k (7 ^ d) (fun t k => ih (f + 1) t k)
    rw [accC_full] at h
    have h2 : (m + 1) * 7 ^ d ≤ 7 * 7 ^ d := Nat.mul_le_mul_right _ (by omega)
    rw [Nat.pow_succ]
    omega
theorem pow7 (d : Nat) (h : d ≤ 6) : 7 ^ d ≤ 117649 := by
  have : d = 0 ∨ d = 1 ∨ d = 2 ∨ d = 3 ∨ d = 4 ∨ d = 5 ∨ d = 6 := by omega
  rcases this with rfl | rfl | rfl | rfl | rfl | rfl | rfl <;> simp

/-- How many of the first m columns are taken. -/
def cntT (m t : Nat) : Nat := ((List.range m).filter (fun c => t.testBit c)).length
theorem cntT_put (m t c : Nat) (hm : m ≤ 6) (ht : t < 64) (hc : c < m) (h : t.testBit c = false) : cntT m (t ||| 2 ^ c) = cntT m t + 1 ∧ t ||| 2 ^ c < 64 := by
  have key : ∀ m : Fin 7, ∀ t : Fin 64, ∀ c : Fin 6, (c : Nat) < (m : Nat) → (t : Nat).testBit c = false → cntT m (t ||| 2 ^ (c : Nat)) = cntT m t + 1 ∧ (t : Nat) ||| 2 ^ (c : Nat) < 64 := by decide +kernel
  exact key ⟨m, by omega⟩ ⟨t, ht⟩ ⟨c, by omega⟩ hc h
theorem sum_pos (l : List Nat) (h : l.sum ≠ 0) : ∃ x ∈ l, x ≠ 0 := by
  induction l with
  | nil => simp at h
  | cons a l ih =>
    by_cases ha : a = 0
    · rw [List.sum_cons, ha, Nat.zero_add] at h
      obtain ⟨x, hx, h2⟩ := ih h
      exact ⟨x, by simp [hx], h2⟩
    · exact ⟨a, by simp, ha⟩
/-- More rooks than rows or than columns that are left have no way. -/
theorem wR_off (m : Nat) (hm : m ≤ 6) (B : Nat → Nat → Bool) (d : Nat) : ∀ f t k, t < 64 → cntT m t ≤ m → wR m B d f t k ≠ 0 → k ≤ d ∧ k + cntT m t ≤ m := by
  induction d with
  | zero =>
    intro f t k _ hc h
    unfold wR at h
    split at h
    · omega
    · simp at h
  | succ d ih =>
    intro f t k ht hc h
    by_cases h1 : wR m B d (f + 1) t k ≠ 0
    · have := ih _ _ _ ht hc h1; omega
    · have h2 : ((List.range m).map (term B (wR m B d (f + 1)) f t k)).sum ≠ 0 := by
        unfold wR at h
        omega
      obtain ⟨x, hx, hx0⟩ := sum_pos _ h2
      obtain ⟨c, hcm, rfl⟩ := List.mem_map.1 hx
      have hcm := List.mem_range.1 hcm
      unfold term at hx0
      split at hx0
      · rename_i hb
        rw [Bool.and_eq_true, Bool.not_eq_true'] at hb
        split at hx0
        · omega
        · obtain ⟨e1, e2⟩ := cntT_put m t c hm ht hcm hb.2
          have hle : cntT m (t ||| 2 ^ c) ≤ m := by
            unfold cntT
            have := List.length_filter_le (fun c' => (t ||| 2 ^ c).testBit c') (List.range m)
            simpa using this
          have := ih _ _ _ e2 hle hx0
          omega
      · omega
theorem cntT_zero (m : Nat) : cntT m 0 = 0 := by simp [cntT]
theorem cntT_le (m t : Nat) : cntT m t ≤ m := by
  unfold cntT
  have := List.length_filter_le (fun c => t.testBit c) (List.range m)
  simpa using this

end Go.Proofs.Ytdgkcfpfldaopaa
end
