import Derived.Test.YtdimbnkgomfojaaFold4
import Derived.IntWalk
import Derived.Deep.RegionLaw
import Derived.Laws.CopyOwn
import Derived.WideShapes

section
namespace Go.Proofs.Ytdimbnkgomfojaa
open Go.RowKit

/-- A list told by a function. -/
def lstL (L : Nat) (g : Nat → Nat) : List Int := (List.range L).map (fun k => (g k : Int))
theorem lstL_len (L : Nat) (g : Nat → Nat) : (lstL L g).length = L := by simp [lstL]
theorem lstL_get (L : Nat) (g : Nat → Nat) (k : Nat) (h : k < L) : (lstL L g).getD k 0 = g k := by simp [lstL, List.getD, h]
theorem lstL_zero (L : Nat) : List.replicate L (0 : Int) = lstL L (fun _ => 0) := by
  apply List.ext_getElem
  · simp [lstL]
  · intro i h1 h2
    simp [lstL]
theorem lstL_congr (L : Nat) (g g' : Nat → Nat) (h : ∀ k, k < L → g k = g' k) : lstL L g = lstL L g' := by
  unfold lstL
  refine List.map_congr_left (fun k hk => ?_)
  rw [h k (List.mem_range.1 hk)]
theorem lstL_set (L : Nat) (g g' : Nat → Nat) (i : Nat) (x : Int) (hx : (g' i : Int) = x) (ho : ∀ k, k < L → k ≠ i → g' k = g k) : (lstL L g).set i x = lstL L g' := by
  apply List.ext_getElem
  · simp [lstL]
  · intro k h1 h2
    have hk : k < L := by simpa [lstL] using h2
    by_cases e : k = i
    · subst e
      rw [List.getElem_set_self]
      simp [lstL, hx]
    · rw [List.getElem_set_ne (fun h => e h.symm)]
      simp [lstL, ho k hk e]

/-- What one column adds: w d rows on, the column taken. -/
def term (B : Nat → Nat → Bool) (w : Nat → Nat → Nat) (f t k c : Nat) : Nat := if B f c && !t.testBit c then (if k = 0 then 0 else w (t ||| 2 ^ c) (k - 1)) else 0
/-- In how many ways d rows from f on carry k rooks in columns that are not in t. -/
def wR (m : Nat) (B : Nat → Nat → Bool) : Nat → Nat → Nat → Nat → Nat
  | 0, _, _, k => if k = 0 then 1 else 0
  | d + 1, f, t, k => wR m B d (f + 1) t k + ((List.range m).map (term B (wR m B d (f + 1)) f t k)).sum
/-- .. with the first c columns looked at. -/
def accC (m : Nat) (B : Nat → Nat → Bool) (d f t c k : Nat) : Nat := wR m B d (f + 1) t k + ((List.range c).map (term B (wR m B d (f + 1)) f t k)).sum
theorem accC_zero (m : Nat) (B : Nat → Nat → Bool) (d f t k : Nat) : accC m B d f t 0 k = wR m B d (f + 1) t k := by simp [accC]
theorem accC_full (m : Nat) (B : Nat → Nat → Bool) (d f t k : Nat) : accC m B d f t m k = wR m B (d + 1) f t k := rfl
theorem accC_succ (m : Nat) (B : Nat → Nat → Bool) (d f t c k : Nat) : accC m B d f t (c + 1) k = accC m B d f t c k + term B (wR m B d (f + 1)) f t k c := by
  unfold accC
  rw [List.range_succ, List.map_append, List.sum_append]
  simp [Nat.add_assoc]

theorem sum_le (l : List Nat) (b : Nat) (h : ∀ x ∈ l, x ≤ b) : l.sum ≤ l.length * b := by
  induction l with
  | nil => simp
  | cons a l ih =>
    rw [List.sum_cons, List.length_cons, Nat.succ_mul]
    have := h a (by simp)
    have := ih (fun x hx => h x (by simp [hx]))
    omega
theorem term_le (B : Nat → Nat → Bool) (w : Nat → Nat → Nat) (f t k c b : Nat) (h : ∀ t k, w t k ≤ b) : term B w f t k c ≤ b := by
  unfold term
  split
  · split
    · omega
    · exact h _ _
  · omega
theorem accC_le (m : Nat) (B : Nat → Nat → Bool) (d f t c k b : Nat) (h : ∀ t k, wR m B d (f + 1) t k ≤ b) : accC m B d f t c k ≤ (c + 1) * b := by
  have h1 := h t k
  have h2 := sum_le ((List.range c).map (term B (wR m B d (f + 1)) f t k)) b (fun x hx => by
    obtain ⟨c', _, rfl⟩ := List.mem_map.1 hx
    exact term_le B _ f t k c' b h)
  rw [List.length_map, List.length_range] at h2
  unfold accC
  rw [Nat.succ_mul]
  omega
theorem wR_le (m : Nat) (hm : m ≤ 6) (B : Nat → Nat → Bool) (d : Nat) : ∀ f t k, wR m B d f t k ≤ 7 ^ d := by
  induction d with
  | zero => intro f t k; unfold wR; split <;> simp
  | succ d ih =>
    intro f t k
    have h := accC_le m B d f t m k (7 ^ d) (fun t k => ih (f + 1) t k)
    rw [accC_full] at h
    have h2 : (m + 1) * 7 ^ d ≤ 7 * 7 ^ d := Nat.mul_le_mul_right _ (by omega)
    rw [Nat.pow_succ]
    omega
theorem pow7 (d : Nat) (h : d ≤ 6) : 7 ^ d ≤ 117649 := by
  have : d = 0 ∨ d = 1 ∨ d = 2 ∨ d = 3 ∨ d = 4 ∨ d = 5 ∨ d = 6 := by omega
  rcases this with rfl | rfl | rfl | rfl | rfl | rfl | rfl <;> simp

/-- How many of the first m columns are taken. -/
def cntT (m t : Nat) : Nat := ((List.range m).filter (fun c => t.testBit c)).length
theorem cntT_put (m t c : Nat) (hm : m ≤ 6) (ht : t < 64) (hc : c < m) (h : t.testBit c = false) : cntT m (t ||| 2 ^ c) = cntT m t + 1 ∧ t ||| 2 ^ c < 64 := by
  have key : ∀ m : Fin 7, ∀ t : Fin 64, ∀ c : Fin 6, (c : Nat) < (m : Nat) → (t : Nat).testBit c = false → cntT m (t ||| 2 ^ (c : Nat)) = cntT m t + 1 ∧ (t : Nat) ||| 2 ^ (c : Nat) < 64 := by decide +kernel
  exact key ⟨m, by omega⟩ ⟨t, ht⟩ ⟨c, by omega⟩ hc h
theorem sum_pos (l : List Nat) (h : l.sum ≠ 0) : ∃ x ∈ l, x ≠ 0 := by
  induction l with
  | nil => simp at h
  | cons a l ih =>
    by_cases ha : a = 0
    · rw [List.sum_cons, ha, Nat.zero_add] at h
      obtain ⟨x, hx, h2⟩ := ih h
      exact ⟨x, by simp [hx], h2⟩
    · exact ⟨a, by simp, ha⟩
/-- More rooks than rows or than columns that are left have no way. -/
theorem wR_off (m : Nat) (hm : m ≤ 6) (B : Nat → Nat → Bool) (d : Nat) : ∀ f t k, t < 64 → cntT m t ≤ m → wR m B d f t k ≠ 0 → k ≤ d ∧ k + cntT m t ≤ m := by
  induction d with
  | zero =>
    intro f t k _ hc h
    unfold wR at h
    split at h
    · omega
    · simp at h
  | succ d ih =>
    intro f t k ht hc h
    by_cases h1 : wR m B d (f + 1) t k ≠ 0
    · have := ih _ _ _ ht hc h1; omega
    · have h2 : ((List.range m).map (term B (wR m B d (f + 1)) f t k)).sum ≠ 0 := by
        unfold wR at h
        omega
      obtain ⟨x, hx, hx0⟩ := sum_pos _ h2
      obtain ⟨c, hcm, rfl⟩ := List.mem_map.1 hx
      have hcm := List.mem_range.1 hcm
      unfold term at hx0
      split at hx0
      · rename_i hb
        rw [Bool.and_eq_true, Bool.not_eq_true'] at hb
        split at hx0
        · omega
        · obtain ⟨e1, e2⟩ := cntT_put m t c hm ht hcm hb.2
          have hle : cntT m (t ||| 2 ^ c) ≤ m := by
            unfold cntT
            have := List.length_filter_le (fun c' => (t ||| 2 ^ c).testBit c') (List.range m)
            simpa using this
          have := ih _ _ _ e2 hle hx0
          omega
      · omega
theorem cntT_zero (m : Nat) : cntT m 0 = 0 := by simp [cntT]
theorem cntT_le (m t : Nat) : cntT m t ≤ m := by
  unfold cntT
  have := List.length_filter_le (fun c => t.testBit c) (List.range m)
  simpa using this

end Go.Proofs.Ytdimbnkgomfojaa
end

section
namespace Go.Proofs.Ytdimbnkgomfojaa
open Go.RowKit Go.WideShapes

/-- The cells of a board, as a test. -/
abbrev bt (xs : List Int) (a b : Nat) : Bool := (xs.getD a 0).toNat.testBit b
theorem bit_nat (t c : Nat) (ht : t < 64) (hc : c < 6) : (((t : Int) / 2 ^ c).tmod 2 == 1) = t.testBit c := by
  have key : ∀ t : Fin 64, ∀ c : Fin 6, ((((t : Nat) : Int) / 2 ^ (c : Nat)).tmod 2 == 1) = (t : Nat).testBit c := by decide +kernel
  exact key ⟨t, ht⟩ ⟨c, hc⟩
theorem or_nat (t c : Nat) (ht : t < 64) (hc : c < 6) : bits .or .i64 (t : Int) (wrap64 (2 ^ c)) = ((t ||| 2 ^ c : Nat) : Int) := by
  have key : ∀ t : Fin 64, ∀ c : Fin 6, bits .or .i64 ((t : Nat) : Int) (wrap64 (2 ^ (c : Nat))) = (((t : Nat) ||| 2 ^ (c : Nat) : Nat) : Int) := by decide +kernel
  exact key ⟨t, ht⟩ ⟨c, hc⟩
theorem or_nat2 (t c : Nat) (ht : t < 64) (hc : c < 6) : bits .or .i64 (t : Int) (IntKind.i64.wrap (2 ^ c)) = ((t ||| 2 ^ c : Nat) : Int) := by
  have key : ∀ t : Fin 64, ∀ c : Fin 6, bits .or .i64 ((t : Nat) : Int) (IntKind.i64.wrap (2 ^ (c : Nat))) = (((t : Nat) ||| 2 ^ (c : Nat) : Nat) : Int) := by decide +kernel
  exact key ⟨t, ht⟩ ⟨c, hc⟩
theorem add_in (x y : Nat) (hx : x ≤ 1000000000) (hy : y ≤ 1000000000) : IntKind.i64.wrap ((x : Int) + y) = ((x + y : Nat) : Int) := by
  rw [show (x : Int) + y = ((x + y : Nat) : Int) by push_cast; rfl]
  exact IntWalk.i64_in _ (by omega)


end Go.Proofs.Ytdimbnkgomfojaa
end

section
namespace Go.Proofs.Ytdimbnkgomfojaa
open Go.RowKit Go.WideShapes

theorem bit_at (x : Int) (j : Nat) (h : 0 ≤ x ∧ x < 64) (hj : j < 6) : (bits .and .i64 (x / 2 ^ j) 1 == 1) = x.toNat.testBit j := by
  obtain ⟨n, rfl⟩ := Int.eq_ofNat_of_zero_le h.1
  have hn : n < 64 := by omega
  have key : ∀ n : Fin 64, ∀ j : Fin 6, (bits .and .i64 (((n : Nat) : Int) / 2 ^ (j : Nat)) 1 == 1) = (n : Nat).testBit j := by decide +kernel
  exact key ⟨n, hn⟩ ⟨j, hj⟩

theorem grid_cells (r c : Int) (xs : List Int) (h : xs.length ≤ 6) :
    splice [.int .i64 r, .int .i64 c, .int .i64 0, .int .i64 0, .int .i64 0, .int .i64 0, .int .i64 0, .int .i64 0] 2 (xs.map (Value.int .i64)) =
      [.int .i64 r, .int .i64 c, .int .i64 (xs.getD 0 0), .int .i64 (xs.getD 1 0), .int .i64 (xs.getD 2 0), .int .i64 (xs.getD 3 0), .int .i64 (xs.getD 4 0), .int .i64 (xs.getD 5 0)] := by
  match xs, h with
  | [], _ => rfl
  | [_], _ => rfl
  | [_, _], _ => rfl
  | [_, _, _], _ => rfl
  | [_, _, _, _], _ => rfl
  | [_, _, _, _, _], _ => rfl
  | [_, _, _, _, _, _], _ => rfl
  | _ :: _ :: _ :: _ :: _ :: _ :: _ :: _, h => simp at h

theorem bcell' {B : Nat} {W w1 : World} (hb : Below B W w1) : (∀ b o, b < B → w1.cell? ⟨b, o, none⟩ = W.cell? ⟨b, o, none⟩) ∧ (∀ b o, b < B → w1.frozen? ⟨b, o, none⟩ = W.frozen? ⟨b, o, none⟩) :=
  ⟨fun b o h => hb.cell (p := ⟨b, o, none⟩) h, fun b o h => hb.frozen (p := ⟨b, o, none⟩) h⟩

/-- A grid's block. -/
def gl (n m : Int) (f : Nat → Int) : List Value := [.int .i64 n, .int .i64 m, .int .i64 (f 0), .int .i64 (f 1), .int .i64 (f 2), .int .i64 (f 3), .int .i64 (f 4), .int .i64 (f 5)]
theorem gl_get (n m : Int) (f : Nat → Int) (i : Nat) (h : i < 6) : (gl n m f)[2 + i]? = some (.int .i64 (f i)) := by
  have : i = 0 ∨ i = 1 ∨ i = 2 ∨ i = 3 ∨ i = 4 ∨ i = 5 := by omega
  rcases this with rfl | rfl | rfl | rfl | rfl | rfl <;> rfl
theorem gl_set (n m : Int) (f g : Nat → Int) (i : Nat) (h : i < 6) (x : Int) (hx : g i = x) (hg : ∀ k, k ≠ i → g k = f k) : (gl n m f).set (2 + i) (.int .i64 x) = gl n m g := by
  have : i = 0 ∨ i = 1 ∨ i = 2 ∨ i = 3 ∨ i = 4 ∨ i = 5 := by omega
  subst hx
  rcases this with rfl | rfl | rfl | rfl | rfl | rfl <;> simp [gl, hg]

set_option maxHeartbeats 400000 in
theorem at_any (r c : Int) (m : Nat → Int) (k j : Nat) (w : World) (hk : k < 6) (hj : j < 6) (hm : 0 ≤ m k ∧ m k < 64) :
    Calls Try.prog 101 #[.agg #[.int .i64 r, .int .i64 c, .int .i64 (m 0), .int .i64 (m 1), .int .i64 (m 2), .int .i64 (m 3), .int .i64 (m 4), .int .i64 (m 5)], .int .i64 k, .int .i64 j] w
      fun e w' => e = .returned (.bool ((m k).toNat.testBit j)) ∧ Below w.heap.size w w' := by
  have hcell : (w.alloc (.cells #[.int .i64 r, .int .i64 c, .int .i64 (m 0), .int .i64 (m 1), .int .i64 (m 2), .int .i64 (m 3), .int .i64 (m 4), .int .i64 (m 5)] 59)).cell? ⟨w.heap.size, 2 + k, none⟩ = some (.int .i64 (m k)) := by
    rw [World.cell?_alloc_at _ _ _ _ rfl]
    have : k = 0 ∨ k = 1 ∨ k = 2 ∨ k = 3 ∨ k = 4 ∨ k = 5 := by omega
    rcases this with rfl | rfl | rfl | rfl | rfl | rfl <;> rfl
  generalize hx : m k = x at *
  clear hx
  go_enter Try.func101, Try.ntmps101
  go_wp2
  go_ret
  exact ⟨ret_bool (bit_at x j hm hj), below_new _⟩

set_option maxHeartbeats 800000 in
theorem gridOf_no (r c : Int) (a : Option Addr) (cap : Nat) (xs : List Int) (w : World) (hx : xs.length ≤ 1048576) (hr : Reads w a xs.length xs) (hg : goodB r c xs = false) :
    Calls Try.prog 50 #[.agg #[.int .i64 r, .int .i64 c, .slice a xs.length cap]] w
      fun e w' => e = .returned (.tuple #[.agg #[.int .i64 0, .int .i64 0, .int .i64 0, .int .i64 0, .int .i64 0, .int .i64 0, .int .i64 0, .int .i64 0], .bool false]) ∧ Below w.heap.size w w' := by
  have HG := Lib.hid hg; clear hg
  go_enter Try.func50, Try.ntmps50
  go_wp2_with fail
  refine (implIsBoard_any r c a cap xs _ hx (hr.kept (below_on (below_new _) (below_new _)))).mono ?_
  rintro e w1 ⟨rfl, hb⟩
  rw [HG.out]
  obtain ⟨hc, hf⟩ := bcell hb
  have hz := hb.size
  simp only [World.size_alloc] at hz
  go_wp2
  refine bodyPost_ret (v := .tuple #[.agg #[.int .i64 0, .int .i64 0, .int .i64 0, .int .i64 0, .int .i64 0, .int .i64 0, .int .i64 0, .int .i64 0], .bool false]) (by simp [results, Try.results50, go_sem, hc]) rfl ⟨rfl, ?_⟩
  have h2 := below_on (below_on (below_new _) (below_new _)) hb
  repeat (refine Below.setCell ?_ (by simp <;> omega) _)
  exact h2

set_option maxHeartbeats 800000 in
theorem gridOf_yes (r c : Int) (a : Option Addr) (cap : Nat) (xs : List Int) (w : World) (hx : xs.length ≤ 1048576) (hr : Reads w a xs.length xs) (hg : goodB r c xs = true) :
    Calls Try.prog 50 #[.agg #[.int .i64 r, .int .i64 c, .slice a xs.length cap]] w
      fun e w' => e = .returned (.tuple #[.agg #[.int .i64 r, .int .i64 c, .int .i64 (xs.getD 0 0), .int .i64 (xs.getD 1 0), .int .i64 (xs.getD 2 0), .int .i64 (xs.getD 3 0), .int .i64 (xs.getD 4 0), .int .i64 (xs.getD 5 0)], .bool true]) ∧ Below w.heap.size w w' := by
  have HG := Lib.hid hg; clear hg
  go_enter Try.func50, Try.ntmps50
  go_wp2_with fail
  refine (implIsBoard_any r c a cap xs _ hx (hr.kept (below_on (below_new _) (below_new _)))).mono ?_
  rintro e w1 ⟨rfl, hb⟩
  rw [HG.out]
  obtain ⟨hc, hf⟩ := bcell hb
  have hz := hb.size
  simp only [World.size_alloc] at hz
  go_wp2
  have hlen : xs.length ≤ 6 := by
    have := HG.out
    simp only [goodB, Bool.and_eq_true, inB_iff, decide_eq_true_eq] at this
    omega
  have hr1 := (hr.kept (below_on (below_on (below_new _) (below_new _)) hb)).kept (below_new (.cells #[.int .i64 r, .int .i64 c, .int .i64 0, .int .i64 0, .int .i64 0, .int .i64 0, .int .i64 0, .int .i64 0] 59))
  have hcp : 0 < (xs.map (Value.int .i64)).length → (some (⟨w1.heap.size, 2, none⟩ : Addr)) = some ⟨w1.heap.size, 2, none⟩ ∧ ∃ ad, a = some ad ∧ ∀ j v, (xs.map (Value.int .i64))[j]? = some v → ((w1.alloc (.cells #[.int .i64 r, .int .i64 c, .int .i64 0, .int .i64 0, .int .i64 0, .int .i64 0, .int .i64 0, .int .i64 0] 59)).drew).cell? (ad.add j) = some v := by
    intro h0
    obtain ⟨b, off, rfl, hlt, hcc⟩ := reads_row hr1 (by simpa using h0)
    refine ⟨rfl, _, rfl, fun j v hj => ?_⟩
    obtain ⟨hx1, rfl⟩ := List.getElem?_eq_some_iff.1 hj
    simp only [List.length_map] at hx1
    rw [add_plain]
    have := hcc j hx1
    simp only [List.getElem_map]
    simpa [List.getD, hx1] using this
  have HP := Lib.hid hcp; clear hcp
  have k2 := ((((Box.new w (.int .i64 r) (.int .i64 c) (.slice a xs.length cap) 29).kept (below_new _)).kept hb).kept (below_new (.cells #[.int .i64 r, .int .i64 c, .int .i64 0, .int .i64 0, .int .i64 0, .int .i64 0, .int .i64 0, .int .i64 0] 59))).c2
  have hg0 : ((w1.alloc (.cells #[.int .i64 r, .int .i64 c, .int .i64 0, .int .i64 0, .int .i64 0, .int .i64 0, .int .i64 0, .int .i64 0] 59)).drew).heap[w1.heap.size]? = some (.cells [.int .i64 r, .int .i64 c, .int .i64 0, .int .i64 0, .int .i64 0, .int .i64 0, .int .i64 0, .int .i64 0].toArray 59 (0, 0)) := heap_alloc_new w1 _
  have hn0 : (xs.map (Value.int .i64)).length = Nat.min xs.length 6 := by simp only [List.length_map]; exact (Nat.min_eq_left hlen).symm
  have hf0 : 2 + (xs.map (Value.int .i64)).length ≤ ([.int .i64 r, .int .i64 c, .int .i64 0, .int .i64 0, .int .i64 0, .int .i64 0, .int .i64 0, .int .i64 0] : List Value).length := by simp; omega
  have HG0 := Lib.hid hg0; clear hg0
  have HN0 := Lib.hid hn0; clear hn0
  have HF0 := Lib.hid hf0; clear hf0
  go_region_law (refine step_copy_splice rfl (.tmp 15) (.tmp 17) 22 22 rfl 3 Try.underlying22 (by kernel_rfl) _ a 6 6 xs.length cap (by simp [Act.eval]) (by simp [Act.eval]) w1.heap.size 2 _ 59 HG0.out (xs.map (Value.int .i64)) HN0.out HP.out HF0.out (ints_oneCell _ _) w1.heap.size _ (Below.refl _ _) (Nat.le_refl _) ?_; intro w4 hg4 hb4)
  have hg5 : Has w4 w1.heap.size _ 59 := hg4.out
  rw [grid_cells r c xs hlen] at hg5
  obtain ⟨e0, e1, e2, e3, e4, e5, e6, e7, _⟩ := hg5.eight
  have hR : Has w1 (w.heap.size + 1) [.int .i64 0, .int .i64 0, .int .i64 0, .int .i64 0, .int .i64 0, .int .i64 0, .int .i64 0, .int .i64 0] 59 := by
    have := Has.new (w.alloc (.cells #[.int .i64 r, .int .i64 c, .slice a xs.length cap] 29)) [.int .i64 0, .int .i64 0, .int .i64 0, .int .i64 0, .int .i64 0, .int .i64 0, .int .i64 0, .int .i64 0] 59
    simpa using this.kept hb (by simp)
  have hR4 := hR.kept ((below_new (.cells #[.int .i64 r, .int .i64 c, .int .i64 0, .int .i64 0, .int .i64 0, .int .i64 0, .int .i64 0, .int .i64 0] 59)).drew.trans hb4) hR.lt
  obtain ⟨f0, f1, f2, f3, f4, f5, f6, f7, ff⟩ := hR4.eight
  have HB4 := Lib.hid hb4; clear hb4
  clear hg4 hg5 hr1 k2 hR hR4 hc hf
  go_wp2
  refine bodyPost_ret (v := .tuple #[.agg #[.int .i64 r, .int .i64 c, .int .i64 (xs.getD 0 0), .int .i64 (xs.getD 1 0), .int .i64 (xs.getD 2 0), .int .i64 (xs.getD 3 0), .int .i64 (xs.getD 4 0), .int .i64 (xs.getD 5 0)], .bool true]) (by simp [results, Try.results50, go_sem, f0, f1, f2, f3, f4, f5, f6, f7]) rfl ⟨rfl, ?_⟩
  have h2 := (below_on (below_on (below_on (below_new _) (below_new _)) hb) (below_new (.cells #[.int .i64 r, .int .i64 c, .int .i64 0, .int .i64 0, .int .i64 0, .int .i64 0, .int .i64 0, .int .i64 0] 59))).drew.trans (HB4.out.mono (by omega))
  repeat (refine Below.setCell ?_ (by simp <;> omega) _)
  exact h2

end Go.Proofs.Ytdimbnkgomfojaa
end

section
namespace Go.Proofs.Ytdimbnkgomfojaa
open Go.RowKit Go.WideShapes

theorem own_of_has {w : World} {lo g n : Nat} {xs : List Int} (h : Has w g (xs.map (Value.int .i64)) 3) (hl : lo ≤ g) (hn : xs.length = n) (hm : n ≤ maxLen) : Own w lo (.slice (some ⟨g, 0, none⟩) n n) xs := by
  subst hn
  refine ⟨by simp, .inr ⟨g, xs.length, _, rfl, hl, h, Nat.le_refl _, hm, by simp, by simp [List.take_of_length_le]⟩⟩

theorem splice_all (n : Nat) (cs : List Value) (h : cs.length = n) (z : Value) : splice (List.replicate n z) 0 cs = cs := by
  simp [splice, h]

theorem made_eq (n : Nat) (z : Value) : madeCells #[z] n = (List.replicate n z).toArray := by
  rw [← toList_madeCells_one]

theorem own_made (W : World) (n g lo : Nat) (hg : g = W.heap.size) (hl : lo ≤ g) (hn : n ≤ 1048576) : Own (W.alloc (.cells (madeCells #[.int .i64 0] n) 3)) lo (.slice (some ⟨g, 0, none⟩) n n) (List.replicate n 0) := by
  subst hg
  refine own_of_has ?_ hl (by simp) (by unfold maxLen; omega)
  rw [made_eq, List.map_replicate]
  exact Has.new W _ _

theorem board_facts (n : Nat) (c m0 m1 m2 m3 m4 m5 : Int) (w w3 : World) (hw : w3 = (((w.alloc (.cells #[.int .i64 n, .int .i64 c, .int .i64 m0, .int .i64 m1, .int .i64 m2, .int .i64 m3, .int .i64 m4, .int .i64 m5] 59)).alloc (.cells #[.int .i64 0, .int .i64 0, .slice none 0 0] 29)).alloc (.cells (madeCells #[.int .i64 0] n) 3))) :
    Has w3 (w.heap.size + 1 + 1) (List.replicate n (.int .i64 0)) 3 ∧ Has w3 w.heap.size [.int .i64 n, .int .i64 c, .int .i64 m0, .int .i64 m1, .int .i64 m2, .int .i64 m3, .int .i64 m4, .int .i64 m5] 59 ∧ Has w3 (w.heap.size + 1) [.int .i64 0, .int .i64 0, .slice none 0 0] 29 ∧ Below w.heap.size w w3 ∧
    (∀ j v, (([m0, m1, m2, m3, m4, m5].take n).map (Value.int .i64))[j]? = some v → w3.cell? ((⟨w.heap.size, 2, none⟩ : Addr).add j) = some v) := by
  have H1 := Has.new w [.int .i64 n, .int .i64 c, .int .i64 m0, .int .i64 m1, .int .i64 m2, .int .i64 m3, .int .i64 m4, .int .i64 m5] 59
  have b1 := below_new (w := w) (.cells #[.int .i64 n, .int .i64 c, .int .i64 m0, .int .i64 m1, .int .i64 m2, .int .i64 m3, .int .i64 m4, .int .i64 m5] 59)
  generalize hw1 : w.alloc (.cells #[.int .i64 n, .int .i64 c, .int .i64 m0, .int .i64 m1, .int .i64 m2, .int .i64 m3, .int .i64 m4, .int .i64 m5] 59) = w1 at *
  have H2 := Has.new w1 [.int .i64 0, .int .i64 0, .slice none 0 0] 29
  have b2 := below_new (w := w1) (.cells #[.int .i64 0, .int .i64 0, .slice none 0 0] 29)
  have H12 := H1.kept b2 H1.lt
  generalize hw2 : w1.alloc (.cells #[.int .i64 0, .int .i64 0, .slice none 0 0] 29) = w2 at *
  have H3 : Has (w2.alloc (.cells (madeCells #[.int .i64 0] n) 3)) w2.heap.size (List.replicate n (.int .i64 0)) 3 := by rw [made_eq]; exact Has.new w2 _ _
  have b3 := below_new (w := w2) (.cells (madeCells #[.int .i64 0] n) 3)
  have H13 := H12.kept b3 H12.lt
  have H23 := H2.kept b3 H2.lt
  have hz1 : w1.heap.size = w.heap.size + 1 := by rw [← hw1]; simp
  have hz2 : w2.heap.size = w.heap.size + 1 + 1 := by rw [← hw2, World.size_alloc, hz1]
  rw [← hw] at H3 H13 H23 b3
  rw [hz2] at H3
  rw [hz1] at H23
  refine ⟨H3, H13, H23, below_on (below_on b1 b2) b3, fun j v hj => ?_⟩
  rw [add_plain, H13.cell]
  rw [List.map_take, List.getElem?_take] at hj
  split at hj
  · rw [show 2 + j = j + 2 by omega]; exact hj
  · cases hj

end Go.Proofs.Ytdimbnkgomfojaa
end
