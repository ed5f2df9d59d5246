import Derived.Test.YtabfiafjcnilnaaFold19
import Derived.Test.YtabfiafjcnilnaaFold8
import Derived.Test.YtabfiafjcnilnaaFold6
import Derived.Laws.BitsLemmas
import Derived.Deep.RegionHeld3
import Derived.Deep.RegionWith
import Derived.Test.YtabfiafjcnilnaaFold14
import Derived.Laws.Rows
import Derived.Test.YtabfiafjcnilnaaFold3

section
namespace Go.Proofs.Ytabfiafjcnilnaa
open Go.RowKit Go.WideShapes

theorem wrap63 (n : Int) (h0 : 0 ≤ n) (h : n < 2 ^ 63) : IntKind.i64.wrap n = n := IntWalk.i64_in _ (by omega)
theorem div_nat (x c : Nat) : (x : Int) / 2 ^ c = ((x / 2 ^ c : Nat) : Int) := by push_cast; rfl
theorem bit_one (x c : Nat) (hx : x < 4096) : bits .and .i64 ((x : Int) / 2 ^ c) 1 = if x.testBit c = true then 1 else 0 := by
  have hd : x / 2 ^ c < 2 ^ 63 := Nat.lt_of_le_of_lt (Nat.div_le_self _ _) (by omega)
  rw [div_nat]
  have := (bits_nat .i64 63 (by decide) (fun n h0 h => wrap63 n h0 h) (x / 2 ^ c) 1 hd (by omega)).1
  rw [show (1 : Int) = ((1 : Nat) : Int) from rfl, this, Nat.and_one_is_mod, Nat.testBit_eq_decide_div_mod_eq]
  rcases Nat.mod_two_eq_zero_or_one (x / 2 ^ c) with h | h <;> simp [h]
theorem bit_on (x c : Nat) (hx : x < 4096) : (bits .and .i64 ((x : Int) / 2 ^ c) 1 == 1) = x.testBit c := by
  rw [bit_one x c hx]
  cases x.testBit c <;> rfl
theorem bit_no (x c : Nat) (hx : x < 4096) : (bits .and .i64 ((x : Int) / 2 ^ c) 1 == 0) = !x.testBit c := by
  rw [bit_one x c hx]
  cases x.testBit c <;> rfl
theorem pow_wrap (c : Nat) (hc : c ≤ 12) : wrap64 (2 ^ c) = ((2 ^ c : Nat) : Int) := by
  have key : ∀ c : Fin 13, wrap64 (2 ^ (c : Nat)) = ((2 ^ (c : Nat) : Nat) : Int) := by decide +kernel
  exact key ⟨c, by omega⟩
theorem or_set (s c : Nat) (hs : s < 4096) (hc : c < 12) : bits .or .i64 (s : Int) (wrap64 (2 ^ c)) = ((s ||| 2 ^ c : Nat) : Int) := by
  have h2 : 2 ^ c ≤ 2 ^ 12 := Nat.pow_le_pow_right (by omega) (by omega)
  rw [pow_wrap c (by omega)]
  exact (bits_nat .i64 63 (by decide) (fun n h0 h => wrap63 n h0 h) s (2 ^ c) (by omega) (by omega)).2
theorem add_big (x y : Nat) (hx : x ≤ 1000000000000000000) (hy : y ≤ 1000000000000000000) : IntKind.i64.wrap ((x : Int) + y) = ((x + y : Nat) : Int) := by
  rw [show (x : Int) + y = ((x + y : Nat) : Int) by push_cast; rfl]
  exact IntWalk.i64_in _ (by omega)

theorem oc_all (n : Nat) (h : n < 4096) : oc n = cntG 12 n := by
  have key : ∀ a : Fin 64, ∀ b : Fin 64, oc (((64 * (a : Nat) + (b : Nat)) : Nat) : Int) = (cntG 12 (64 * (a : Nat) + (b : Nat)) : Int) := by decide +kernel
  have := key ⟨n / 64, by omega⟩ ⟨n % 64, by omega⟩
  simp only at this
  rw [show 64 * (n / 64) + n % 64 = n by omega] at this
  exact this

/-- Sets of j columns among the first k sets, summed up. -/
def sumG (m : Nat) (B : Nat → Nat → Bool) (r k j : Nat) : Nat := sumN (fun s => if cntG m s = j then wS m B r s else 0) k
theorem sumG_succ (m : Nat) (B : Nat → Nat → Bool) (r k j : Nat) : sumG m B r (k + 1) j = sumG m B r k j + if cntG m k = j then wS m B r k else 0 := rfl
theorem sumG_le (m : Nat) (hm : m ≤ 12) (B : Nat → Nat → Bool) (r : Nat) (hr : r ≤ 12) (k j : Nat) : sumG m B r k j ≤ k * 23298085122481 :=
  sumN_le _ _ _ (fun s _ => by
    show (if _ then _ else _) ≤ _
    split
    · exact Nat.le_trans (wSG_le m hm B r s) (pow13 r hr)
    · omega)
theorem lstL_start (m N : Nat) (B : Nat → Nat → Bool) : (List.replicate N (0 : Int)).set 0 1 = lstL N (wS m B 0) := by
  rw [lstL_zero]
  exact lstL_set N _ _ 0 1 (by simp [wS]) (fun k _ hk => by simp [wS, hk])

/-- The head of the loop over sets. -/
def HcSet (w : World) (m N g : Nat) (B : Nat → Nat → Bool) (r : Nat) (i : Value) (wr : World) : Prop :=
  (∃ s : Nat, s < N ∧ i = .int .i64 s ∧ Law w [tOwn (.slice (some ⟨g, 0, none⟩) N N) (lstL N (midW m B r (s + 1) 0))] wr) ∨
  (i = .int .i64 (-1) ∧ Law w [tOwn (.slice (some ⟨g, 0, none⟩) N N) (lstL N (midW m B r 0 0))] wr)

end Go.Proofs.Ytabfiafjcnilnaa
end

section
namespace Go.Proofs.Ytabfiafjcnilnaa
open Go.RowKit Go.WideShapes

end Go.Proofs.Ytabfiafjcnilnaa
end

section
namespace Go.Proofs.Ytabfiafjcnilnaa
open Go.RowKit Go.WideShapes

theorem bit_off (s c : Nat) (hs : s < 64) (hc : c < 6) : (bits .and .i64 ((s : Int) / 2 ^ c) 1 == 0) = !s.testBit c := by
  have key : ∀ t : Fin 64, ∀ c : Fin 6, (bits .and .i64 (((t : Nat) : Int) / 2 ^ (c : Nat)) 1 == 0) = !(t : Nat).testBit c := by decide +kernel
  exact key ⟨s, hs⟩ ⟨c, hc⟩
/-- A grid's cells, as a test. -/
abbrev bM (M : Nat → Int) (a b : Nat) : Bool := (M a).toNat.testBit b
/-- The rows of a grid. -/
def rowL (n : Nat) (M : Nat → Int) : List Int := (List.range n).map M
theorem rowL_len (n : Nat) (M : Nat → Int) : (rowL n M).length = n := by simp [rowL]
theorem rowL_get (n : Nat) (M : Nat → Int) (k : Nat) (h : k < n) : (rowL n M).getD k 0 = M k := by simp [rowL, List.getD, h]
theorem wR_rows (m : Nat) (B B' : Nat → Nat → Bool) (d : Nat) : ∀ f t k, (∀ r c, f ≤ r → r < f + d → B r c = B' r c) → wR m B d f t k = wR m B' d f t k := by
  induction d with
  | zero => intro f t k _; rfl
  | succ d ih =>
    intro f t k h
    have ih' := fun t k => ih (f + 1) t k (fun r c h1 h2 => h r c (by omega) (by omega))
    rw [wR, wR, ih' t k]
    congr 2
    refine List.map_congr_left (fun c _ => ?_)
    unfold term
    rw [h f c (Nat.le_refl _) (by omega), ih']
theorem wR_rowL (m n : Nat) (M : Nat → Int) (k : Nat) : wR m (bt (rowL n M)) n 0 0 k = wR m (bM M) n 0 0 k :=
  wR_rows m _ _ n 0 0 k (fun r c _ h => by
    show ((rowL n M).getD r 0).toNat.testBit c = _
    rw [rowL_get n M r (by omega)])

end Go.Proofs.Ytabfiafjcnilnaa
end

section
namespace Go.Proofs.Ytabfiafjcnilnaa
open Go.RowKit Go.WideShapes

/-- Is a number in a list? -/
def hasI (xs : List Int) (c : Int) : Bool := xs.contains c
theorem hasI_iff {xs : List Int} {c : Int} : hasI xs c = true ↔ c ∈ xs := by unfold hasI; simp
theorem hasI_no {xs : List Int} {c : Int} : hasI xs c = false ↔ c ∉ xs := by rw [← Bool.not_eq_true, hasI_iff]
theorem hasI_nil (c : Int) : hasI [] c = false := rfl
theorem hasI_snoc (l : List Int) (y c : Int) : hasI (l ++ [y]) c = (hasI l c || y == c) := by
  rw [Bool.eq_iff_iff, Bool.or_eq_true, hasI_iff, hasI_iff, beq_iff_eq, List.mem_append, List.mem_singleton]
  exact ⟨fun h => h.imp id Eq.symm, fun h => h.imp id Eq.symm⟩
theorem take_snoc (xs : List Int) (k : Nat) (hk : k < xs.length) : xs.take (k + 1) = xs.take k ++ [xs.getD k 0] := by
  rw [List.take_succ_eq_append_getElem hk]
  simp [List.getD, hk]

/-- Is the number at j one for the row j, the ones before it being there? -/
def goodAt (xs : List Int) (m : Nat) (P : List Int) (j : Nat) : Bool :=
  (P.getD j 0 == -1) || (inB 0 (P.getD j 0) ((m : Int) - 1) && ((xs.getD j 0).toNat.testBit (P.getD j 0).toNat && !hasI (P.take j) (P.getD j 0)))
def goodUp (xs : List Int) (m : Nat) (P : List Int) : Nat → Bool
  | 0 => true
  | k + 1 => goodUp xs m P k && goodAt xs m P k
theorem goodUp_no (xs : List Int) (m : Nat) (P : List Int) (k n : Nat) (h : goodAt xs m P k = false) (hk : k < n) : goodUp xs m P n = false := by
  induction n with
  | zero => omega
  | succ n ih =>
    rw [goodUp]
    by_cases e : k = n
    · subst e; rw [h, Bool.and_false]
    · rw [ih (by omega), Bool.false_and]
theorem goodUp_at (xs : List Int) (m : Nat) (P : List Int) (n k : Nat) (h : goodUp xs m P n = true) (hk : k < n) : goodAt xs m P k = true := by
  induction n with
  | zero => omega
  | succ n ih =>
    rw [goodUp, Bool.and_eq_true] at h
    by_cases e : k = n
    · subst e; exact h.2
    · exact ih h.1 (by omega)
/-- A placement? -/
def placeP (n m : Nat) (xs P : List Int) : Bool := decide (P.length = n) && goodUp xs m P n

/-- The columns of the first rooks, as a set. -/
def tkn (P : List Int) : Nat → Nat
  | 0 => 0
  | k + 1 => if P.getD k 0 = -1 then tkn P k else tkn P k ||| 2 ^ (P.getD k 0).toNat
theorem or_put (t c d : Nat) (ht : t < 64) (hc : c < 6) (hd : d < 6) : (t ||| 2 ^ c).testBit d = (t.testBit d || decide (c = d)) := by
  have key : ∀ t : Fin 64, ∀ c : Fin 6, ∀ d : Fin 6, ((t : Nat) ||| 2 ^ (c : Nat)).testBit d = ((t : Nat).testBit d || decide ((c : Nat) = d)) := by decide +kernel
  exact key ⟨t, ht⟩ ⟨c, hc⟩ ⟨d, hd⟩
theorem good_col {xs : List Int} {m : Nat} {P : List Int} {j : Nat} (h : goodAt xs m P j = true) (he : P.getD j 0 ≠ -1) : 0 ≤ P.getD j 0 ∧ P.getD j 0 < m ∧ (xs.getD j 0).toNat.testBit (P.getD j 0).toNat = true ∧ P.getD j 0 ∉ P.take j := by
  unfold goodAt at h
  rw [Bool.or_eq_true, beq_iff_eq] at h
  rcases h with h | h
  · exact absurd h he
  · rw [Bool.and_eq_true, inB_iff, Bool.and_eq_true, Bool.not_eq_true'] at h
    refine ⟨h.1.1, by omega, h.2.1, ?_⟩
    exact hasI_no.1 h.2.2
theorem tkn_lt (xs : List Int) (m : Nat) (hm : m ≤ 6) (P : List Int) (k : Nat) (h : goodUp xs m P k = true) : tkn P k < 64 := by
  induction k with
  | zero => simp [tkn]
  | succ k ih =>
    rw [goodUp, Bool.and_eq_true] at h
    have := ih h.1
    rw [tkn]
    split
    · exact this
    · rename_i he
      obtain ⟨h1, h2, _⟩ := good_col h.2 he
      exact Nat.or_lt_two_pow (n := 6) this (Nat.pow_lt_pow_right (by omega) (by omega))
theorem tkn_mem (xs : List Int) (m : Nat) (hm : m ≤ 6) (P : List Int) (k : Nat) (hk : k ≤ P.length) (h : goodUp xs m P k = true) (c : Nat) (hc : c < 6) : (tkn P k).testBit c = hasI (P.take k) (c : Int) := by
  induction k with
  | zero => simp [tkn, hasI]
  | succ k ih =>
    have h' := h
    rw [goodUp, Bool.and_eq_true] at h
    have hlt := tkn_lt xs m hm P k h.1
    rw [tkn, take_snoc P k (by omega), hasI_snoc]
    split
    · rename_i he
      have h3 : ((-1 : Int) == (c : Int)) = false := by rw [beq_eq_false_iff_ne]; omega
      rw [ih (by omega) h.1, he, h3, Bool.or_false]
    · rename_i he
      obtain ⟨h1, h2, _⟩ := good_col h.2 he
      obtain ⟨d, hd⟩ := Int.eq_ofNat_of_zero_le h1
      rw [hd] at h2 ⊢
      rw [show ((d : Int)).toNat = d by simp, or_put _ _ _ hlt (by omega) hc, ih (by omega) h.1]
      by_cases e : d = c
      · subst e; simp
      · have h3 : (c : Int) ≠ d := by omega
        have h4 : ((d : Int) == (c : Int)) = false := by rw [beq_eq_false_iff_ne]; omega
        rw [h4]
        simp [e]
/-- The places of a list: what is laid for each of the six rows. -/
def plF (P : List Int) (k : Nat) (j : Nat) : Int := if j < k then P.getD j 0 else -1
/-- The cells of an array of six. -/
def pl6 (f : Nat → Int) : List Value := [.int .i64 (f 0), .int .i64 (f 1), .int .i64 (f 2), .int .i64 (f 3), .int .i64 (f 4), .int .i64 (f 5)]
abbrev pv6 (f : Nat → Int) : Value := .agg #[.int .i64 (f 0), .int .i64 (f 1), .int .i64 (f 2), .int .i64 (f 3), .int .i64 (f 4), .int .i64 (f 5)]
theorem pl6_get (f : Nat → Int) (i : Nat) (h : i < 6) : (pl6 f)[i]? = some (.int .i64 (f i)) := by
  have : i = 0 ∨ i = 1 ∨ i = 2 ∨ i = 3 ∨ i = 4 ∨ i = 5 := by omega
  rcases this with rfl | rfl | rfl | rfl | rfl | rfl <;> rfl
theorem pl6_set (f g : Nat → Int) (i : Nat) (h : i < 6) (x : Int) (hx : g i = x) (hg : ∀ k, k < 6 → k ≠ i → g k = f k) : (pl6 f).set i (.int .i64 x) = pl6 g := by
  have : i = 0 ∨ i = 1 ∨ i = 2 ∨ i = 3 ∨ i = 4 ∨ i = 5 := by omega
  subst hx
  rcases this with rfl | rfl | rfl | rfl | rfl | rfl <;> simp [pl6, hg]
theorem pl6_congr (f g : Nat → Int) (h : ∀ k, k < 6 → f k = g k) : pl6 f = pl6 g := by simp [pl6, h]
theorem Has.six {w : World} {b : Nat} {v0 v1 v2 v3 v4 v5 : Value} {t : TypeId} (h : Has w b [v0, v1, v2, v3, v4, v5] t) :
    w.cell? ⟨b, 0, none⟩ = some v0 ∧ w.cell? ⟨b, 1, none⟩ = some v1 ∧ w.cell? ⟨b, 2, none⟩ = some v2 ∧ w.cell? ⟨b, 3, none⟩ = some v3 ∧ w.cell? ⟨b, 4, none⟩ = some v4 ∧ w.cell? ⟨b, 5, none⟩ = some v5 ∧ ∀ o, w.frozen? ⟨b, o, none⟩ = false :=
  ⟨h.cell 0, h.cell 1, h.cell 2, h.cell 3, h.cell 4, h.cell 5, h.free⟩
theorem Reads.take {w : World} {a : Option Addr} {zs : List Int} (h : Reads w a zs.length zs) (k : Nat) (hk : k ≤ zs.length) : Reads w a k (zs.take k) := by
  refine ⟨by simp [hk], ?_⟩
  by_cases h0 : k = 0
  · exact .inl h0
  · obtain ⟨b, off, e, hb, hc⟩ := reads_row h (by omega)
    refine .inr ⟨b, off, e, hb, fun j hj => ?_⟩
    rw [hc j (by omega)]
    simp [List.getD, hj]

end Go.Proofs.Ytabfiafjcnilnaa
end

section
namespace Go.Proofs.Ytabfiafjcnilnaa
open Go.RowKit Go.WideShapes


end Go.Proofs.Ytabfiafjcnilnaa
end

section
namespace Go.Proofs.Ytabfiafjcnilnaa
open Go.RowKit Go.WideShapes

theorem Has.row6 {w : World} {b : Nat} {f : Nat → Int} {t : TypeId} (h : Has w b (pl6 f) t) : w.heap[b]? = some (.cells #[.int .i64 (f 0), .int .i64 (f 1), .int .i64 (f 2), .int .i64 (f 3), .int .i64 (f 4), .int .i64 (f 5)] t (0, 0)) := h


end Go.Proofs.Ytabfiafjcnilnaa
end

section
namespace Go.Proofs.Ytabfiafjcnilnaa
open Go.RowKit Go.WideShapes

theorem Has.setRow6 {w : World} {b : Nat} {G : Nat → Int} {t : TypeId} (h : Has w b (pl6 G) t) (F : Nat → Int) : Has (w.setRow b #[.int .i64 (F 0), .int .i64 (F 1), .int .i64 (F 2), .int .i64 (F 3), .int .i64 (F 4), .int .i64 (F 5)]) b (pl6 F) t :=
  setRow_heap w b _ _ t (0, 0) h
theorem Has.setRowOff {w : World} {b : Nat} {cs : List Value} {t : TypeId} (h : Has w b cs t) (g : Nat) (ds : Array Value) (hg : b ≠ g) : Has (w.setRow g ds) b cs t :=
  (setRow_other w g b ds hg).trans h
theorem Chg.setRow {foot : Nat → Prop} (w : World) (b : Nat) (ds : Array Value) (hf : foot b) : Chg foot w (w.setRow b ds) :=
  ⟨rfl, rfl, rfl, by simp, fun k _ hk => setRow_other w b k ds (fun e => hk (by rw [e]; exact hf))⟩
theorem Has.setOff {w : World} {b : Nat} {cs : List Value} {t : TypeId} (h : Has w b cs t) (g o : Nat) (v : Value) (hg : b ≠ g) : Has (w.setCell ⟨g, o, none⟩ v) b cs t :=
  (Below.heap_setCell w ⟨g, o, none⟩ v b hg).trans h
theorem Chg.of_set {foot : Nat → Prop} (w : World) (b o : Nat) (v : Value) (hf : foot b) : Chg foot w (w.setCell ⟨b, o, none⟩ v) :=
  ⟨rfl, rfl, rfl, by simp [World.setCell], fun k _ hk => Below.heap_setCell w ⟨b, o, none⟩ v k (fun e => hk (by rw [show k = b from e]; exact hf))⟩
theorem Has.one {w : World} {b : Nat} {v0 : Value} {t : TypeId} (h : Has w b [v0] t) : w.cell? ⟨b, 0, none⟩ = some v0 ∧ ∀ o, w.frozen? ⟨b, o, none⟩ = false := ⟨h.cell 0, h.free⟩

end Go.Proofs.Ytabfiafjcnilnaa
end
