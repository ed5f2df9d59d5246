import Derived.Test.YtdimbnkgomfojabFold6
import Derived.Test.YtdimbnkgomfojabFold7
import Derived.Test.YtdimbnkgomfojabFold4
import Derived.Deep.RegionHeld3
import Derived.Deep.RegionWith
import Derived.IntWalk
import Derived.Laws.EntriesVeiled

section
namespace Go.Proofs.Ytdimbnkgomfojab
open Go.RowKit Go.WideShapes

theorem Has.two {w : World} {b : Nat} {v0 v1 : Value} {t : TypeId} (h : Has w b [v0, v1] t) :
    w.cell? ⟨b, 0, none⟩ = some v0 ∧ w.cell? ⟨b, 1, none⟩ = some v1 ∧ ∀ o, w.frozen? ⟨b, o, none⟩ = false :=
  ⟨h.cell 0, h.cell 1, h.free⟩
/-- The block of a sum. -/
abbrev sumV (F : FuncId) (cap : Array Value) (t : Int) : List Value := [.func (.func F) #[] cap, .int .i64 t]

set_option maxRecDepth 100000 in
set_option maxHeartbeats 3200000 in
theorem add_any (b : Nat) (F : FuncId) (cap : Array Value) (t x v : Int) (w : World)
    (hcall : ∀ (args : Array Value) (w : World), (callFunc F args).run Try.prog w = .ok (.enter F args) w)
    (H : Has w b (sumV F cap t) 118)
    (hF : ∀ w', Below w.heap.size w w' → Calls Try.prog F (#[.int .i64 x] ++ cap) w' fun e w'' => e = .returned (.int .i64 v) ∧ Below w'.heap.size w' w'')
    (hs : IntKind.i64.wrap (t + v) = t + v) :
    Calls Try.prog 131 #[.pointer (some ⟨b, 0, none⟩), .int .i64 x] w fun e w' => e = .returned (.bool true) ∧ Chg (fun k => k = b) w w' ∧ Has w' b (sumV F cap (t + v)) 118 := by
  have hlt := H.lt
  obtain ⟨e0, e1, ef⟩ := (show Has w.drew b (sumV F cap t) 118 from H.drew).two
  have HF := Lib.hid hF
  have HH := Lib.hid H
  clear H hF
  go_enter Try.func131, Try.ntmps131
  go_wp2_with fail
  go_region_with (((refine (HF.out _ (Below.refl _ _).drew).mono ?_); rintro e w1 ⟨rfl, hb⟩; have m0 := cell_later hb e0; have m1 := cell_later hb e1; have mf := (hb.frozen (p := ⟨b, 1, none⟩) hlt).trans (ef 1); have HB := Lib.hid hb; clear hb))
  all_goals
    have HN := Lib.hid (((HH.out.drew).kept HB.out hlt).set 1 (.int .i64 (t + v)))
    have HCg := Lib.hid (show Chg (fun k => k = b) w (w1.setCell ⟨b, 1, none⟩ (.int .i64 (t + v))) from ((Chg.of_below (Below.refl _ _).drew).trans (Chg.of_below HB.out)).trans ⟨rfl, rfl, rfl, by simp [World.setCell], fun k _ hf => Below.heap_setCell w1 ⟨b, 1, none⟩ _ k hf⟩)
    go_wp2_with fail
    go_ret
    exact ⟨rfl, HCg.out, HN.out⟩

set_option maxRecDepth 100000 in
set_option maxHeartbeats 1600000 in
theorem addAll_any (b : Nat) (F : FuncId) (cap : Array Value) (f : Nat → Int) (a : Option Addr) (p : Nat) (xs : List Int) (w : World) (hx : xs.length ≤ 1048576) (hr : Reads w a xs.length xs) (hab : ∀ g, 0 < xs.length → a = some g → g.block ≠ b)
    (hcall : ∀ (args : Array Value) (w : World), (callFunc F args).run Try.prog w = .ok (.enter F args) w)
    (H : Has w b (sumV F cap 0) 118)
    (hF : ∀ j, j < xs.length → ∀ w', Chg (fun k => k = b) w w' → Calls Try.prog F (#[.int .i64 (xs.getD j 0)] ++ cap) w' fun e w'' => e = .returned (.int .i64 (f j)) ∧ Below w'.heap.size w' w'')
    (hs : ∀ j, j < xs.length → IntKind.i64.wrap (sumT f j + f j) = sumT f j + f j) :
    Calls Try.prog 123 #[.pointer (some ⟨b, 0, none⟩), .slice a xs.length p] w fun e w' => e = .returned (.tuple #[]) ∧ Chg (fun k => k = b) w w' ∧ Has w' b (sumV F cap (sumT f xs.length)) 118 := by
  have HS := Lib.hid (And.intro (Chg.refl (fun k => k = b) w) H)
  have HF := Lib.hid hF
  have HW := Lib.hid hs
  have HR := Lib.hid hr
  clear H hF hs hr
  go_enter Try.func123, Try.ntmps123
  go_wp2_with fail
  go_loopw [8] (fun v wr => ∃ j : Nat, j ≤ xs.length ∧ v = .int .i64 j ∧ Hid (Chg (fun k => k = b) w wr ∧ Has wr b (sumV F cap (sumT f j)) 118)) (fun v _ => xs.length - (intOf v).toNat)
  case atStart => exact ⟨0, Nat.zero_le _, rfl, HS⟩
  case round =>
    clear HS
    obtain ⟨j, hj, rfl, HS⟩ := hrel
    by_cases hlt : j < xs.length
    · obtain ⟨b1, o1, rfl, hb1, hc1⟩ := reads_row HR.out (by omega)
      have hcj : wr.cell? ⟨b1, o1 + j, none⟩ = some (.int .i64 (xs.getD j 0)) := (cell_of_block (HS.out.1.block b1 hb1 (hab _ (by omega) rfl))).trans (hc1 j hlt)
      have HA := Lib.hid (add_any b F cap (sumT f j) (xs.getD j 0) (f j) wr hcall HS.out.2 (fun w' hb => HF.out j hlt w' (HS.out.1.trans (Chg.of_below hb))) (HW.out j hlt))
      clear hc1 hb1
      generalize xs.getD j 0 = x at *
      go_wp2_with fail
      refine HA.out.mono ?_
      rintro e w2 ⟨rfl, hc, hh⟩
      have HS2 : Hid (Chg (fun k => k = b) w w2 ∧ Has w2 b (sumV F cap (sumT f (j + 1))) 118) := Lib.hid ⟨HS.out.1.trans hc, hh⟩
      clear hc hh HA hcj HS
      go_wp2_with fail
      go_roundw
      case rel => exact ⟨j + 1, by omega, by go_num, HS2⟩
      case measure => simp [intOf]; omega
    · obtain rfl : j = xs.length := by omega
      go_wp2_with fail
      go_end0
      exact ⟨rfl, HS.out⟩


/-- Numbers that are not -1. -/
def one1 (xs : List Int) (j : Nat) : Int := if xs.getD j 0 = -1 then 0 else 1
theorem one1_bd (xs : List Int) (n : Nat) : 0 ≤ sumT (one1 xs) n ∧ sumT (one1 xs) n ≤ n := by
  induction n with
  | zero => simp [sumT]
  | succ n ih =>
    rw [sumT]
    unfold one1 at *
    split <;> omega
theorem one1_cnt (xs : List Int) (h : ∀ j, -1 ≤ xs.getD j 0) (k : Nat) (hk : k ≤ xs.length) : sumT (one1 xs) k = rcnt (xs.take k) := by
  induction k with
  | zero => simp [sumT, rcnt]
  | succ k ih =>
    rw [sumT, ih (by omega), rcnt_succ xs k (by omega)]
    have := h k
    unfold one1
    by_cases e : xs.getD k 0 = -1
    · rw [if_pos e, if_neg (by omega)]; simp
    · rw [if_neg e, if_pos (by omega)]; simp
theorem count1_any (x : Int) (w : World) : Calls Try.prog 122 #[.int .i64 x] w fun e w' => e = .returned (.int .i64 (if x = -1 then 0 else 1)) ∧ Below w.heap.size w w' := by
  by_cases h : x = -1
  · rw [if_pos h]
    subst h
    go_enter Try.func122, Try.ntmps122
    go_wp2
    all_goals go_ret
    all_goals exact ⟨rfl, Below.refl _ _⟩
  · rw [if_neg h]
    have h' : (x == -1) = false := by rw [beq_eq_false_iff_ne]; exact h
    go_enter Try.func122, Try.ntmps122
    go_wp2
    all_goals go_ret
    all_goals exact ⟨rfl, Below.refl _ _⟩
set_option maxRecDepth 100000 in
set_option maxHeartbeats 1600000 in
theorem countRooks_any (a : Option Addr) (p : Nat) (xs : List Int) (w : World) (hx : xs.length ≤ 1048576) (hr : Reads w a xs.length xs) :
    Calls Try.prog 96 #[.slice a xs.length p] w fun e w' => e = .returned (.int .i64 (sumT (one1 xs) xs.length)) ∧ Below w.heap.size w w' := by
  have L0 := (Law.start w).has (sumV 122 #[] 0) 118
  have hab : ∀ g, 0 < xs.length → a = some g → g.block ≠ w.heap.size := by
    intro g h0 hg
    obtain ⟨b1, o1, e, hb1, _⟩ := reads_row hr h0
    rw [hg] at e
    injection e with e
    subst e
    simp
    omega
  have HA := Lib.hid (addAll_any w.heap.size 122 #[] (one1 xs) a p xs _ hx (hr.kept L0.below) hab (fun _ _ => by kernel_rfl) L0.ownHas (fun j _ w' _ => count1_any _ w') (fun j hj => by
    have h1 := one1_bd xs (j + 1)
    rw [sumT] at h1
    exact IntWalk.i64_in _ (by omega)))
  have HL := Lib.hid L0
  clear L0 hr hab
  go_enter Try.func96, Try.ntmps96
  go_wp2_with fail
  refine HA.out.mono ?_
  rintro e w2 ⟨rfl, hc, hh⟩
  obtain ⟨e0, e1, _⟩ := hh.two
  have HB := Lib.hid (Law.write (ts := []) (t := tHas w.heap.size (sumV 122 #[] 0) 118) HL.out hc (tHas w.heap.size (sumV 122 #[] (sumT (one1 xs) xs.length)) 118) rfl hh).below
  clear hc hh HA HL
  go_wp2_with fail
  go_ret
  exact ⟨rfl, HB.out⟩
end Go.Proofs.Ytdimbnkgomfojab
end

section
namespace Go.Proofs.Ytdimbnkgomfojab
open Go.RowKit Go.WideShapes

/-- The cells of a board, as a test. -/
abbrev bt (xs : List Int) (a b : Nat) : Bool := (xs.getD a 0).toNat.testBit b
theorem bit_nat (t c : Nat) (ht : t < 64) (hc : c < 6) : (((t : Int) / 2 ^ c).tmod 2 == 1) = t.testBit c := by
  have key : ∀ t : Fin 64, ∀ c : Fin 6, ((((t : Nat) : Int) / 2 ^ (c : Nat)).tmod 2 == 1) = (t : Nat).testBit c := by decide +kernel
  exact key ⟨t, ht⟩ ⟨c, hc⟩
theorem or_nat (t c : Nat) (ht : t < 64) (hc : c < 6) : bits .or .i64 (t : Int) (wrap64 (2 ^ c)) = ((t ||| 2 ^ c : Nat) : Int) := by
  have key : ∀ t : Fin 64, ∀ c : Fin 6, bits .or .i64 ((t : Nat) : Int) (wrap64 (2 ^ (c : Nat))) = (((t : Nat) ||| 2 ^ (c : Nat) : Nat) : Int) := by decide +kernel
  exact key ⟨t, ht⟩ ⟨c, hc⟩
theorem or_nat2 (t c : Nat) (ht : t < 64) (hc : c < 6) : bits .or .i64 (t : Int) (IntKind.i64.wrap (2 ^ c)) = ((t ||| 2 ^ c : Nat) : Int) := by
  have key : ∀ t : Fin 64, ∀ c : Fin 6, bits .or .i64 ((t : Nat) : Int) (IntKind.i64.wrap (2 ^ (c : Nat))) = (((t : Nat) ||| 2 ^ (c : Nat) : Nat) : Int) := by decide +kernel
  exact key ⟨t, ht⟩ ⟨c, hc⟩
theorem add_in (x y : Nat) (hx : x ≤ 1000000000) (hy : y ≤ 1000000000) : IntKind.i64.wrap ((x : Int) + y) = ((x + y : Nat) : Int) := by
  rw [show (x : Int) + y = ((x + y : Nat) : Int) by push_cast; rfl]
  exact IntWalk.i64_in _ (by omega)


end Go.Proofs.Ytdimbnkgomfojab
end

section
namespace Go.Proofs.Ytdimbnkgomfojab
open Go.RowKit Go.WideShapes

/-- Is a number in a list? -/
def hasI (xs : List Int) (c : Int) : Bool := xs.contains c
theorem hasI_iff {xs : List Int} {c : Int} : hasI xs c = true ↔ c ∈ xs := by unfold hasI; simp
theorem hasI_no {xs : List Int} {c : Int} : hasI xs c = false ↔ c ∉ xs := by rw [← Bool.not_eq_true, hasI_iff]
theorem hasI_nil (c : Int) : hasI [] c = false := rfl
theorem hasI_snoc (l : List Int) (y c : Int) : hasI (l ++ [y]) c = (hasI l c || y == c) := by
  rw [Bool.eq_iff_iff, Bool.or_eq_true, hasI_iff, hasI_iff, beq_iff_eq, List.mem_append, List.mem_singleton]
  exact ⟨fun h => h.imp id Eq.symm, fun h => h.imp id Eq.symm⟩
theorem take_snoc (xs : List Int) (k : Nat) (hk : k < xs.length) : xs.take (k + 1) = xs.take k ++ [xs.getD k 0] := by
  rw [List.take_succ_eq_append_getElem hk]
  simp [List.getD, hk]

/-- Is the number at j one for the row j, the ones before it being there? -/
def goodAt (xs : List Int) (m : Nat) (P : List Int) (j : Nat) : Bool :=
  (P.getD j 0 == -1) || (inB 0 (P.getD j 0) ((m : Int) - 1) && ((xs.getD j 0).toNat.testBit (P.getD j 0).toNat && !hasI (P.take j) (P.getD j 0)))
def goodUp (xs : List Int) (m : Nat) (P : List Int) : Nat → Bool
  | 0 => true
  | k + 1 => goodUp xs m P k && goodAt xs m P k
theorem goodUp_no (xs : List Int) (m : Nat) (P : List Int) (k n : Nat) (h : goodAt xs m P k = false) (hk : k < n) : goodUp xs m P n = false := by
  induction n with
  | zero => omega
  | succ n ih =>
    rw [goodUp]
    by_cases e : k = n
    · subst e; rw [h, Bool.and_false]
    · rw [ih (by omega), Bool.false_and]
theorem goodUp_at (xs : List Int) (m : Nat) (P : List Int) (n k : Nat) (h : goodUp xs m P n = true) (hk : k < n) : goodAt xs m P k = true := by
  induction n with
  | zero => omega
  | succ n ih =>
    rw [goodUp, Bool.and_eq_true] at h
    by_cases e : k = n
    · subst e; exact h.2
    · exact ih h.1 (by omega)
/-- A placement? -/
def placeP (n m : Nat) (xs P : List Int) : Bool := decide (P.length = n) && goodUp xs m P n

/-- The columns of the first rooks, as a set. -/
def tkn (P : List Int) : Nat → Nat
  | 0 => 0
  | k + 1 => if P.getD k 0 = -1 then tkn P k else tkn P k ||| 2 ^ (P.getD k 0).toNat
theorem or_put (t c d : Nat) (ht : t < 64) (hc : c < 6) (hd : d < 6) : (t ||| 2 ^ c).testBit d = (t.testBit d || decide (c = d)) := by
  have key : ∀ t : Fin 64, ∀ c : Fin 6, ∀ d : Fin 6, ((t : Nat) ||| 2 ^ (c : Nat)).testBit d = ((t : Nat).testBit d || decide ((c : Nat) = d)) := by decide +kernel
  exact key ⟨t, ht⟩ ⟨c, hc⟩ ⟨d, hd⟩
theorem good_col {xs : List Int} {m : Nat} {P : List Int} {j : Nat} (h : goodAt xs m P j = true) (he : P.getD j 0 ≠ -1) : 0 ≤ P.getD j 0 ∧ P.getD j 0 < m ∧ (xs.getD j 0).toNat.testBit (P.getD j 0).toNat = true ∧ P.getD j 0 ∉ P.take j := by
  unfold goodAt at h
  rw [Bool.or_eq_true, beq_iff_eq] at h
  rcases h with h | h
  · exact absurd h he
  · rw [Bool.and_eq_true, inB_iff, Bool.and_eq_true, Bool.not_eq_true'] at h
    refine ⟨h.1.1, by omega, h.2.1, ?_⟩
    exact hasI_no.1 h.2.2
theorem tkn_lt (xs : List Int) (m : Nat) (hm : m ≤ 6) (P : List Int) (k : Nat) (h : goodUp xs m P k = true) : tkn P k < 64 := by
  induction k with
  | zero => simp [tkn]
  | succ k ih =>
    rw [goodUp, Bool.and_eq_true] at h
    have := ih h.1
    rw [tkn]
    split
    · exact this
    · rename_i he
      obtain ⟨h1, h2, _⟩ := good_col h.2 he
      exact Nat.or_lt_two_pow (n := 6) this (Nat.pow_lt_pow_right (by omega) (by omega))
theorem tkn_mem (xs : List Int) (m : Nat) (hm : m ≤ 6) (P : List Int) (k : Nat) (hk : k ≤ P.length) (h : goodUp xs m P k = true) (c : Nat) (hc : c < 6) : (tkn P k).testBit c = hasI (P.take k) (c : Int) := by
  induction k with
  | zero => simp [tkn, hasI]
  | succ k ih =>
    have h' := h
    rw [goodUp, Bool.and_eq_true] at h
    have hlt := tkn_lt xs m hm P k h.1
    rw [tkn, take_snoc P k (by omega), hasI_snoc]
    split
    · rename_i he
      have h3 : ((-1 : Int) == (c : Int)) = false := by rw [beq_eq_false_iff_ne]; omega
      rw [ih (by omega) h.1, he, h3, Bool.or_false]
    · rename_i he
      obtain ⟨h1, h2, _⟩ := good_col h.2 he
      obtain ⟨d, hd⟩ := Int.eq_ofNat_of_zero_le h1
      rw [hd] at h2 ⊢
      rw [show ((d : Int)).toNat = d by simp, or_put _ _ _ hlt (by omega) hc, ih (by omega) h.1]
      by_cases e : d = c
      · subst e; simp
      · have h3 : (c : Int) ≠ d := by omega
        have h4 : ((d : Int) == (c : Int)) = false := by rw [beq_eq_false_iff_ne]; omega
        rw [h4]
        simp [e]
/-- The places of a list: what is laid for each of the six rows. -/
def plF (P : List Int) (k : Nat) (j : Nat) : Int := if j < k then P.getD j 0 else -1
/-- The cells of an array of six. -/
def pl6 (f : Nat → Int) : List Value := [.int .i64 (f 0), .int .i64 (f 1), .int .i64 (f 2), .int .i64 (f 3), .int .i64 (f 4), .int .i64 (f 5)]
abbrev pv6 (f : Nat → Int) : Value := .agg #[.int .i64 (f 0), .int .i64 (f 1), .int .i64 (f 2), .int .i64 (f 3), .int .i64 (f 4), .int .i64 (f 5)]
theorem pl6_get (f : Nat → Int) (i : Nat) (h : i < 6) : (pl6 f)[i]? = some (.int .i64 (f i)) := by
  have : i = 0 ∨ i = 1 ∨ i = 2 ∨ i = 3 ∨ i = 4 ∨ i = 5 := by omega
  rcases this with rfl | rfl | rfl | rfl | rfl | rfl <;> rfl
theorem pl6_set (f g : Nat → Int) (i : Nat) (h : i < 6) (x : Int) (hx : g i = x) (hg : ∀ k, k < 6 → k ≠ i → g k = f k) : (pl6 f).set i (.int .i64 x) = pl6 g := by
  have : i = 0 ∨ i = 1 ∨ i = 2 ∨ i = 3 ∨ i = 4 ∨ i = 5 := by omega
  subst hx
  rcases this with rfl | rfl | rfl | rfl | rfl | rfl <;> simp [pl6, hg]
theorem pl6_congr (f g : Nat → Int) (h : ∀ k, k < 6 → f k = g k) : pl6 f = pl6 g := by simp [pl6, h]
theorem Has.six {w : World} {b : Nat} {v0 v1 v2 v3 v4 v5 : Value} {t : TypeId} (h : Has w b [v0, v1, v2, v3, v4, v5] t) :
    w.cell? ⟨b, 0, none⟩ = some v0 ∧ w.cell? ⟨b, 1, none⟩ = some v1 ∧ w.cell? ⟨b, 2, none⟩ = some v2 ∧ w.cell? ⟨b, 3, none⟩ = some v3 ∧ w.cell? ⟨b, 4, none⟩ = some v4 ∧ w.cell? ⟨b, 5, none⟩ = some v5 ∧ ∀ o, w.frozen? ⟨b, o, none⟩ = false :=
  ⟨h.cell 0, h.cell 1, h.cell 2, h.cell 3, h.cell 4, h.cell 5, h.free⟩
theorem Reads.take {w : World} {a : Option Addr} {zs : List Int} (h : Reads w a zs.length zs) (k : Nat) (hk : k ≤ zs.length) : Reads w a k (zs.take k) := by
  refine ⟨by simp [hk], ?_⟩
  by_cases h0 : k = 0
  · exact .inl h0
  · obtain ⟨b, off, e, hb, hc⟩ := reads_row h (by omega)
    refine .inr ⟨b, off, e, hb, fun j hj => ?_⟩
    rw [hc j (by omega)]
    simp [List.getD, hj]

end Go.Proofs.Ytdimbnkgomfojab
end
