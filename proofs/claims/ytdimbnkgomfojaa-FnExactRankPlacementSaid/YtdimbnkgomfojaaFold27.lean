import Derived.Test.YtdimbnkgomfojaaFold5
import Derived.Test.YtdimbnkgomfojaaFold7
import Derived.Test.YtdimbnkgomfojaaFold4
import Derived.Deep.RegionHeld3
import Derived.Deep.RegionWith
import Derived.IntWalk
import Derived.Laws.EntriesVeiled

section
namespace Go.Proofs.Ytdimbnkgomfojaa
open Go.RowKit

/-- Not farther from 0 than b. -/
def Abs (b : Int) (x : Int) : Prop := -b ≤ x ∧ x ≤ b
theorem Abs.iff {b : Nat} {x : Int} : Abs b x ↔ x.natAbs ≤ b := by unfold Abs; omega
theorem Abs.mul {a b : Nat} {x y : Int} (hx : Abs a x) (hy : Abs b y) : Abs ((a * b : Nat) : Int) (x * y) := by
  rw [Abs.iff] at *
  rw [Int.natAbs_mul]
  exact Nat.mul_le_mul hx hy
theorem Abs.add {a b : Int} {x y : Int} (hx : Abs a x) (hy : Abs b y) : Abs (a + b) (x + y) := by unfold Abs at *; omega
theorem Abs.mono {a b : Int} {x : Int} (hx : Abs a x) (h : a ≤ b) : Abs b x := by unfold Abs at *; omega
theorem Abs.neg {a : Int} {x : Int} (hx : Abs a x) : Abs a (-x) := by unfold Abs at *; omega

theorem pow_abs (x : Int) (hx : Abs 20 x) (k : Nat) (hk : k ≤ 7) : Abs 1280000000 (x ^ k) := by
  have h1 : (x ^ k).natAbs ≤ 20 ^ k := by
    rw [Int.natAbs_pow]
    exact Nat.pow_le_pow_left (by unfold Abs at hx; omega) k
  have h2 : 20 ^ k ≤ 20 ^ 7 := Nat.pow_le_pow_right (by omega) hk
  unfold Abs
  omega

/-- The falling product. -/
def fal (x : Int) : Nat → Int
  | 0 => 1
  | k + 1 => fal x k * (x - k)
theorem fal_abs (x : Int) (hx : Abs 20 x) (k : Nat) (hk : k ≤ 6) : Abs ((26 ^ k : Nat) : Int) (fal x k) := by
  induction k with
  | zero => simp [fal, Abs]
  | succ k ih =>
    rw [fal, Nat.pow_succ]
    exact (ih (by omega)).mul (show Abs ((26 : Nat) : Int) (x - k) by unfold Abs at *; omega)
theorem fal_bd (x : Int) (hx : Abs 20 x) (k : Nat) (hk : k ≤ 6) : Abs 308915776 (fal x k) :=
  (fal_abs x hx k hk).mono (by
    have h2 : 26 ^ k ≤ 26 ^ 6 := Nat.pow_le_pow_right (by omega) hk
    omega)

/-- A sum of the first k terms. -/
def sumT (f : Nat → Int) : Nat → Int
  | 0 => 0
  | k + 1 => sumT f k + f k
theorem sumT_abs (f : Nat → Int) (b : Int) (n : Nat) (h : ∀ k, k < n → Abs b (f k)) : Abs (n * b) (sumT f n) := by
  induction n with
  | zero => simp [sumT, Abs]
  | succ n ih =>
    rw [sumT]
    refine ((ih (fun k hk => h k (by omega))).add (h n (by omega))).mono ?_
    rw [Int.natCast_succ, Int.add_mul, Int.one_mul]
    omega
theorem sumT_congr (f g : Nat → Int) (n : Nat) (h : ∀ k, k < n → f k = g k) : sumT f n = sumT g n := by
  induction n with
  | zero => rfl
  | succ n ih => rw [sumT, sumT, ih (fun k hk => h k (by omega)), h n (by omega)]

def polT (g : Nat → Nat) (x : Int) (k : Nat) : Int := (g k : Int) * x ^ k
theorem polT_abs (g : Nat → Nat) (x : Int) (hx : Abs 20 x) (k : Nat) (hk : k ≤ 7) (hg : g k ≤ 117649) : Abs 150590720000000 (polT g x k) :=
  ((show Abs ((117649 : Nat) : Int) (g k : Int) by unfold Abs; omega).mul (show Abs ((1280000000 : Nat) : Int) (x ^ k) from pow_abs x hx k hk)).mono (by decide)
def falT (g : Nat → Nat) (x : Int) (n k : Nat) : Int := (g k : Int) * fal x (n - k)
theorem falT_abs (g : Nat → Nat) (x : Int) (hx : Abs 20 x) (n k : Nat) (hn : n ≤ 6) (hg : g k ≤ 117649) : Abs 36343632130624 (falT g x n k) :=
  ((show Abs ((117649 : Nat) : Int) (g k : Int) by unfold Abs; omega).mul (show Abs ((308915776 : Nat) : Int) (fal x (n - k)) from fal_bd x hx _ (by omega))).mono (by decide)

/-- Choices of k of n things. -/
def chs : Nat → Nat → Nat
  | _, 0 => 1
  | 0, _ + 1 => 0
  | n + 1, k + 1 => chs n k + chs n (k + 1)
theorem chs_le (n k : Nat) (hn : n ≤ 6) (hk : k ≤ 6) : chs n k ≤ 20 := by
  have key : ∀ n : Fin 7, ∀ k : Fin 7, chs n k ≤ 20 := by decide +kernel
  exact key ⟨n, by omega⟩ ⟨k, by omega⟩
theorem chs_fal (n k : Nat) (hn : n ≤ 6) (hk : k ≤ n) : fal n k / fal k k = chs n k := by
  have key : ∀ n : Fin 7, ∀ k : Fin 7, (k : Nat) ≤ n → fal (n : Nat) (k : Nat) / fal (k : Nat) (k : Nat) = chs n k := by decide +kernel
  exact key ⟨n, by omega⟩ ⟨k, by omega⟩ hk
theorem chs_step (n k i : Nat) (hn : n ≤ 6) (hk : k ≤ n) (hi : i < k) : (chs (n - k + i) i : Int) * ((n : Int) - k + ((i : Int) + 1)) / ((i : Int) + 1) = chs (n - k + (i + 1)) (i + 1) := by
  have key : ∀ n : Fin 7, ∀ k : Fin 7, ∀ i : Fin 6, (k : Nat) ≤ n → (i : Nat) < k → (chs ((n : Nat) - k + i) i : Int) * (((n : Nat) : Int) - (k : Nat) + (((i : Nat) : Int) + 1)) / (((i : Nat) : Int) + 1) = chs ((n : Nat) - k + (i + 1)) (i + 1) := by decide +kernel
  exact key ⟨n, by omega⟩ ⟨k, by omega⟩ ⟨i, by omega⟩ hk hi
def fct (k : Nat) : Int := fal k k
theorem fct_bd (k : Nat) (hk : k ≤ 6) : 1 ≤ fct k ∧ fct k ≤ 720 := by
  have key : ∀ k : Fin 7, 1 ≤ fct k ∧ fct k ≤ 720 := by decide +kernel
  exact key ⟨k, by omega⟩

/-- One term of the alternating sum, without its sign. -/
def cmpT (g : Nat → Nat) (n k j : Nat) : Int := (g j : Int) * chs (n - j) (k - j) * chs (n - j) (k - j) * fct (k - j)
theorem cmpT_abs (g : Nat → Nat) (n k j : Nat) (hn : n ≤ 6) (hk : k ≤ n) (hg : g j ≤ 117649) : Abs 33882912000 (cmpT g n k j) := by
  have h1 := chs_le (n - j) (k - j) (by omega) (by omega)
  have h2 := fct_bd (k - j) (by omega)
  have hc : Abs ((20 : Nat) : Int) (chs (n - j) (k - j) : Int) := by unfold Abs; omega
  exact ((((show Abs ((117649 : Nat) : Int) (g j : Int) by unfold Abs; omega).mul hc).mul hc).mul (show Abs ((720 : Nat) : Int) (fct (k - j)) by unfold Abs; omega)).mono (by decide)
def sgn (j : Nat) : Int := if j % 2 = 1 then -1 else 1
def cmpS (g : Nat → Nat) (n k j : Nat) : Int := sgn j * cmpT g n k j
theorem cmpS_abs (g : Nat → Nat) (n k j : Nat) (hn : n ≤ 6) (hk : k ≤ n) (hg : g j ≤ 117649) : Abs 33882912000 (cmpS g n k j) := by
  have := cmpT_abs g n k j hn hk hg
  unfold cmpS sgn
  split
  · rw [Int.neg_one_mul]; exact this.neg
  · rw [Int.one_mul]; exact this
theorem sgn_succ (j : Nat) : sgn (j + 1) = - sgn j := by
  unfold sgn
  by_cases h : j % 2 = 1
  · rw [if_pos h, if_neg (by omega)]; rfl
  · rw [if_neg h, if_pos (by omega)]

end Go.Proofs.Ytdimbnkgomfojaa
end

section
namespace Go.Proofs.Ytdimbnkgomfojaa
open Go.RowKit Go.WideShapes

theorem Has.two {w : World} {b : Nat} {v0 v1 : Value} {t : TypeId} (h : Has w b [v0, v1] t) :
    w.cell? ⟨b, 0, none⟩ = some v0 ∧ w.cell? ⟨b, 1, none⟩ = some v1 ∧ ∀ o, w.frozen? ⟨b, o, none⟩ = false :=
  ⟨h.cell 0, h.cell 1, h.free⟩
/-- The block of a sum. -/
abbrev sumV (F : FuncId) (cap : Array Value) (t : Int) : List Value := [.func (.func F) #[] cap, .int .i64 t]

set_option maxRecDepth 100000 in
set_option maxHeartbeats 3200000 in
theorem add_any (b : Nat) (F : FuncId) (cap : Array Value) (t x v : Int) (w : World)
    (hcall : ∀ (args : Array Value) (w : World), (callFunc F args).run Try.prog w = .ok (.enter F args) w)
    (H : Has w b (sumV F cap t) 106)
    (hF : ∀ w', Below w.heap.size w w' → Calls Try.prog F (#[.int .i64 x] ++ cap) w' fun e w'' => e = .returned (.int .i64 v) ∧ Below w'.heap.size w' w'')
    (hs : IntKind.i64.wrap (t + v) = t + v) :
    Calls Try.prog 132 #[.pointer (some ⟨b, 0, none⟩), .int .i64 x] w fun e w' => e = .returned (.bool true) ∧ Chg (fun k => k = b) w w' ∧ Has w' b (sumV F cap (t + v)) 106 := by
  have hlt := H.lt
  obtain ⟨e0, e1, ef⟩ := (show Has w.drew b (sumV F cap t) 106 from H.drew).two
  have HF := Lib.hid hF
  have HH := Lib.hid H
  clear H hF
  go_enter Try.func132, Try.ntmps132
  go_wp2_with fail
  go_region_with (((refine (HF.out _ (Below.refl _ _).drew).mono ?_); rintro e w1 ⟨rfl, hb⟩; have m0 := cell_later hb e0; have m1 := cell_later hb e1; have mf := (hb.frozen (p := ⟨b, 1, none⟩) hlt).trans (ef 1); have HB := Lib.hid hb; clear hb))
  all_goals
    have HN := Lib.hid (((HH.out.drew).kept HB.out hlt).set 1 (.int .i64 (t + v)))
    have HCg := Lib.hid (show Chg (fun k => k = b) w (w1.setCell ⟨b, 1, none⟩ (.int .i64 (t + v))) from ((Chg.of_below (Below.refl _ _).drew).trans (Chg.of_below HB.out)).trans ⟨rfl, rfl, rfl, by simp [World.setCell], fun k _ hf => Below.heap_setCell w1 ⟨b, 1, none⟩ _ k hf⟩)
    go_wp2_with fail
    go_ret
    exact ⟨rfl, HCg.out, HN.out⟩

set_option maxRecDepth 100000 in
set_option maxHeartbeats 1600000 in
theorem addAll_any (b : Nat) (F : FuncId) (cap : Array Value) (f : Nat → Int) (a : Option Addr) (p : Nat) (xs : List Int) (w : World) (hx : xs.length ≤ 1048576) (hr : Reads w a xs.length xs) (hab : ∀ g, 0 < xs.length → a = some g → g.block ≠ b)
    (hcall : ∀ (args : Array Value) (w : World), (callFunc F args).run Try.prog w = .ok (.enter F args) w)
    (H : Has w b (sumV F cap 0) 106)
    (hF : ∀ j, j < xs.length → ∀ w', Chg (fun k => k = b) w w' → Calls Try.prog F (#[.int .i64 (xs.getD j 0)] ++ cap) w' fun e w'' => e = .returned (.int .i64 (f j)) ∧ Below w'.heap.size w' w'')
    (hs : ∀ j, j < xs.length → IntKind.i64.wrap (sumT f j + f j) = sumT f j + f j) :
    Calls Try.prog 111 #[.pointer (some ⟨b, 0, none⟩), .slice a xs.length p] w fun e w' => e = .returned (.tuple #[]) ∧ Chg (fun k => k = b) w w' ∧ Has w' b (sumV F cap (sumT f xs.length)) 106 := by
  have HS := Lib.hid (And.intro (Chg.refl (fun k => k = b) w) H)
  have HF := Lib.hid hF
  have HW := Lib.hid hs
  have HR := Lib.hid hr
  clear H hF hs hr
  go_enter Try.func111, Try.ntmps111
  go_wp2_with fail
  go_loopw [8] (fun v wr => ∃ j : Nat, j ≤ xs.length ∧ v = .int .i64 j ∧ Hid (Chg (fun k => k = b) w wr ∧ Has wr b (sumV F cap (sumT f j)) 106)) (fun v _ => xs.length - (intOf v).toNat)
  case atStart => exact ⟨0, Nat.zero_le _, rfl, HS⟩
  case round =>
    clear HS
    obtain ⟨j, hj, rfl, HS⟩ := hrel
    by_cases hlt : j < xs.length
    · obtain ⟨b1, o1, rfl, hb1, hc1⟩ := reads_row HR.out (by omega)
      have hcj : wr.cell? ⟨b1, o1 + j, none⟩ = some (.int .i64 (xs.getD j 0)) := (cell_of_block (HS.out.1.block b1 hb1 (hab _ (by omega) rfl))).trans (hc1 j hlt)
      have HA := Lib.hid (add_any b F cap (sumT f j) (xs.getD j 0) (f j) wr hcall HS.out.2 (fun w' hb => HF.out j hlt w' (HS.out.1.trans (Chg.of_below hb))) (HW.out j hlt))
      clear hc1 hb1
      generalize xs.getD j 0 = x at *
      go_wp2_with fail
      refine HA.out.mono ?_
      rintro e w2 ⟨rfl, hc, hh⟩
      have HS2 : Hid (Chg (fun k => k = b) w w2 ∧ Has w2 b (sumV F cap (sumT f (j + 1))) 106) := Lib.hid ⟨HS.out.1.trans hc, hh⟩
      clear hc hh HA hcj HS
      go_wp2_with fail
      go_roundw
      case rel => exact ⟨j + 1, by omega, by go_num, HS2⟩
      case measure => simp [intOf]; omega
    · obtain rfl : j = xs.length := by omega
      go_wp2_with fail
      go_end0
      exact ⟨rfl, HS.out⟩

set_option maxRecDepth 100000 in
set_option maxHeartbeats 1600000 in
theorem sumOfTerms_any (n : Nat) (F : FuncId) (cap : Array Value) (f : Nat → Int) (w : World) (hn : n ≤ 1048576)
    (hcall : ∀ (args : Array Value) (w : World), (callFunc F args).run Try.prog w = .ok (.enter F args) w)
    (hF : ∀ j, j < n → ∀ w', Below w.heap.size w w' → Calls Try.prog F (#[.int .i64 j] ++ cap) w' fun e w'' => e = .returned (.int .i64 (f j)) ∧ Below w'.heap.size w' w'')
    (hs : ∀ j, j < n → IntKind.i64.wrap (sumT f j + f j) = sumT f j + f j) :
    Calls Try.prog 141 #[.int .i64 n, .func (.func F) #[] cap] w fun e w' => e = .returned (.int .i64 (sumT f n)) ∧ Below w.heap.size w w' := by
  have L0 := (Law.start w).has (sumV F cap 0) 106
  have HL := Lib.hid L0
  have HF := Lib.hid hF
  have HW := Lib.hid hs
  clear L0 hF hs
  go_enter Try.func141, Try.ntmps141
  go_wp2_with fail
  go_loopw [6] (fun v wr => ∃ j : Nat, j ≤ n ∧ v = .int .i64 j ∧ Law w [tHas w.heap.size (sumV F cap (sumT f j)) 106] wr) (fun v _ => n - (intOf v).toNat)
  case atStart => exact ⟨0, Nat.zero_le _, rfl, HL.out⟩
  case round =>
    clear HL
    obtain ⟨j, hj, rfl, L⟩ := hrel
    by_cases hlt : j < n
    · have HA := Lib.hid (add_any w.heap.size F cap (sumT f j) j (f j) wr hcall L.ownHas (fun w' hb => HF.out j hlt w' (below_on L.below hb)) (HW.out j hlt))
      have HL := Lib.hid L
      clear L
      go_wp2_with fail
      refine HA.out.mono ?_
      rintro e w2 ⟨rfl, hc, hh⟩
      have HS := Lib.hid (Law.write (ts := []) (t := tHas w.heap.size (sumV F cap (sumT f j)) 106) HL.out hc (tHas w.heap.size (sumV F cap (sumT f (j + 1))) 106) rfl hh)
      clear hc hh HA HL
      go_wp2_with fail
      go_roundw
      case rel => exact ⟨j + 1, by omega, by go_num, HS.out⟩
      case measure => simp [intOf]; omega
    · obtain rfl : j = n := by omega
      obtain ⟨e0, e1, _⟩ := L.ownHas.two
      have HB := Lib.hid L.below
      clear L
      go_wp2_with fail
      go_ret
      exact ⟨rfl, HB.out⟩

/-- Numbers that are not -1. -/
def one1 (xs : List Int) (j : Nat) : Int := if xs.getD j 0 = -1 then 0 else 1
theorem one1_bd (xs : List Int) (n : Nat) : 0 ≤ sumT (one1 xs) n ∧ sumT (one1 xs) n ≤ n := by
  induction n with
  | zero => simp [sumT]
  | succ n ih =>
    rw [sumT]
    unfold one1 at *
    split <;> omega
theorem one1_cnt (xs : List Int) (h : ∀ j, -1 ≤ xs.getD j 0) (k : Nat) (hk : k ≤ xs.length) : sumT (one1 xs) k = rcnt (xs.take k) := by
  induction k with
  | zero => simp [sumT, rcnt]
  | succ k ih =>
    rw [sumT, ih (by omega), rcnt_succ xs k (by omega)]
    have := h k
    unfold one1
    by_cases e : xs.getD k 0 = -1
    · rw [if_pos e, if_neg (by omega)]; simp
    · rw [if_neg e, if_pos (by omega)]; simp
theorem count1_any (x : Int) (w : World) : Calls Try.prog 110 #[.int .i64 x] w fun e w' => e = .returned (.int .i64 (if x = -1 then 0 else 1)) ∧ Below w.heap.size w w' := by
  by_cases h : x = -1
  · rw [if_pos h]
    subst h
    go_enter Try.func110, Try.ntmps110
    go_wp2
    all_goals go_ret
    all_goals exact ⟨rfl, Below.refl _ _⟩
  · rw [if_neg h]
    have h' : (x == -1) = false := by rw [beq_eq_false_iff_ne]; exact h
    go_enter Try.func110, Try.ntmps110
    go_wp2
    all_goals go_ret
    all_goals exact ⟨rfl, Below.refl _ _⟩
set_option maxRecDepth 100000 in
set_option maxHeartbeats 1600000 in
theorem countRooks_any (a : Option Addr) (p : Nat) (xs : List Int) (w : World) (hx : xs.length ≤ 1048576) (hr : Reads w a xs.length xs) :
    Calls Try.prog 69 #[.slice a xs.length p] w fun e w' => e = .returned (.int .i64 (sumT (one1 xs) xs.length)) ∧ Below w.heap.size w w' := by
  have L0 := (Law.start w).has (sumV 110 #[] 0) 106
  have hab : ∀ g, 0 < xs.length → a = some g → g.block ≠ w.heap.size := by
    intro g h0 hg
    obtain ⟨b1, o1, e, hb1, _⟩ := reads_row hr h0
    rw [hg] at e
    injection e with e
    subst e
    simp
    omega
  have HA := Lib.hid (addAll_any w.heap.size 110 #[] (one1 xs) a p xs _ hx (hr.kept L0.below) hab (fun _ _ => by kernel_rfl) L0.ownHas (fun j _ w' _ => count1_any _ w') (fun j hj => by
    have h1 := one1_bd xs (j + 1)
    rw [sumT] at h1
    exact IntWalk.i64_in _ (by omega)))
  have HL := Lib.hid L0
  clear L0 hr hab
  go_enter Try.func69, Try.ntmps69
  go_wp2_with fail
  refine HA.out.mono ?_
  rintro e w2 ⟨rfl, hc, hh⟩
  obtain ⟨e0, e1, _⟩ := hh.two
  have HB := Lib.hid (Law.write (ts := []) (t := tHas w.heap.size (sumV 110 #[] 0) 106) HL.out hc (tHas w.heap.size (sumV 110 #[] (sumT (one1 xs) xs.length)) 106) rfl hh).below
  clear hc hh HA HL
  go_wp2_with fail
  go_ret
  exact ⟨rfl, HB.out⟩
end Go.Proofs.Ytdimbnkgomfojaa
end

section
namespace Go.Proofs.Ytdimbnkgomfojaa
open Go.RowKit Go.WideShapes

def rooksB (xs : List Int) : R1 := if decide (xs.length ≤ 6) && within (-1) 5 xs then ⟨rcnt xs, true⟩ else ⟨0, false⟩

set_option maxHeartbeats 800000 in
theorem roCount_any (a : Option Addr) (p : Nat) (xs : List Int) (w : World) (hx : xs.length ≤ 1048576) (hr : Reads w a xs.length xs) :
    Calls Try.prog 66 #[.slice a xs.length p] w fun e w' => e = .returned (.int .i64 (rcnt xs)) ∧ w = w' := by
  go_enter Try.func66, Try.ntmps66
  go_wp2_with fail
  go_loop [3, 8] (fun t i => ∃ k : Nat, k ≤ xs.length ∧ i = .int .i64 k ∧ t = .int .i64 (rcnt (xs.take k) : Nat)) (fun _ i => xs.length - (intOf i).toNat)
  case atStart => exact ⟨0, Nat.zero_le _, rfl, by simp [rcnt]⟩
  case round =>
    obtain ⟨k, hk, rfl, rfl⟩ := hrel
    by_cases hlt : k < xs.length
    · obtain ⟨b, off, rfl, hb, hc⟩ := reads_row hr (by omega)
      have hck := hc k hlt
      have hs := rcnt_succ xs k hlt
      have hl := rcnt_le (xs.take k)
      have hl2 : (xs.take k).length ≤ k := by simp; omega
      generalize xs.getD k 0 = x at *
      generalize rcnt (xs.take k) = y at *
      have hy : y ≤ 1048576 := by omega
      have HS := Lib.hid hs
      by_cases h0 : 0 ≤ x
      · clear hs hl hl2 hc
        go_wp2_with fail
        go_round
        case rel => exact ⟨k + 1, by omega, by go_num, by rw [HS.out, if_pos h0]; go_num⟩
        case measure => simp [intOf]; omega
      · have h1 : x < 0 := by omega
        clear hs hl hl2 hc
        go_wp2_with fail
        go_round
        case rel => exact ⟨k + 1, by omega, by go_num, by rw [HS.out, if_neg h0]; rfl⟩
        case measure => simp [intOf]; omega
    · obtain rfl : k = xs.length := by omega
      go_wp2_with fail
      go_ret
      exact ⟨ret_int (by first | rfl | rw [List.take_length]), rfl⟩


end Go.Proofs.Ytdimbnkgomfojaa
end
