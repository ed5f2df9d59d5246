import Derived.Test.YtaipcmplpjkebaaFold25
import Derived.Test.YtaipcmplpjkebaaFold0
import Derived.Test.YtaipcmplpjkebaaFold26
import Derived.Test.YtaipcmplpjkebaaFold6
import Derived.Laws.OwnMore
namespace Go.Proofs.Ytaipcmplpjkebaa
open Go.RowKit Go.WideShapes Go.ChangeShapes Go.ChangeAt Go.Joins

set_option maxRecDepth 100000 in
set_option maxHeartbeats 1600000 in
theorem kSame_same (a a' : Option Addr) (n p p' : Nat) (zs : List Int) (w : World) (hn : n ≤ 1048576) (h1 : Reads w a n zs) (h2 : Reads w a' n zs) :
    Calls Try.prog 18 #[.slice a n p, .slice a' n p'] w fun e w' => e = .returned (.bool true) ∧ Below w.heap.size w w' := by
  have H1 := Lib.hid h1
  have H2 := Lib.hid h2
  have HL := Lib.hid (Law.start w)
  clear h1 h2
  go_enter Try.func18, Try.ntmps18
  go_wp2_with fail
  go_loopw [13] (fun i wr => ∃ k : Nat, k ≤ n ∧ i = .int .i64 k ∧ Law w [] wr) (fun i _ => n - (intOf i).toNat)
  case atStart => exact ⟨0, Nat.zero_le _, rfl, HL.out⟩
  case round =>
    clear HL
    obtain ⟨k, hk, rfl, L⟩ := hrel
    have HL := Lib.hid L
    by_cases hlt : k < n
    · obtain ⟨b, off, rfl, _, hc⟩ := reads_row (L.reads H1.out) (by omega)
      obtain ⟨b', off', rfl, _, hc'⟩ := reads_row (L.reads H2.out) (by omega)
      have hx := hc k hlt
      have hy := hc' k hlt
      have hk0 : (0 : Int) ≤ k := by omega
      have hkn : (k : Int) < n := by omega
      generalize zs.getD k 0 = x at *
      have hd : (x != x) = false := by simp
      clear hc hc' L
      go_wp2_with fail
      go_quiet (fail)
      go_wp2_with fail
      go_roundw
      case rel => exact ⟨k + 1, by omega, by go_num, HL.out.kept (below_drewN (Below.refl _ _) _)⟩
      case measure => simp [intOf]; omega
    · obtain rfl : k = n := by omega
      have hkn : ¬ (k : Int) < k := by omega
      clear L
      go_wp2_with fail
      go_ret
      exact ⟨rfl, HL.out.below⟩

set_option maxRecDepth 100000 in
set_option maxHeartbeats 1600000 in
theorem kBoard_same (r c : Int) (a a' : Option Addr) (n p p' : Nat) (zs : List Int) (w : World) (hn : n ≤ 1048576) (h1 : Reads w a n zs) (h2 : Reads w a' n zs) :
    Calls Try.prog 14 #[.agg #[.int .i64 r, .int .i64 c, .slice a n p], .agg #[.int .i64 r, .int .i64 c, .slice a' n p']] w fun e w' => e = .returned (.bool true) ∧ Below w.heap.size w w' := by
  have L0 := ((Law.start w).box (.int .i64 r) (.int .i64 c) (.slice a n p) 27).box (.int .i64 r) (.int .i64 c) (.slice a' n p') 27
  simp only [World.size_alloc] at L0
  have HK := Lib.hid (fun W (h1 : Reads W a n zs) (h2 : Reads W a' n zs) => kSame_same a a' n p p' zs W hn h1 h2)
  have HL := Lib.hid L0
  have ⟨_, k0, k1, k2, _⟩ := L0.ownBox
  have ⟨_, m0, m1, m2, _⟩ := L0.tl.ownBox
  have h1 := L0.reads h1
  have h2 := L0.reads h2
  clear L0
  have hr : (r == r) = true := by simp
  have hc : (c == c) = true := by simp
  go_enter Try.func14, Try.ntmps14
  go_wp2_with fail
  refine (HK.out _ h1 h2).mono ?_
  rintro e w1 ⟨rfl, hb⟩
  have HB := Lib.hid (HL.out.kept hb).below
  clear hb k0 k1 k2 m0 m1 m2 h1 h2
  go_wp2_with fail
  go_ret
  exact ⟨rfl, HB.out⟩

/-- A sum, as it is reckoned. -/
def ksm (zs : List Int) : Nat → Int
  | 0 => 0
  | k + 1 => wrap64 (ksm zs k + zs.getD k 0)
set_option maxRecDepth 100000 in
set_option maxHeartbeats 1600000 in
theorem kSum_any (a : Option Addr) (n p : Nat) (zs : List Int) (w : World) (hn : n ≤ 1048576) (h1 : Reads w a n zs) :
    Calls Try.prog 29 #[.slice a n p] w fun e w' => e = .returned (.int .i64 (ksm zs n)) ∧ w' = w := by
  go_enter Try.func29, Try.ntmps29
  go_wp2_with fail
  go_loop [3, 8] (fun v i => ∃ k : Nat, k ≤ n ∧ i = .int .i64 k ∧ v = .int .i64 (ksm zs k)) (fun _ i => n - (intOf i).toNat)
  case atStart => exact ⟨0, Nat.zero_le _, rfl, rfl⟩
  case round =>
    obtain ⟨k, hk, rfl, rfl⟩ := hrel
    by_cases hlt : k < n
    · obtain ⟨b, off, rfl, _, hc⟩ := reads_row h1 (by omega)
      have hx := hc k hlt
      have hk0 : (0 : Int) ≤ k := by omega
      have hkn : (k : Int) < n := by omega
      have HN := Lib.hid (show ksm zs (k + 1) = wrap64 (ksm zs k + zs.getD k 0) from rfl)
      generalize zs.getD k 0 = x at *
      generalize ksm zs k = y at *
      clear hc
      go_wp2_with fail
      go_round
      case rel => exact ⟨k + 1, by omega, by go_num, by rw [HN.out]⟩
      case measure => simp [intOf]; omega
    · obtain rfl : k = n := by omega
      have hkn : ¬ (k : Int) < k := by omega
      go_wp2_with fail
      go_ret
      exact ⟨rfl, rfl⟩

set_option maxRecDepth 100000 in
set_option maxHeartbeats 1600000 in
theorem kFact_any (n : Nat) (w : World) (hn : n ≤ 12) : Calls Try.prog 30 #[.int .i64 n] w fun e w' => e = .returned (.int .i64 (fct n)) ∧ w' = w := by
  have hend : ∀ j, j ≤ n → n - j ≤ 1 → fal (n : Int) j = fct n := by
    have key : ∀ n : Fin 13, ∀ j : Fin 13, (j : Nat) ≤ n → (n : Nat) - j ≤ 1 → fal ((n : Nat) : Int) j = fct n := by decide +kernel
    exact fun j hj h => key ⟨n, by omega⟩ ⟨j, by omega⟩ hj h
  have HE := Lib.hid hend
  have HW := Lib.hid (fun j (hj : j ≤ 11) => falG_wrap (n : Int) (by unfold Abs; omega) j hj)
  clear hend
  go_enter Try.func30, Try.ntmps30
  go_wp2_with fail
  go_loop [0, 3] (fun i v => ∃ j : Nat, j ≤ n ∧ i = .int .i64 ((n : Int) - j) ∧ v = .int .i64 (fal (n : Int) j)) (fun i _ => (intOf i).toNat)
  case atStart => exact ⟨0, Nat.zero_le _, by simp, rfl⟩
  case round =>
    obtain ⟨j, hj, rfl, rfl⟩ := hrel
    by_cases hlt : 1 < n - j
    · have hw := HW.out j (by omega)
      have h1 : (1 : Int) < (n : Int) - j := by omega
      have h2 : IntKind.i64.wrap ((n : Int) - j - 1) = (n : Int) - j - 1 := IntWalk.i64_in _ (by omega)
      have HWW := Lib.hid hw
      clear hw
      go_wp2_with fail
      go_round
      case rel => exact ⟨j + 1, by omega, by go_num, by rw [← HWW.out]⟩
      case measure => simp [intOf]; omega
    · have h1 : ¬ (1 : Int) < (n : Int) - j := by omega
      have HEE := Lib.hid (HE.out j hj (by omega))
      go_wp2_with fail
      go_ret
      exact ⟨by first | exact ret_int HEE.out | rw [HEE.out], rfl⟩

/-- What a call answers that draws a number. -/
def AnsD (w : World) (e : Ending) (w' : World) : Prop := ∃ x : Int, e = .returned (.int .i64 x) ∧ Below w.heap.size w w'
def AnsDD (w : World) (e : Ending) (w' : World) : Prop := ∃ x y : Int, e = .returned (.tuple #[.int .i64 x, .int .i64 y]) ∧ Below w.heap.size w w'
theorem ReadsY.fresh {w : World} {a : Option Addr} {n : Nat} (h : ReadsY w a n) : ∀ b off, 0 < n → a = some ⟨b, off, none⟩ → b < w.heap.size := by
  intro b off h0 e
  rcases h with h | ⟨b', off', e', hlt, _⟩
  · omega
  · rw [e] at e'
    injection e' with e'
    injection e' with e'
    omega
theorem below_of_chg {w0 w w' : World} {bc : Nat} (h : Below w0.heap.size w0 w) (hc : Chg (fun k => k = bc) w w') (hb : w0.heap.size ≤ bc) : Below w0.heap.size w0 w' :=
  ⟨hc.os.trans h.os, hc.tape.trans h.tape, hc.output.trans h.output, Nat.le_trans h.size hc.size, fun k hk => (hc.block k (Nat.lt_of_lt_of_le hk h.size) (by omega)).trans (h.block k hk)⟩

set_option maxRecDepth 100000 in
set_option maxHeartbeats 3200000 in
theorem drawDrawDiagonalBoard_any (a : Option Addr) (n p : Nat) (w : World) (hn : n ≤ 4611686018427387904) (hr : ReadsY w a n) : Calls Try.prog 7 #[.slice a n p] w (AnsD w) := by
  have L0 := (Law.start w).has [.slice a n p, .int .i64 0, .int .u64 0] 57
  rw [show w.alloc (.cells ([.slice a n p, .int .i64 0, .int .u64 0] : List Value).toArray 57) = w.alloc (.cells #[.slice a n p, .int .i64 0, .int .u64 0] 57) from rfl] at L0
  have L1 := L0.own (below_new _) (own_of_has (lo := (w.alloc (.cells #[.slice a n p, .int .i64 0, .int .u64 0] 57)).heap.size) (xs := [1, 2, 3, 4, 5, 6, 7, 0, -1]) (Has.new (w.alloc (.cells #[.slice a n p, .int .i64 0, .int .u64 0] 57)) [.int .i64 1, .int .i64 2, .int .i64 3, .int .i64 4, .int .i64 5, .int .i64 6, .int .i64 7, .int .i64 0, .int .i64 (-1)] 3) (Nat.le_refl _) rfl (by show 9 ≤ maxLen; unfold maxLen; omega))
  rw [show (w.alloc (.cells #[.slice a n p, .int .i64 0, .int .u64 0] 57)).alloc (.cells ([.int .i64 1, .int .i64 2, .int .i64 3, .int .i64 4, .int .i64 5, .int .i64 6, .int .i64 7, .int .i64 0, .int .i64 (-1)] : List Value).toArray 3) = (w.alloc (.cells #[.slice a n p, .int .i64 0, .int .u64 0] 57)).alloc (.cells #[.int .i64 1, .int .i64 2, .int .i64 3, .int .i64 4, .int .i64 5, .int .i64 6, .int .i64 7, .int .i64 0, .int .i64 (-1)] 3) from rfl] at L1
  simp only [World.size_alloc] at L1
  have HL := Lib.hid L1
  have HR := Lib.hid hr
  clear L0 L1 hr
  go_enter Try.func7, Try.ntmps7
  go_wp2_with fail
  generalize (w.alloc (.cells #[.slice a n p, .int .i64 0, .int .u64 0] 57)).alloc (.cells #[.int .i64 1, .int .i64 2, .int .i64 3, .int .i64 4, .int .i64 5, .int .i64 6, .int .i64 7, .int .i64 0, .int .i64 (-1)] 3) = w5 at *
  have hz : Reads w5 (some ⟨w.heap.size + 1, 0, none⟩) 9 [1, 2, 3, 4, 5, 6, 7, 0, -1] := by
    obtain ⟨a', q, e, h⟩ := HL.out.ownInts.reads
    cases e
    exact h
  have hcu : Cur w5 w.heap.size a n p 0 := ⟨0, 0, HL.out.tl.ownHas, Nat.le_refl _, by decide, by decide⟩
  refine (among_dr w.heap.size a n p 0 (w.heap.size + 1) 9 9 [1, 2, 3, 4, 5, 6, 7, 0, -1] w5 (by omega) (by omega) hz hn (by omega) (fun b off h0 e => by have := HR.out.fresh b off h0 e; omega) (HR.out.kept HL.out.below) hcu).mono ?_
  rintro e w6 ⟨k, _, rfl, hch, _⟩
  have HB := Lib.hid (below_of_chg HL.out.below hch (Nat.le_refl _))
  clear hch
  go_wp2_with fail
  go_ret
  exact ⟨_, rfl, HB.out⟩

set_option maxRecDepth 100000 in
set_option maxHeartbeats 3200000 in
theorem drawDrawDerangements_any (a : Option Addr) (n p : Nat) (w : World) (hn : n ≤ 4611686018427387904) (hr : ReadsY w a n) : Calls Try.prog 21 #[.slice a n p] w (AnsD w) := by
  have L0 := (Law.start w).has [.slice a n p, .int .i64 0, .int .u64 0] 57
  rw [show w.alloc (.cells ([.slice a n p, .int .i64 0, .int .u64 0] : List Value).toArray 57) = w.alloc (.cells #[.slice a n p, .int .i64 0, .int .u64 0] 57) from rfl] at L0
  have L1 := L0.own (below_new _) (own_of_has (lo := (w.alloc (.cells #[.slice a n p, .int .i64 0, .int .u64 0] 57)).heap.size) (xs := [0, 1, 2, 3, 5, 8, 12, 13, -1]) (Has.new (w.alloc (.cells #[.slice a n p, .int .i64 0, .int .u64 0] 57)) [.int .i64 0, .int .i64 1, .int .i64 2, .int .i64 3, .int .i64 5, .int .i64 8, .int .i64 12, .int .i64 13, .int .i64 (-1)] 3) (Nat.le_refl _) rfl (by show 9 ≤ maxLen; unfold maxLen; omega))
  rw [show (w.alloc (.cells #[.slice a n p, .int .i64 0, .int .u64 0] 57)).alloc (.cells ([.int .i64 0, .int .i64 1, .int .i64 2, .int .i64 3, .int .i64 5, .int .i64 8, .int .i64 12, .int .i64 13, .int .i64 (-1)] : List Value).toArray 3) = (w.alloc (.cells #[.slice a n p, .int .i64 0, .int .u64 0] 57)).alloc (.cells #[.int .i64 0, .int .i64 1, .int .i64 2, .int .i64 3, .int .i64 5, .int .i64 8, .int .i64 12, .int .i64 13, .int .i64 (-1)] 3) from rfl] at L1
  simp only [World.size_alloc] at L1
  have HL := Lib.hid L1
  have HR := Lib.hid hr
  clear L0 L1 hr
  go_enter Try.func21, Try.ntmps21
  go_wp2_with fail
  generalize (w.alloc (.cells #[.slice a n p, .int .i64 0, .int .u64 0] 57)).alloc (.cells #[.int .i64 0, .int .i64 1, .int .i64 2, .int .i64 3, .int .i64 5, .int .i64 8, .int .i64 12, .int .i64 13, .int .i64 (-1)] 3) = w5 at *
  have hz : Reads w5 (some ⟨w.heap.size + 1, 0, none⟩) 9 [0, 1, 2, 3, 5, 8, 12, 13, -1] := by
    obtain ⟨a', q, e, h⟩ := HL.out.ownInts.reads
    cases e
    exact h
  have hcu : Cur w5 w.heap.size a n p 0 := ⟨0, 0, HL.out.tl.ownHas, Nat.le_refl _, by decide, by decide⟩
  refine (among_dr w.heap.size a n p 0 (w.heap.size + 1) 9 9 [0, 1, 2, 3, 5, 8, 12, 13, -1] w5 (by omega) (by omega) hz hn (by omega) (fun b off h0 e => by have := HR.out.fresh b off h0 e; omega) (HR.out.kept HL.out.below) hcu).mono ?_
  rintro e w6 ⟨k, _, rfl, hch, _⟩
  have HB := Lib.hid (below_of_chg HL.out.below hch (Nat.le_refl _))
  clear hch
  go_wp2_with fail
  go_ret
  exact ⟨_, rfl, HB.out⟩

set_option maxRecDepth 100000 in
set_option maxHeartbeats 3200000 in
theorem drawDrawCountCouples_any (a : Option Addr) (n p : Nat) (w : World) (hn : n ≤ 4611686018427387904) (hr : ReadsY w a n) : Calls Try.prog 23 #[.slice a n p] w (AnsD w) := by
  have L0 := (Law.start w).has [.slice a n p, .int .i64 0, .int .u64 0] 57
  rw [show w.alloc (.cells ([.slice a n p, .int .i64 0, .int .u64 0] : List Value).toArray 57) = w.alloc (.cells #[.slice a n p, .int .i64 0, .int .u64 0] 57) from rfl] at L0
  have L1 := L0.own (below_new _) (own_of_has (lo := (w.alloc (.cells #[.slice a n p, .int .i64 0, .int .u64 0] 57)).heap.size) (xs := [2, 3, 4, 5, 6, 10, 11, 1, 0]) (Has.new (w.alloc (.cells #[.slice a n p, .int .i64 0, .int .u64 0] 57)) [.int .i64 2, .int .i64 3, .int .i64 4, .int .i64 5, .int .i64 6, .int .i64 10, .int .i64 11, .int .i64 1, .int .i64 0] 3) (Nat.le_refl _) rfl (by show 9 ≤ maxLen; unfold maxLen; omega))
  rw [show (w.alloc (.cells #[.slice a n p, .int .i64 0, .int .u64 0] 57)).alloc (.cells ([.int .i64 2, .int .i64 3, .int .i64 4, .int .i64 5, .int .i64 6, .int .i64 10, .int .i64 11, .int .i64 1, .int .i64 0] : List Value).toArray 3) = (w.alloc (.cells #[.slice a n p, .int .i64 0, .int .u64 0] 57)).alloc (.cells #[.int .i64 2, .int .i64 3, .int .i64 4, .int .i64 5, .int .i64 6, .int .i64 10, .int .i64 11, .int .i64 1, .int .i64 0] 3) from rfl] at L1
  simp only [World.size_alloc] at L1
  have HL := Lib.hid L1
  have HR := Lib.hid hr
  clear L0 L1 hr
  go_enter Try.func23, Try.ntmps23
  go_wp2_with fail
  generalize (w.alloc (.cells #[.slice a n p, .int .i64 0, .int .u64 0] 57)).alloc (.cells #[.int .i64 2, .int .i64 3, .int .i64 4, .int .i64 5, .int .i64 6, .int .i64 10, .int .i64 11, .int .i64 1, .int .i64 0] 3) = w5 at *
  have hz : Reads w5 (some ⟨w.heap.size + 1, 0, none⟩) 9 [2, 3, 4, 5, 6, 10, 11, 1, 0] := by
    obtain ⟨a', q, e, h⟩ := HL.out.ownInts.reads
    cases e
    exact h
  have hcu : Cur w5 w.heap.size a n p 0 := ⟨0, 0, HL.out.tl.ownHas, Nat.le_refl _, by decide, by decide⟩
  refine (among_dr w.heap.size a n p 0 (w.heap.size + 1) 9 9 [2, 3, 4, 5, 6, 10, 11, 1, 0] w5 (by omega) (by omega) hz hn (by omega) (fun b off h0 e => by have := HR.out.fresh b off h0 e; omega) (HR.out.kept HL.out.below) hcu).mono ?_
  rintro e w6 ⟨k, _, rfl, hch, _⟩
  have HB := Lib.hid (below_of_chg HL.out.below hch (Nat.le_refl _))
  clear hch
  go_wp2_with fail
  go_ret
  exact ⟨_, rfl, HB.out⟩

set_option maxRecDepth 100000 in
set_option maxHeartbeats 3200000 in
theorem drawDrawEulerNumbers_any (a : Option Addr) (n p : Nat) (w : World) (hn : n ≤ 4611686018427387904) (hr : ReadsY w a n) : Calls Try.prog 25 #[.slice a n p] w (AnsD w) := by
  have L0 := (Law.start w).has [.slice a n p, .int .i64 0, .int .u64 0] 57
  rw [show w.alloc (.cells ([.slice a n p, .int .i64 0, .int .u64 0] : List Value).toArray 57) = w.alloc (.cells #[.slice a n p, .int .i64 0, .int .u64 0] 57) from rfl] at L0
  have L1 := L0.own (below_new _) (own_of_has (lo := (w.alloc (.cells #[.slice a n p, .int .i64 0, .int .u64 0] 57)).heap.size) (xs := [1, 2, 3, 4, 5, 6, 10, 11, 0]) (Has.new (w.alloc (.cells #[.slice a n p, .int .i64 0, .int .u64 0] 57)) [.int .i64 1, .int .i64 2, .int .i64 3, .int .i64 4, .int .i64 5, .int .i64 6, .int .i64 10, .int .i64 11, .int .i64 0] 3) (Nat.le_refl _) rfl (by show 9 ≤ maxLen; unfold maxLen; omega))
  rw [show (w.alloc (.cells #[.slice a n p, .int .i64 0, .int .u64 0] 57)).alloc (.cells ([.int .i64 1, .int .i64 2, .int .i64 3, .int .i64 4, .int .i64 5, .int .i64 6, .int .i64 10, .int .i64 11, .int .i64 0] : List Value).toArray 3) = (w.alloc (.cells #[.slice a n p, .int .i64 0, .int .u64 0] 57)).alloc (.cells #[.int .i64 1, .int .i64 2, .int .i64 3, .int .i64 4, .int .i64 5, .int .i64 6, .int .i64 10, .int .i64 11, .int .i64 0] 3) from rfl] at L1
  simp only [World.size_alloc] at L1
  have HL := Lib.hid L1
  have HR := Lib.hid hr
  clear L0 L1 hr
  go_enter Try.func25, Try.ntmps25
  go_wp2_with fail
  generalize (w.alloc (.cells #[.slice a n p, .int .i64 0, .int .u64 0] 57)).alloc (.cells #[.int .i64 1, .int .i64 2, .int .i64 3, .int .i64 4, .int .i64 5, .int .i64 6, .int .i64 10, .int .i64 11, .int .i64 0] 3) = w5 at *
  have hz : Reads w5 (some ⟨w.heap.size + 1, 0, none⟩) 9 [1, 2, 3, 4, 5, 6, 10, 11, 0] := by
    obtain ⟨a', q, e, h⟩ := HL.out.ownInts.reads
    cases e
    exact h
  have hcu : Cur w5 w.heap.size a n p 0 := ⟨0, 0, HL.out.tl.ownHas, Nat.le_refl _, by decide, by decide⟩
  refine (among_dr w.heap.size a n p 0 (w.heap.size + 1) 9 9 [1, 2, 3, 4, 5, 6, 10, 11, 0] w5 (by omega) (by omega) hz hn (by omega) (fun b off h0 e => by have := HR.out.fresh b off h0 e; omega) (HR.out.kept HL.out.below) hcu).mono ?_
  rintro e w6 ⟨k, _, rfl, hch, _⟩
  have HB := Lib.hid (below_of_chg HL.out.below hch (Nat.le_refl _))
  clear hch
  go_wp2_with fail
  go_ret
  exact ⟨_, rfl, HB.out⟩

set_option maxRecDepth 100000 in
set_option maxHeartbeats 3200000 in
theorem drawDrawArrowBoard_any (a : Option Addr) (n p : Nat) (w : World) (hn : n ≤ 4611686018427387904) (hr : ReadsY w a n) : Calls Try.prog 37 #[.slice a n p] w (AnsD w) := by
  have L0 := (Law.start w).has [.slice a n p, .int .i64 0, .int .u64 0] 57
  rw [show w.alloc (.cells ([.slice a n p, .int .i64 0, .int .u64 0] : List Value).toArray 57) = w.alloc (.cells #[.slice a n p, .int .i64 0, .int .u64 0] 57) from rfl] at L0
  have L1 := L0.own (below_new _) (own_of_has (lo := (w.alloc (.cells #[.slice a n p, .int .i64 0, .int .u64 0] 57)).heap.size) (xs := [1, 2, 3, 4, 5, 6, 7, 0, -1]) (Has.new (w.alloc (.cells #[.slice a n p, .int .i64 0, .int .u64 0] 57)) [.int .i64 1, .int .i64 2, .int .i64 3, .int .i64 4, .int .i64 5, .int .i64 6, .int .i64 7, .int .i64 0, .int .i64 (-1)] 3) (Nat.le_refl _) rfl (by show 9 ≤ maxLen; unfold maxLen; omega))
  rw [show (w.alloc (.cells #[.slice a n p, .int .i64 0, .int .u64 0] 57)).alloc (.cells ([.int .i64 1, .int .i64 2, .int .i64 3, .int .i64 4, .int .i64 5, .int .i64 6, .int .i64 7, .int .i64 0, .int .i64 (-1)] : List Value).toArray 3) = (w.alloc (.cells #[.slice a n p, .int .i64 0, .int .u64 0] 57)).alloc (.cells #[.int .i64 1, .int .i64 2, .int .i64 3, .int .i64 4, .int .i64 5, .int .i64 6, .int .i64 7, .int .i64 0, .int .i64 (-1)] 3) from rfl] at L1
  simp only [World.size_alloc] at L1
  have HL := Lib.hid L1
  have HR := Lib.hid hr
  clear L0 L1 hr
  go_enter Try.func37, Try.ntmps37
  go_wp2_with fail
  generalize (w.alloc (.cells #[.slice a n p, .int .i64 0, .int .u64 0] 57)).alloc (.cells #[.int .i64 1, .int .i64 2, .int .i64 3, .int .i64 4, .int .i64 5, .int .i64 6, .int .i64 7, .int .i64 0, .int .i64 (-1)] 3) = w5 at *
  have hz : Reads w5 (some ⟨w.heap.size + 1, 0, none⟩) 9 [1, 2, 3, 4, 5, 6, 7, 0, -1] := by
    obtain ⟨a', q, e, h⟩ := HL.out.ownInts.reads
    cases e
    exact h
  have hcu : Cur w5 w.heap.size a n p 0 := ⟨0, 0, HL.out.tl.ownHas, Nat.le_refl _, by decide, by decide⟩
  refine (among_dr w.heap.size a n p 0 (w.heap.size + 1) 9 9 [1, 2, 3, 4, 5, 6, 7, 0, -1] w5 (by omega) (by omega) hz hn (by omega) (fun b off h0 e => by have := HR.out.fresh b off h0 e; omega) (HR.out.kept HL.out.below) hcu).mono ?_
  rintro e w6 ⟨k, _, rfl, hch, _⟩
  have HB := Lib.hid (below_of_chg HL.out.below hch (Nat.le_refl _))
  clear hch
  go_wp2_with fail
  go_ret
  exact ⟨_, rfl, HB.out⟩

set_option maxRecDepth 100000 in
set_option maxHeartbeats 3200000 in
theorem drawDerangementsWith_any (a : Option Addr) (n p : Nat) (w : World) (hn : n ≤ 4611686018427387904) (hr : ReadsY w a n) : Calls Try.prog 27 #[.slice a n p] w (AnsDD w) := by
  have L0 := (Law.start w).has [.slice a n p, .int .i64 0, .int .u64 0] 57
  rw [show w.alloc (.cells ([.slice a n p, .int .i64 0, .int .u64 0] : List Value).toArray 57) = w.alloc (.cells #[.slice a n p, .int .i64 0, .int .u64 0] 57) from rfl] at L0
  have L1 := L0.own (below_new _) (own_of_has (lo := (w.alloc (.cells #[.slice a n p, .int .i64 0, .int .u64 0] 57)).heap.size) (xs := [0, 1, 2, 5, 8, 12, 13, -1]) (Has.new (w.alloc (.cells #[.slice a n p, .int .i64 0, .int .u64 0] 57)) [.int .i64 0, .int .i64 1, .int .i64 2, .int .i64 5, .int .i64 8, .int .i64 12, .int .i64 13, .int .i64 (-1)] 3) (Nat.le_refl _) rfl (by show 8 ≤ maxLen; unfold maxLen; omega))
  rw [show (w.alloc (.cells #[.slice a n p, .int .i64 0, .int .u64 0] 57)).alloc (.cells ([.int .i64 0, .int .i64 1, .int .i64 2, .int .i64 5, .int .i64 8, .int .i64 12, .int .i64 13, .int .i64 (-1)] : List Value).toArray 3) = (w.alloc (.cells #[.slice a n p, .int .i64 0, .int .u64 0] 57)).alloc (.cells #[.int .i64 0, .int .i64 1, .int .i64 2, .int .i64 5, .int .i64 8, .int .i64 12, .int .i64 13, .int .i64 (-1)] 3) from rfl] at L1
  simp only [World.size_alloc] at L1
  have HL := Lib.hid L1
  have HR := Lib.hid hr
  clear L0 L1 hr
  go_enter Try.func27, Try.ntmps27
  go_wp2_with fail
  generalize (w.alloc (.cells #[.slice a n p, .int .i64 0, .int .u64 0] 57)).alloc (.cells #[.int .i64 0, .int .i64 1, .int .i64 2, .int .i64 5, .int .i64 8, .int .i64 12, .int .i64 13, .int .i64 (-1)] 3) = w5 at *
  have hz : Reads w5 (some ⟨w.heap.size + 1, 0, none⟩) 8 [0, 1, 2, 5, 8, 12, 13, -1] := by
    obtain ⟨a', q, e, h⟩ := HL.out.ownInts.reads
    cases e
    exact h
  have hcu : Cur w5 w.heap.size a n p 0 := ⟨0, 0, HL.out.tl.ownHas, Nat.le_refl _, by decide, by decide⟩
  refine (among_dr w.heap.size a n p 0 (w.heap.size + 1) 8 8 [0, 1, 2, 5, 8, 12, 13, -1] w5 (by omega) (by omega) hz hn (by omega) (fun b off h0 e => by have := HR.out.fresh b off h0 e; omega) (HR.out.kept HL.out.below) hcu).mono ?_
  rintro e w6 ⟨k, _, rfl, hch, hcu⟩
  have hlt6 : w.heap.size < w6.heap.size := by
    obtain ⟨_, _, h, _⟩ := hcu
    exact h.lt
  have HB := Lib.hid (below_of_chg HL.out.below hch (Nat.le_refl _))
  have HB2 := Lib.hid (HB.out.alloc (Nat.le_trans (Nat.le_of_lt hlt6) (Nat.le_refl _)) (.cells #[.int .i64 0, .int .i64 1, .int .i64 2, .int .i64 3, .int .i64 5, .int .i64 12, .int .i64 (-1)] 3))
  have h7 := own_of_has (lo := w6.heap.size) (xs := [0, 1, 2, 3, 5, 12, -1]) (Has.new w6 [.int .i64 0, .int .i64 1, .int .i64 2, .int .i64 3, .int .i64 5, .int .i64 12, .int .i64 (-1)] 3) (Nat.le_refl _) rfl (by show 7 ≤ maxLen; unfold maxLen; omega)
  rw [show w6.alloc (.cells ([.int .i64 0, .int .i64 1, .int .i64 2, .int .i64 3, .int .i64 5, .int .i64 12, .int .i64 (-1)] : List Value).toArray 3) = w6.alloc (.cells #[.int .i64 0, .int .i64 1, .int .i64 2, .int .i64 3, .int .i64 5, .int .i64 12, .int .i64 (-1)] 3) from rfl] at h7
  have hz7 : Reads (w6.alloc (.cells #[.int .i64 0, .int .i64 1, .int .i64 2, .int .i64 3, .int .i64 5, .int .i64 12, .int .i64 (-1)] 3)) (some ⟨w6.heap.size, 0, none⟩) 7 [0, 1, 2, 3, 5, 12, -1] := by
    obtain ⟨a', q, e, h⟩ := h7.reads
    cases e
    exact h
  have hcu7 : Cur (w6.alloc (.cells #[.int .i64 0, .int .i64 1, .int .i64 2, .int .i64 3, .int .i64 5, .int .i64 12, .int .i64 (-1)] 3)) w.heap.size a n p 2 := by
    obtain ⟨q, sd, h, h2⟩ := hcu
    exact ⟨q, sd, h.kept (below_new _) hlt6, h2⟩
  have HC7 := Lib.hid (And.intro hz7 hcu7)
  clear hch hcu h7 hz7 hcu7 hz
  go_wp2_with fail
  generalize w6.alloc (.cells #[.int .i64 0, .int .i64 1, .int .i64 2, .int .i64 3, .int .i64 5, .int .i64 12, .int .i64 (-1)] 3) = w7 at *
  refine (among_dr w.heap.size a n p 2 w6.heap.size 7 7 [0, 1, 2, 3, 5, 12, -1] w7 (by omega) (by omega) HC7.out.1 hn (by omega) (fun b off h0 e => by have := HR.out.fresh b off h0 e; omega) (HR.out.kept HB2.out) HC7.out.2).mono ?_
  rintro e w8 ⟨k2, _, rfl, hch, _⟩
  have HB8 := Lib.hid (below_of_chg HB2.out hch (Nat.le_refl _))
  clear hch
  go_wp2_with fail
  go_ret2
  exact ⟨_, _, rfl, HB8.out⟩

theorem readsY_of {H : Type} {enc : TypeId × Value → H} {W : World} {a0 : Option Addr} {len cap fuel : Nat} {x : DataW H × List MemPlace}
    (hc1 : Try.prog.cellsOf 5 = 1) (hf : DataW.trod enc Try.prog W 0 (fun _ => true) true fuel 22 [.slice a0 len cap] = some x) : len ≤ 9223372036854775807 ∧ ReadsY W a0 len := by
  rcases open_ints Try.underlying22 Try.underlying5 hc1 hf with ⟨hcs, hx⟩ | ⟨a, len', cap', zs, hcs, _, hl, hm, hz, hx, hcell, hwz⟩
  · simp at hcs
    obtain ⟨rfl, rfl, rfl⟩ := hcs
    exact ⟨by omega, .inl rfl⟩
  · simp at hcs
    obtain ⟨rfl, rfl, rfl⟩ := hcs
    simp only [if_true] at hz
    unfold maxLen at hm
    refine ⟨by omega, ?_⟩
    by_cases h0 : len = 0
    · exact .inl h0
    · obtain ⟨b, off, spot⟩ := a
      have hspot : spot = none := by simpa [Addr.add] using World.cell?_spot (hcell 0 (by omega))
      subst hspot
      refine .inr ⟨b, off, rfl, World.block_lt_of_cell? _ _ (by have := hcell 0 (by omega); simpa [Addr.add] using this), fun j hj => ?_⟩
      have hcj := hcell j (by omega)
      rw [add_plain] at hcj
      have hb := range_u8 hwz j
      exact ⟨_, hcj, by rw [List.getD_eq_getElem?_getD]; exact hb.1, by rw [List.getD_eq_getElem?_getD]; omega⟩
end Go.Proofs.Ytaipcmplpjkebaa
