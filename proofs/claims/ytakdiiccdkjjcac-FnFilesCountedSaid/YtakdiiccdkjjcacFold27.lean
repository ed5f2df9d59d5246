import Derived.Test.YtakdiiccdkjjcacFold0
import Derived.ProofKit
import Derived.SizedLaws
import Derived.OpenShut
import Derived.Lib.SmallJoins
import Derived.Test.YtakdiiccdkjjcacFold1
import Derived.Test.YtakdiiccdkjjcacFold26
import Derived.Test.YtakdiiccdkjjcacFold2
import Derived.Test.YtakdiiccdkjjcacFold8
import Derived.Laws.OwnMore

section
namespace Go.Proofs.Ytakdiiccdkjjcac
open Go.ChangeShapes Go.WideShapes Go.ChangeAt Go.RowKit Go.Joins

set_option maxRecDepth 100000 in
theorem Try.own : ownKnob Try.prog.godebug = none := by kernel_rfl
set_option maxRecDepth 100000 in
theorem Try.laidOut : laidOutB Try.prog = true := by kernel_rfl
set_option maxRecDepth 100000 in
theorem Try.cellsI : Try.prog.cellsOf 3 = 1 := by kernel_rfl
set_option maxRecDepth 100000 in
theorem Try.cellsLB : Try.prog.cellsOf 24 = 3 := by kernel_rfl

set_option maxRecDepth 100000 in
/-- A slice of ints that came in. -/
theorem reads_of {H : Type} {enc : TypeId × Value → H} {W : World} {a0 : Option Addr} {len cap fuel : Nat} {x : DataW H × List MemPlace}
    (hf : DataW.trod enc Try.prog W 0 (fun _ => true) true fuel 22 [.slice a0 len cap] = some x) : len ≤ 9223372036854775807 ∧ ∃ zs, Reads W a0 len zs := by
  rcases open_ints Try.underlying22 Try.underlying3 Try.cellsI hf with ⟨hcs, hx⟩ | ⟨a, len', cap', zs, hcs, _, hl, hm, hz, hx, hcell, hwz⟩
  · simp at hcs
    obtain ⟨rfl, rfl, rfl⟩ := hcs
    exact ⟨by omega, [], rfl, .inl rfl⟩
  · simp at hcs
    obtain ⟨rfl, rfl, rfl⟩ := hcs
    simp only [if_true] at hz
    unfold maxLen at hm
    refine ⟨by omega, zs.take len, by simp; omega, ?_⟩
    by_cases h0 : len = 0
    · exact .inl h0
    · obtain ⟨b, off, spot⟩ := a
      have hspot : spot = none := by simpa [Addr.add] using World.cell?_spot (hcell 0 (by omega))
      subst hspot
      refine .inr ⟨b, off, rfl, World.block_lt_of_cell? _ _ (by have := hcell 0 (by omega); simpa [Addr.add] using this), fun j hj => ?_⟩
      have := hcell j (by omega)
      rw [add_plain] at this
      rw [this]
      simp [List.getD, hj]

set_option maxRecDepth 100000 in
theorem open_board {H : Type} {enc : TypeId × Value → H} {W : World} {base : Nat} {v : Value} {d : DataW H} {p : List MemPlace}
    (hv : Value.okWide Try.prog W .any base 24 v) (h : DataW.Trod enc Try.prog W 0 (fun _ => true) true 24 v d p) :
    ∃ (r c : Int) (a : Option Addr) (len cap : Nat) (zs : List Int), v = .agg #[.int .i64 r, .int .i64 c, .slice a len cap] ∧ len ≤ 9223372036854775807 ∧ Reads W a len zs := by
  obtain ⟨c0, c1, c2, y0, y1, y2, m, rfl, rfl, rfl, hy0, hy1, hy2⟩ := open_agg3 Try.underlying24 (by kernel_rfl) Try.cellsLB hv h
  obtain ⟨r, e0, rfl, w0⟩ := DataW.trod_int Try.underlying3 hy0
  obtain ⟨c, e1, rfl, w1⟩ := DataW.trod_int Try.underlying3 hy1
  obtain ⟨a, len, cap, e2⟩ := slice_form Try.underlying22 hy2
  simp at e0 e1 e2
  subst e0 e1 e2
  obtain ⟨hl, zs, hr⟩ := reads_of hy2
  exact ⟨r, c, a, len, cap, zs, rfl, hl, hr⟩

end Go.Proofs.Ytakdiiccdkjjcac
end

section
namespace Go.Proofs.Ytakdiiccdkjjcac
open Go.RowKit Go.WideShapes Go.ChangeShapes Go.ChangeAt Go.Joins

set_option maxRecDepth 100000 in
set_option maxHeartbeats 1600000 in
theorem kSame_same (a a' : Option Addr) (n p p' : Nat) (zs : List Int) (w : World) (hn : n ≤ 1048576) (h1 : Reads w a n zs) (h2 : Reads w a' n zs) :
    Calls Try.prog 21 #[.slice a n p, .slice a' n p'] w fun e w' => e = .returned (.bool true) ∧ Below w.heap.size w w' := by
  have H1 := Lib.hid h1
  have H2 := Lib.hid h2
  have HL := Lib.hid (Law.start w)
  clear h1 h2
  go_enter Try.func21, Try.ntmps21
  go_wp2_with fail
  go_loopw [13] (fun i wr => ∃ k : Nat, k ≤ n ∧ i = .int .i64 k ∧ Law w [] wr) (fun i _ => n - (intOf i).toNat)
  case atStart => exact ⟨0, Nat.zero_le _, rfl, HL.out⟩
  case round =>
    clear HL
    obtain ⟨k, hk, rfl, L⟩ := hrel
    have HL := Lib.hid L
    by_cases hlt : k < n
    · obtain ⟨b, off, rfl, _, hc⟩ := reads_row (L.reads H1.out) (by omega)
      obtain ⟨b', off', rfl, _, hc'⟩ := reads_row (L.reads H2.out) (by omega)
      have hx := hc k hlt
      have hy := hc' k hlt
      have hk0 : (0 : Int) ≤ k := by omega
      have hkn : (k : Int) < n := by omega
      generalize zs.getD k 0 = x at *
      have hd : (x != x) = false := by simp
      clear hc hc' L
      go_wp2_with fail
      go_quiet (fail)
      go_wp2_with fail
      go_roundw
      case rel => exact ⟨k + 1, by omega, by go_num, HL.out.kept (below_drewN (Below.refl _ _) _)⟩
      case measure => simp [intOf]; omega
    · obtain rfl : k = n := by omega
      have hkn : ¬ (k : Int) < k := by omega
      clear L
      go_wp2_with fail
      go_ret
      exact ⟨rfl, HL.out.below⟩

set_option maxRecDepth 100000 in
set_option maxHeartbeats 1600000 in
theorem kBoard_same (r c : Int) (a a' : Option Addr) (n p p' : Nat) (zs : List Int) (w : World) (hn : n ≤ 1048576) (h1 : Reads w a n zs) (h2 : Reads w a' n zs) :
    Calls Try.prog 26 #[.agg #[.int .i64 r, .int .i64 c, .slice a n p], .agg #[.int .i64 r, .int .i64 c, .slice a' n p']] w fun e w' => e = .returned (.bool true) ∧ Below w.heap.size w w' := by
  have L0 := ((Law.start w).box (.int .i64 r) (.int .i64 c) (.slice a n p) 28).box (.int .i64 r) (.int .i64 c) (.slice a' n p') 28
  simp only [World.size_alloc] at L0
  have HK := Lib.hid (fun W (h1 : Reads W a n zs) (h2 : Reads W a' n zs) => kSame_same a a' n p p' zs W hn h1 h2)
  have HL := Lib.hid L0
  have ⟨_, k0, k1, k2, _⟩ := L0.ownBox
  have ⟨_, m0, m1, m2, _⟩ := L0.tl.ownBox
  have h1 := L0.reads h1
  have h2 := L0.reads h2
  clear L0
  have hr : (r == r) = true := by simp
  have hc : (c == c) = true := by simp
  go_enter Try.func26, Try.ntmps26
  go_wp2_with fail
  refine (HK.out _ h1 h2).mono ?_
  rintro e w1 ⟨rfl, hb⟩
  have HB := Lib.hid (HL.out.kept hb).below
  clear hb k0 k1 k2 m0 m1 m2 h1 h2
  go_wp2_with fail
  go_ret
  exact ⟨rfl, HB.out⟩

/-- A sum, as it is reckoned. -/
def ksm (zs : List Int) : Nat → Int
  | 0 => 0
  | k + 1 => wrap64 (ksm zs k + zs.getD k 0)


/-- What a call answers that draws a number. -/
def AnsD (w : World) (e : Ending) (w' : World) : Prop := ∃ x : Int, e = .returned (.int .i64 x) ∧ Below w.heap.size w w'
def AnsDD (w : World) (e : Ending) (w' : World) : Prop := ∃ x y : Int, e = .returned (.tuple #[.int .i64 x, .int .i64 y]) ∧ Below w.heap.size w w'
theorem ReadsY.fresh {w : World} {a : Option Addr} {n : Nat} (h : ReadsY w a n) : ∀ b off, 0 < n → a = some ⟨b, off, none⟩ → b < w.heap.size := by
  intro b off h0 e
  rcases h with h | ⟨b', off', e', hlt, _⟩
  · omega
  · rw [e] at e'
    injection e' with e'
    injection e' with e'
    omega
theorem below_of_chg {w0 w w' : World} {bc : Nat} (h : Below w0.heap.size w0 w) (hc : Chg (fun k => k = bc) w w') (hb : w0.heap.size ≤ bc) : Below w0.heap.size w0 w' :=
  ⟨hc.os.trans h.os, hc.tape.trans h.tape, hc.output.trans h.output, Nat.le_trans h.size hc.size, fun k hk => (hc.block k (Nat.lt_of_lt_of_le hk h.size) (by omega)).trans (h.block k hk)⟩





set_option maxRecDepth 100000 in
set_option maxHeartbeats 3200000 in
theorem drawDrawArrowBoard_any (a : Option Addr) (n p : Nat) (w : World) (hn : n ≤ 4611686018427387904) (hr : ReadsY w a n) : Calls Try.prog 23 #[.slice a n p] w (AnsD w) := by
  have L0 := (Law.start w).has [.slice a n p, .int .i64 0, .int .u64 0] 76
  rw [show w.alloc (.cells ([.slice a n p, .int .i64 0, .int .u64 0] : List Value).toArray 76) = w.alloc (.cells #[.slice a n p, .int .i64 0, .int .u64 0] 76) from rfl] at L0
  have L1 := L0.own (below_new _) (own_of_has (lo := (w.alloc (.cells #[.slice a n p, .int .i64 0, .int .u64 0] 76)).heap.size) (xs := [1, 2, 3, 4, 5, 6, 7, 0, -1]) (Has.new (w.alloc (.cells #[.slice a n p, .int .i64 0, .int .u64 0] 76)) [.int .i64 1, .int .i64 2, .int .i64 3, .int .i64 4, .int .i64 5, .int .i64 6, .int .i64 7, .int .i64 0, .int .i64 (-1)] 3) (Nat.le_refl _) rfl (by show 9 ≤ maxLen; unfold maxLen; omega))
  rw [show (w.alloc (.cells #[.slice a n p, .int .i64 0, .int .u64 0] 76)).alloc (.cells ([.int .i64 1, .int .i64 2, .int .i64 3, .int .i64 4, .int .i64 5, .int .i64 6, .int .i64 7, .int .i64 0, .int .i64 (-1)] : List Value).toArray 3) = (w.alloc (.cells #[.slice a n p, .int .i64 0, .int .u64 0] 76)).alloc (.cells #[.int .i64 1, .int .i64 2, .int .i64 3, .int .i64 4, .int .i64 5, .int .i64 6, .int .i64 7, .int .i64 0, .int .i64 (-1)] 3) from rfl] at L1
  simp only [World.size_alloc] at L1
  have HL := Lib.hid L1
  have HR := Lib.hid hr
  clear L0 L1 hr
  go_enter Try.func23, Try.ntmps23
  go_wp2_with fail
  generalize (w.alloc (.cells #[.slice a n p, .int .i64 0, .int .u64 0] 76)).alloc (.cells #[.int .i64 1, .int .i64 2, .int .i64 3, .int .i64 4, .int .i64 5, .int .i64 6, .int .i64 7, .int .i64 0, .int .i64 (-1)] 3) = w5 at *
  have hz : Reads w5 (some ⟨w.heap.size + 1, 0, none⟩) 9 [1, 2, 3, 4, 5, 6, 7, 0, -1] := by
    obtain ⟨a', q, e, h⟩ := HL.out.ownInts.reads
    cases e
    exact h
  have hcu : Cur w5 w.heap.size a n p 0 := ⟨0, 0, HL.out.tl.ownHas, Nat.le_refl _, by decide, by decide⟩
  refine (among_dr w.heap.size a n p 0 (w.heap.size + 1) 9 9 [1, 2, 3, 4, 5, 6, 7, 0, -1] w5 (by omega) (by omega) hz hn (by omega) (fun b off h0 e => by have := HR.out.fresh b off h0 e; omega) (HR.out.kept HL.out.below) hcu).mono ?_
  rintro e w6 ⟨k, _, rfl, hch, _⟩
  have HB := Lib.hid (below_of_chg HL.out.below hch (Nat.le_refl _))
  clear hch
  go_wp2_with fail
  go_ret
  exact ⟨_, rfl, HB.out⟩


theorem readsY_of {H : Type} {enc : TypeId × Value → H} {W : World} {a0 : Option Addr} {len cap fuel : Nat} {x : DataW H × List MemPlace}
    (hc1 : Try.prog.cellsOf 5 = 1) (hf : DataW.trod enc Try.prog W 0 (fun _ => true) true fuel 38 [.slice a0 len cap] = some x) : len ≤ 9223372036854775807 ∧ ReadsY W a0 len := by
  rcases open_ints Try.underlying38 Try.underlying5 hc1 hf with ⟨hcs, hx⟩ | ⟨a, len', cap', zs, hcs, _, hl, hm, hz, hx, hcell, hwz⟩
  · simp at hcs
    obtain ⟨rfl, rfl, rfl⟩ := hcs
    exact ⟨by omega, .inl rfl⟩
  · simp at hcs
    obtain ⟨rfl, rfl, rfl⟩ := hcs
    simp only [if_true] at hz
    unfold maxLen at hm
    refine ⟨by omega, ?_⟩
    by_cases h0 : len = 0
    · exact .inl h0
    · obtain ⟨b, off, spot⟩ := a
      have hspot : spot = none := by simpa [Addr.add] using World.cell?_spot (hcell 0 (by omega))
      subst hspot
      refine .inr ⟨b, off, rfl, World.block_lt_of_cell? _ _ (by have := hcell 0 (by omega); simpa [Addr.add] using this), fun j hj => ?_⟩
      have hcj := hcell j (by omega)
      rw [add_plain] at hcj
      have hb := range_u8 hwz j
      exact ⟨_, hcj, by rw [List.getD_eq_getElem?_getD]; exact hb.1, by rw [List.getD_eq_getElem?_getD]; omega⟩
end Go.Proofs.Ytakdiiccdkjjcac
end
