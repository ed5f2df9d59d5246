/- Is a list an order of the rows, in both texts. No condition but the sizes. -/
import Derived.Test.YtddmommamcgelabZ
namespace Go.Proofs.Ytddmommamcgelab
open Go.RowKit Go.WideShapes

def hasL (xs : List Int) (n : Int) : Bool := decide (n ∈ xs)
theorem hasL_take_step (xs : List Int) (n : Int) (k : Nat) (hk : k < xs.length) (h : ¬ n ∈ xs.take k) (hx : xs.getD k 0 ≠ n) : ¬ n ∈ xs.take (k + 1) := by
  rw [List.take_succ_eq_append_getElem hk]
  simp only [List.mem_append, List.mem_singleton, not_or]
  exact ⟨h, fun e => hx (by rw [e]; simp [List.getD, hk])⟩
set_option maxHeartbeats 800000 in
theorem l1HasO_any (a : Option Addr) (cap : Nat) (xs : List Int) (n : Int) (w : World) (hx : xs.length ≤ 1048576) (hr : Reads w a xs.length xs) :
    Calls Try.prog 112 #[.slice a xs.length cap, .int .i64 n] w fun e w' => e = .returned (.bool (hasL xs n)) ∧ w = w' := by
  go_enter Try.func112, Try.ntmps112
  go_wp2
  go_loop [9] (fun i => ∃ k : Nat, k ≤ xs.length ∧ i = .int .i64 k ∧ Hid (¬ n ∈ xs.take k)) (fun i => xs.length - (intOf i).toNat)
  case atStart => exact ⟨0, Nat.zero_le _, rfl, Lib.hid (by simp)⟩
  case round =>
    obtain ⟨k, hk, rfl, HE⟩ := hrel
    by_cases hlt : k < xs.length
    · obtain ⟨b, off, rfl, hb, hc⟩ := reads_row hr (by omega)
      have hck := hc k hlt
      clear hc hr
      by_cases he : xs.getD k 0 = n
      · have t1 : (xs.getD k 0 == n) = true := beq_iff_eq.2 he
        have HD := Lib.hid (show hasL xs n = true by unfold hasL; rw [decide_eq_true_eq, ← he]; simp [List.getD, hlt])
        clear he
        generalize xs.getD k 0 = x at *
        go_wp2_with fail
        go_ret
        exact ⟨ret_bool HD.out.symm, rfl⟩
      · have t1 : (xs.getD k 0 == n) = false := beq_eq_false_iff_ne.2 he
        have HN := Lib.hid (hasL_take_step xs n k hlt HE.out he)
        clear he
        generalize xs.getD k 0 = x at *
        go_wp2_with fail
        go_round
        case rel => exact ⟨k + 1, by omega, by go_num, HN⟩
        case measure => simp [intOf]; omega
    · obtain rfl : k = xs.length := by omega
      have HD := Lib.hid (show hasL xs n = false by
        have := HE.out
        rw [List.take_length] at this
        unfold hasL
        rw [decide_eq_false_iff_not]; exact this)
      go_wp2_with fail
      go_ret
      exact ⟨ret_bool HD.out.symm, rfl⟩

/-- Has the list each of 0 .. n - 1 once? -/
def ordOk (ord : List Int) (n : Int) : Bool := decide ((ord.length : Int) = n) && (within 0 (n - 1) ord && decide ord.Nodup)
theorem nodup_step (xs : List Int) (k : Nat) (hk : k < xs.length) (h : (xs.take k).Nodup) (hn : ¬ xs.getD k 0 ∈ xs.take k) : (xs.take (k + 1)).Nodup := by
  rw [List.take_succ_eq_append_getElem hk, List.nodup_append]
  refine ⟨h, by simp, ?_⟩
  intro a ha b hb
  simp only [List.mem_singleton] at hb
  subst hb
  intro e
  subst e
  apply hn
  simpa [List.getD, hk] using ha
theorem nodup_no (xs : List Int) (k : Nat) (hk : k < xs.length) (hn : xs.getD k 0 ∈ xs.take k) : decide xs.Nodup = false := by
  rw [decide_eq_false_iff_not]
  intro h
  have h2 : (xs.take (k + 1)).Nodup := h.sublist (List.take_sublist _ _)
  rw [List.take_succ_eq_append_getElem hk, List.nodup_append] at h2
  have e : xs.getD k 0 = xs[k] := by simp [List.getD, hk]
  rw [e] at hn
  exact h2.2.2 _ hn _ (by simp) rfl
theorem Reads.takeO {w : World} {a : Option Addr} {len : Nat} {zs : List Int} (h : Reads w a len zs) (k : Nat) (hk : k ≤ len) : Reads w a (zs.take k).length (zs.take k) := by
  obtain ⟨h1, h2⟩ := h
  refine ⟨rfl, ?_⟩
  have hl : (zs.take k).length = k := by simp; omega
  rw [hl]
  by_cases h0 : k = 0
  · exact .inl h0
  · right
    rcases h2 with h2 | ⟨b, off, ha, hlt, hc⟩
    · omega
    · refine ⟨b, off, ha, hlt, fun j hj => ?_⟩
      rw [hc j (by omega)]
      simp [List.getD, hj]

theorem at_boolV {P : Program} {f : FuncId} {args : Array Value} {b c : Bool} {w : World} (h : Calls P f args w fun e w' => e = .returned (.bool b) ∧ w = w') (e : b = c) : Calls P f args w fun e w' => e = .returned (.bool c) ∧ w = w' := by
  subst e
  exact h


/-- The marks behind k rounds. -/
def slO (S : Nat → Bool) : List Value := [.bool (S 0), .bool (S 1), .bool (S 2), .bool (S 3), .bool (S 4), .bool (S 5)]
theorem slO_get (S : Nat → Bool) (i : Nat) (h : i < 6) : (slO S)[i]? = some (.bool (S i)) := by
  have : i = 0 ∨ i = 1 ∨ i = 2 ∨ i = 3 ∨ i = 4 ∨ i = 5 := by omega
  rcases this with rfl | rfl | rfl | rfl | rfl | rfl <;> rfl
theorem slO_set (S T : Nat → Bool) (i : Nat) (h : i < 6) (hx : T i = true) (ho : ∀ k, k ≠ i → T k = S k) : (slO S).set i (.bool true) = slO T := by
  have : i = 0 ∨ i = 1 ∨ i = 2 ∨ i = 3 ∨ i = 4 ∨ i = 5 := by omega
  rcases this with rfl | rfl | rfl | rfl | rfl | rfl <;> simp [slO, hx, ho]
def marks (ord : List Int) (k : Nat) : Nat → Bool := fun q => decide ((q : Int) ∈ ord.take k)
theorem marks_zero (ord : List Int) : marks ord 0 = fun _ => false := by funext q; simp [marks]
theorem marks_set (ord : List Int) (k y : Nat) (hk : k < ord.length) (hy : ord.getD k 0 = y) : (∀ q, q ≠ y → marks ord (k + 1) q = marks ord k q) ∧ marks ord (k + 1) y = true := by
  have e : ord[k] = (y : Int) := by rw [← hy]; simp [List.getD, hk]
  constructor
  · intro q hq
    unfold marks
    rw [List.take_succ_eq_append_getElem hk, e]
    simp only [List.mem_append, List.mem_singleton]
    congr 1
    rw [eq_iff_iff]
    constructor
    · rintro (h | h)
      · exact h
      · omega
    · exact .inl
  · unfold marks
    rw [List.take_succ_eq_append_getElem hk, e]
    simp
theorem within_no_at (lo hi : Int) (xs : List Int) (k : Nat) (hk : k < xs.length) (hx : ¬ (lo ≤ xs.getD k 0 ∧ xs.getD k 0 ≤ hi)) : within lo hi xs = false := within_no lo hi xs k hk hx

set_option maxRecDepth 100000 in
set_option maxHeartbeats 3200000 in
theorem hasEach_any (ord : List Int) (n : Nat) (w : World) (hx : ord.length ≤ 1048576) (hn : 1 ≤ n ∧ n ≤ 6) (lo : Nat) (v : Value) (hO : Own w lo v ord) :
    Calls Try.prog 126 #[v, .int .i64 n] w fun e w' => e = .returned (.bool (ordOk ord n)) ∧ Below w.heap.size w w' := by
  obtain ⟨a, cap, rfl, hr⟩ := hO.reads
  clear hO
  by_cases h1 : (ord.length : Int) = n
  · have hl : ord.length = n := by omega
    subst hl
    obtain ⟨n1, n2⟩ := hn
    have t1 : ((ord.length : Int) != (ord.length : Int)) = false := by simp
    have L0 := (Law.start w).has (slO (marks ord 0)) 147
    rw [marks_zero] at L0
    have HL := Lib.hid L0
    clear L0 h1
    go_enter Try.func126, Try.ntmps126
    go_wp2_with fail
    go_loopw [14] (fun i wr => ∃ k : Nat, k ≤ ord.length ∧ i = .int .i64 k ∧ Hid ((ord.take k).Nodup ∧ within 0 ((ord.length : Int) - 1) (ord.take k) = true) ∧ Law w [tHas w.heap.size (slO (marks ord k)) 147] wr) (fun i _ => ord.length - (intOf i).toNat)
    case atStart => exact ⟨0, Nat.zero_le _, rfl, Lib.hid (by simp [within]), by rw [marks_zero]; exact HL.out⟩
    case round =>
      clear HL
      obtain ⟨k, hk, rfl, HE, L⟩ := hrel
      by_cases hlt : k < ord.length
      · have hrl := L.reads hr
        obtain ⟨b, off, rfl, hb, hc⟩ := reads_row hrl (by omega)
        have hck := hc k hlt
        clear hc hrl
        by_cases hin : 0 ≤ ord.getD k 0 ∧ ord.getD k 0 < ord.length
        · obtain ⟨i1, i2⟩ := hin
          obtain ⟨y, hy⟩ := Int.eq_ofNat_of_zero_le i1
          have hy6 : y < 6 := by omega
          have hcs := L.ownHas.cell y
          rw [slO_get _ y hy6] at hcs
          have hfs := L.ownHas.free y
          by_cases hm : ord.getD k 0 ∈ ord.take k
          · have HD := Lib.hid (show ordOk ord ord.length = false by simp [ordOk, nodup_no ord k hlt hm])
            have hmk : marks ord k y = true := by unfold marks; rw [decide_eq_true_eq, ← hy]; exact hm
            rw [hmk] at hcs
            have HB := Lib.hid L.below
            rw [hy] at hck
            have hyl : (y : Int) < ord.length := by omega
            clear L hm hmk hy i1 i2
            go_wp2_with fail
            go_ret
            exact ⟨ret_bool HD.out.symm, HB.out⟩
          · have hmk : marks ord k y = false := by unfold marks; rw [decide_eq_false_iff_not, ← hy]; exact hm
            rw [hmk] at hcs
            have hS := Law.setHas (ts := []) L y (.bool true)
            rw [slO_set (marks ord k) (marks ord (k + 1)) y hy6 (marks_set ord k y hlt hy).2 (marks_set ord k y hlt hy).1] at hS
            have HS := Lib.hid hS
            have HE2 : Hid ((ord.take (k + 1)).Nodup ∧ within 0 ((ord.length : Int) - 1) (ord.take (k + 1)) = true) := Lib.hid ⟨nodup_step ord k hlt HE.out.1 hm, within_upto _ _ ord k hlt HE.out.2 (by omega)⟩
            rw [hy] at hck
            have hyl : (y : Int) < ord.length := by omega
            clear L hm hmk hy i1 i2 hS
            go_wp2_with fail
            go_roundw
            case rel => exact ⟨k + 1, by omega, by go_num, HE2, HS.out⟩
            case measure => simp [intOf]; omega
        · have HD := Lib.hid (show ordOk ord ord.length = false by simp [ordOk, within_no 0 ((ord.length : Int) - 1) ord k hlt (by omega)])
          have HB := Lib.hid L.below
          clear L
          generalize ord.getD k 0 = x at *
          by_cases h0 : x < 0
          · clear hin
            go_wp2_with fail
            go_ret
            exact ⟨ret_bool HD.out.symm, HB.out⟩
          · have h3 : (ord.length : Int) ≤ x := by omega
            have h4 : 0 ≤ x := by omega
            clear hin h0
            go_wp2_with fail
            go_ret
            exact ⟨ret_bool HD.out.symm, HB.out⟩
      · obtain rfl : k = ord.length := by omega
        have HD := Lib.hid (show ordOk ord ord.length = true by
          have := HE.out
          rw [List.take_length] at this
          simp [ordOk, this.1, this.2])
        have HB := Lib.hid L.below
        go_wp2_with fail
        go_ret
        exact ⟨ret_bool HD.out.symm, HB.out⟩
  · have t1 : ((ord.length : Int) != (n : Int)) = true := bne_iff_ne.2 h1
    have HD := Lib.hid (show ordOk ord n = false by simp [ordOk, h1])
    clear h1 hr
    go_enter Try.func126, Try.ntmps126
    go_wp2_with fail
    go_ret
    exact ⟨ret_bool HD.out.symm, Below.refl _ _⟩

end Go.Proofs.Ytddmommamcgelab
