import Derived.Test.YtakdiiccdkjjcacFold25
import Derived.Test.YtakdiiccdkjjcacFold30
import Derived.Test.YtakdiiccdkjjcacFold3
import Derived.Test.YtakdiiccdkjjcacFold7
import Derived.Test.YtakdiiccdkjjcacFold6
import Derived.Test.YtakdiiccdkjjcacFold9
import Derived.BigRegion
import Derived.Deep.RegionHeld3

section
namespace Go.Proofs.Ytakdiiccdkjjcac
open Go.RowKit Go.WideShapes

theorem within_at (lo hi : Int) (P : List Int) (h : within lo hi P = true) (k : Nat) (hk : k < P.length) : lo ≤ P.getD k 0 ∧ P.getD k 0 ≤ hi := by
  rw [within, List.all_eq_true] at h
  have := h P[k] (List.getElem_mem hk)
  simpa [List.getD, hk] using this
theorem within_place (n m : Nat) (xs P : List Int) (hn : P.length = n) (h : within (-1) ((m : Int) - 1) P = false) : placeP n m xs P = false := by
  rw [within, List.all_eq_false] at h
  obtain ⟨x, hx, h⟩ := h
  obtain ⟨k, hk, rfl⟩ := List.mem_iff_getElem.1 hx
  have hg : P.getD k 0 = P[k] := by simp [List.getD, hk]
  have h2 : ¬ (-1 ≤ P[k] ∧ P[k] ≤ (m : Int) - 1) := by simpa using h
  rw [placeP, goodUp_no xs m P k n ?_ (by omega), Bool.and_false]
  rw [goodAt, hg, inB_no (by omega), beq_eq_false_iff_ne.2 (by omega)]
  rfl



/-- A placement behind the first steps of a way, and whether these steps are in its rows. -/
def wOut (W P : List Int) : Nat → List Int
  | 0 => P
  | t + 1 => (wOut W P t).set (W.getD (2 * t) 0).toNat (W.getD (2 * t + 1) 0)
def wOk (n : Nat) (W : List Int) : Nat → Bool
  | 0 => true
  | t + 1 => wOk n W t && inB 0 (W.getD (2 * t) 0) ((n : Int) - 1)
theorem wOut_len (W P : List Int) (t : Nat) : (wOut W P t).length = P.length := by
  induction t with
  | zero => rfl
  | succ t ih => rw [wOut, List.length_set, ih]
theorem wOk_no (n : Nat) (W : List Int) (t T : Nat) (h : inB 0 (W.getD (2 * t) 0) ((n : Int) - 1) = false) (ht : t < T) : wOk n W T = false := by
  induction T with
  | zero => omega
  | succ T ih =>
    rw [wOk]
    by_cases e : t = T
    · subst e; rw [h, Bool.and_false]
    · rw [ih (by omega), Bool.false_and]
def lenW (W : List Int) : Bool := decide (W.length % 2 = 0) && inB 2 W.length 12
def wayR (r c : Int) (xs P W : List Int) : LR :=
  if goodB r c xs && (placeP r.toNat c.toNat xs P && (lenW W && (wOk r.toNat W (W.length / 2) && (placeP r.toNat c.toNat xs (wOut W P (W.length / 2)) && decide (rcnt P < rcnt (wOut W P (W.length / 2))))))) then ⟨wOut W P (W.length / 2), true⟩ else ⟨[], false⟩
theorem wayR_len (r c : Int) (xs P W : List Int) : (wayR r c xs P W).ys.length ≤ 1048576 := by
  unfold wayR
  split
  · rename_i h
    simp only [Bool.and_eq_true] at h
    have := good_facts h.1
    have h2 := h.2.1
    rw [placeP, Bool.and_eq_true, decide_eq_true_eq] at h2
    show (wOut W P (W.length / 2)).length ≤ _
    rw [wOut_len]
    omega
  · simp


end Go.Proofs.Ytakdiiccdkjjcac
end

section
namespace Go.Proofs.Ytakdiiccdkjjcac
open Go.RowKit Go.WideShapes

/-- Is the number at j one for the column j? -/
def filAt (xs : List Int) (n : Nat) (F : List Int) (j : Nat) : Bool :=
  (F.getD j 0 == -1) || (inB 0 (F.getD j 0) ((n : Int) - 1) && (xs.getD (F.getD j 0).toNat 0).toNat.testBit j)
def filUp (xs : List Int) (n : Nat) (F : List Int) : Nat → Bool
  | 0 => true
  | k + 1 => filUp xs n F k && filAt xs n F k
theorem filUp_no (xs : List Int) (n : Nat) (F : List Int) (k L : Nat) (h : filAt xs n F k = false) (hk : k < L) : filUp xs n F L = false := by
  induction L with
  | zero => omega
  | succ L ih =>
    rw [filUp]
    by_cases e : k = L
    · subst e; rw [h, Bool.and_false]
    · rw [ih (by omega), Bool.false_and]
theorem filUp_at (xs : List Int) (n : Nat) (F : List Int) (L k : Nat) (h : filUp xs n F L = true) (hk : k < L) : filAt xs n F k = true := by
  induction L with
  | zero => omega
  | succ L ih =>
    rw [filUp, Bool.and_eq_true] at h
    by_cases e : k = L
    · subst e; exact h.2
    · exact ih h.1 (by omega)
theorem within_files (n : Nat) (xs F : List Int) (h : within (-1) ((n : Int) - 1) F = false) : filUp xs n F F.length = false := by
  rw [within, List.all_eq_false] at h
  obtain ⟨x, hx, h⟩ := h
  obtain ⟨k, hk, rfl⟩ := List.mem_iff_getElem.1 hx
  have hg : F.getD k 0 = F[k] := by simp [List.getD, hk]
  have h2 : ¬ (-1 ≤ F[k] ∧ F[k] ≤ (n : Int) - 1) := by simpa using h
  refine filUp_no xs n F k _ ?_ hk
  rw [filAt, hg, inB_no (by omega), beq_eq_false_iff_ne.2 (by omega)]
  rfl
def isFilB (r c : Int) (xs F : List Int) : R2 := if goodB r c xs && (decide ((F.length : Int) = c) && within (-1) 999 F) then ⟨filUp xs r.toNat F F.length, true⟩ else ⟨false, false⟩

set_option maxRecDepth 100000 in
set_option maxHeartbeats 3200000 in
theorem fiGood_any (n m : Nat) (xs F : List Int) (a2 : Option Addr) (p2 : Nat) (w : World) (hx : xs.length ≤ 1048576) (hp : F.length ≤ 1048576) (hg : goodB n m xs = true) (hn : F.length = m) (lo : Nat) (s : Value) (hO : Own w lo s xs) (hr : Reads w a2 F.length F) :
    Calls Try.prog 88 #[.agg #[.int .i64 n, .int .i64 m, s], .slice a2 F.length p2] w fun e w' => e = .returned (.bool (filUp xs n F F.length)) ∧ Below w.heap.size w w' := by
  have hgc := good_cell hg
  obtain ⟨g1, g2, g3, _⟩ := good_facts hg
  have L0 := (Law.start w).box (.int .i64 n) (.int .i64 m) s 28
  have HO := Lib.hid hO
  have HR := Lib.hid hr
  have HGC := Lib.hid hgc
  have HLN := Lib.hid g3
  obtain ⟨a, cap, rfl, _⟩ := hO.reads
  have ⟨_, k0, k1, k2, _⟩ := L0.ownBox
  have HL := Lib.hid L0
  have hmw : IntKind.i64.wrap ((n : Int) - 1) = (n : Int) - 1 := IntWalk.i64_in _ (by omega)
  have hne : ((F.length : Int) != m) = false := by simp [hn]
  have HA := Lib.hid (fun W (h : Reads W a2 F.length F) => l1All_any a2 p2 F (-1) ((n : Int) - 1) W hp h)
  have hr0 := L0.reads HR.out
  have HR0 := Lib.hid hr0
  have HM := Lib.hid hn
  clear hO hr hgc hg g3 hr0
  cases hw : within (-1) ((n : Int) - 1) F
  · have HD := Lib.hid (within_files n xs F hw)
    rw [hw] at HA
    clear hn hw L0
    go_enter Try.func88, Try.ntmps88
    go_wp2_with fail
    refine (HA.out _ HR0.out).mono ?_
    rintro e w' ⟨rfl, rfl⟩
    go_wp2_with fail
    go_ret
    exact ⟨ret_bool HD.out.symm, HL.out.below⟩
  · have HW := Lib.hid (within_at _ _ F hw)
    rw [hw] at HA
    clear hn hw L0
    go_enter Try.func88, Try.ntmps88
    go_wp2_with fail
    refine (HA.out _ HR0.out).mono ?_
    rintro e w' ⟨rfl, rfl⟩
    go_wp2_with fail
    go_loopw [22] (fun i wr => ∃ k : Nat, k ≤ F.length ∧ i = .int .i64 k ∧ Hid (filUp xs n F k = true) ∧ Law w [tBox w.heap.size (.int .i64 n) (.int .i64 m) (.slice a xs.length cap)] wr) (fun i _ => F.length - (intOf i).toNat)
    case atStart => exact ⟨0, Nat.zero_le _, rfl, Lib.hid rfl, HL.out⟩
    case round =>
      clear HL k0 k1 k2 HA HR0
      obtain ⟨k, hk, rfl, HU, L⟩ := hrel
      have ⟨_, k0, k1, k2, _⟩ := L.ownBox
      have HL := Lib.hid L
      by_cases hlt : k < F.length
      · have hr2 := L.reads HR.out
        obtain ⟨b, off, rfl, hb, hc⟩ := reads_row hr2 (by omega)
        have hck := hc k hlt
        have hO1 := HO.out.kept L.below
        have hup : filUp xs n F (k + 1) = filAt xs n F k := by rw [filUp, HU.out, Bool.true_and]
        have hno := filUp_no xs n F k F.length
        have hat : filAt xs n F k = ((F.getD k 0 == -1) || (inB 0 (F.getD k 0) ((n : Int) - 1) && (xs.getD (F.getD k 0).toNat 0).toNat.testBit k)) := rfl
        have hwk := HW.out k hlt
        clear hc hb L hr2
        generalize F.getD k 0 = x at *
        by_cases h1 : x = -1
        · subst h1
          have HNX : Hid (filUp xs n F (k + 1) = true) := Lib.hid (by rw [hup, hat]; rfl)
          clear hup hno hat hO1
          go_wp2_with fail
          go_roundw
          case rel => exact ⟨k + 1, by omega, by go_num, HNX, HL.out⟩
          case measure => simp [intOf]; omega
        · have h1' : (x == -1) = false := by rw [beq_eq_false_iff_ne]; exact h1
          rw [h1', Bool.false_or] at hat
          have h2 : 0 ≤ x ∧ x ≤ (n : Int) - 1 := by omega
          obtain ⟨c, rfl⟩ := Int.eq_ofNat_of_zero_le h2.1
          rw [inB_yes h2.1 h2.2, Bool.true_and, show ((c : Int)).toNat = c by simp] at hat
          have HH := Lib.hid (boHas_any n m xs c k wr (by have := HLN.out; omega) hx (by have := HM.out; omega) (HGC.out c) lo _ hO1)
          have hk0 : (0 : Int) ≤ k := by omega
          have hc0 : (0 : Int) ≤ c := by omega
          clear hO1 h1 h2 h1' hwk
          cases hb1 : (xs.getD c 0).toNat.testBit k
          · have HNX : Hid (filUp xs n F F.length = false) := Lib.hid (hno (by rw [hat, hb1]) hlt)
            rw [hb1] at HH
            clear hup hno hat hb1
            go_wp2_with fail
            refine HH.out.mono ?_
            rintro e w2 ⟨rfl, hb2⟩
            have HB := Lib.hid (HL.out.kept hb2).below
            clear hb2
            go_wp2_with fail
            go_ret
            exact ⟨ret_bool (by rw [HNX.out]), HB.out⟩
          · have HNX : Hid (filUp xs n F (k + 1) = true) := Lib.hid (by rw [hup, hat, hb1])
            rw [hb1] at HH
            clear hup hno hat hb1
            go_wp2_with fail
            refine HH.out.mono ?_
            rintro e w2 ⟨rfl, hb2⟩
            have HL2 := Lib.hid (HL.out.kept hb2)
            clear hb2 HL
            go_wp2_with fail
            go_roundw
            case rel => exact ⟨k + 1, by omega, by go_num, HNX, HL2.out⟩
            case measure => simp [intOf]; omega
      · obtain rfl : k = F.length := by omega
        clear L
        go_wp2_with fail
        go_ret
        exact ⟨ret_bool (by rw [HU.out]), HL.out.below⟩

set_option maxRecDepth 100000 in
set_option maxHeartbeats 3200000 in
theorem isFiles_any (n m : Nat) (xs F : List Int) (M : Nat → Int) (hM : ∀ k, M k = xs.getD k 0) (a2 : Option Addr) (p2 : Nat) (w : World) (hp : F.length ≤ 1048576) (hn6 : n ≤ 6) (hm6 : m ≤ 6) (hn : F.length = m) (hgc : ∀ k, 0 ≤ xs.getD k 0 ∧ xs.getD k 0 < 64) (hr : Reads w a2 F.length F) :
    Calls Try.prog 86 #[gv n m M, .slice a2 F.length p2] w fun e w' => e = .returned (.bool (filUp xs n F F.length)) ∧ Below w.heap.size w w' := by
  have L0 := (Law.start w).has (gl n m M) 83
  have HR := Lib.hid hr
  have HGC := Lib.hid (fun k => show 0 ≤ M k ∧ M k < 64 by rw [hM]; exact hgc k)
  have HMM := Lib.hid hM
  have HN := Lib.hid hn
  have HL := Lib.hid L0
  clear hr hgc hM L0 hn
  go_enter Try.func86, Try.ntmps86
  go_wp2_with fail
  go_loopw [9] (fun i wr => ∃ k : Nat, k ≤ F.length ∧ i = .int .i64 k ∧ Hid (filUp xs n F k = true) ∧ Law w [tHas w.heap.size (gl n m M) 83] wr) (fun i _ => F.length - (intOf i).toNat)
  case atStart => exact ⟨0, Nat.zero_le _, rfl, Lib.hid rfl, HL.out⟩
  case round =>
    clear HL
    obtain ⟨k, hk, rfl, HU, L⟩ := hrel
    have HL := Lib.hid L
    by_cases hlt : k < F.length
    · have hr2 := L.reads HR.out
      obtain ⟨g0, g1, g2, g3, g4, g5, g6, g7, _⟩ := L.ownHas.eight
      obtain ⟨b, off, rfl, hb, hc⟩ := reads_row hr2 (by omega)
      have hck := hc k hlt
      have hup : filUp xs n F (k + 1) = filAt xs n F k := by rw [filUp, HU.out, Bool.true_and]
      have hno := filUp_no xs n F k F.length
      have hat : filAt xs n F k = ((F.getD k 0 == -1) || (inB 0 (F.getD k 0) ((n : Int) - 1) && (xs.getD (F.getD k 0).toNat 0).toNat.testBit k)) := rfl
      clear hc hb L hr2
      generalize F.getD k 0 = x at *
      have hk0 : (0 : Int) ≤ k := by omega
      by_cases h1 : x = -1
      · subst h1
        have HNX : Hid (filUp xs n F (k + 1) = true) := Lib.hid (by rw [hup, hat]; rfl)
        clear hup hno hat g0 g1 g2 g3 g4 g5 g6 g7
        go_wp2_with fail
        go_roundw
        case rel => exact ⟨k + 1, by omega, by go_num, HNX, HL.out⟩
        case measure => simp [intOf]; omega
      · have h1' : (x == -1) = false := by rw [beq_eq_false_iff_ne]; exact h1
        rw [h1', Bool.false_or] at hat
        have h1n : (x != -1) = true := by simp [h1]
        have HI := Lib.hid (fun W => inside_any n m x k M W)
        clear h1' h1
        by_cases h2 : 0 ≤ x ∧ x < n
        · rw [insB_iff.2 ⟨h2.1, h2.2, by omega, by have := HN.out; omega⟩] at HI
          obtain ⟨c, rfl⟩ := Int.eq_ofNat_of_zero_le h2.1
          rw [inB_yes h2.1 (by omega), Bool.true_and, show ((c : Int)).toNat = c by simp] at hat
          have HH := Lib.hid (fun W => at_any n m M c k W (by omega) (by have := HN.out; omega) (HGC.out c))
          rw [HMM.out c] at HH
          clear h2
          cases hb1 : (xs.getD c 0).toNat.testBit k
          · have HNX : Hid (filUp xs n F F.length = false) := Lib.hid (hno (by rw [hat, hb1]) hlt)
            rw [hb1] at HH
            clear hup hno hat hb1
            go_wp2_with fail
            refine (HI.out _).mono ?_
            rintro e w2 ⟨rfl, hb2⟩
            have HL2 := Lib.hid (HL.out.kept hb2)
            obtain ⟨e0, e1, e2, e3, e4, e5, e6, e7, _⟩ := HL2.out.ownHas.eight
            clear hb2 g0 g1 g2 g3 g4 g5 g6 g7 HL
            go_wp2_with fail
            refine (HH.out _).mono ?_
            rintro e w3 ⟨rfl, hb2⟩
            have HB := Lib.hid (HL2.out.kept hb2).below
            clear hb2 e0 e1 e2 e3 e4 e5 e6 e7
            go_wp2_with fail
            go_ret
            exact ⟨ret_bool (by rw [HNX.out]), HB.out⟩
          · have HNX : Hid (filUp xs n F (k + 1) = true) := Lib.hid (by rw [hup, hat, hb1])
            rw [hb1] at HH
            clear hup hno hat hb1
            go_wp2_with fail
            refine (HI.out _).mono ?_
            rintro e w2 ⟨rfl, hb2⟩
            have HL2 := Lib.hid (HL.out.kept hb2)
            obtain ⟨e0, e1, e2, e3, e4, e5, e6, e7, _⟩ := HL2.out.ownHas.eight
            clear hb2 g0 g1 g2 g3 g4 g5 g6 g7 HL
            go_wp2_with fail
            refine (HH.out _).mono ?_
            rintro e w3 ⟨rfl, hb2⟩
            have HL3 := Lib.hid (HL2.out.kept hb2)
            clear hb2 e0 e1 e2 e3 e4 e5 e6 e7 HL2
            go_wp2_with fail
            go_roundw
            case rel => exact ⟨k + 1, by omega, by go_num, HNX, HL3.out⟩
            case measure => simp [intOf]; omega
        · rw [insB_no (by omega)] at HI
          have HNX : Hid (filUp xs n F F.length = false) := Lib.hid (hno (by rw [hat, inB_no (by omega)]; rfl) hlt)
          clear hup hno hat h2
          go_wp2_with fail
          refine (HI.out _).mono ?_
          rintro e w2 ⟨rfl, hb2⟩
          have HB := Lib.hid (HL.out.kept hb2).below
          clear hb2 g0 g1 g2 g3 g4 g5 g6 g7
          go_wp2_with fail
          go_ret
          exact ⟨ret_bool (by rw [HNX.out]), HB.out⟩
    · obtain rfl : k = F.length := by omega
      clear L
      go_wp2_with fail
      go_ret
      exact ⟨ret_bool (by rw [HU.out]), HL.out.below⟩
end Go.Proofs.Ytakdiiccdkjjcac
end
