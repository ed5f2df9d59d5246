/- The law's helpers on boards: sizes, copies, comparison, marks. No condition but the sizes. -/
import Derived.Test.YtmhlpaenfknofabA
namespace Go.Proofs.Ytmhlpaenfknofab
open Go.RowKit

set_option maxHeartbeats 800000 in
theorem szBoard_any (r c : Int) (a : Option Addr) (len cap : Nat) (left : Int) (w : World) (hl : len ≤ 9223372036854775807) (h0 : 0 ≤ left) (h1 : left ≤ 1048576) :
    Calls Try.prog 27 #[.agg #[.int .i64 r, .int .i64 c, .slice a len cap], .int .i64 left] w fun e w' => e = .returned (.int .i64 (szN left len)) ∧ Below w.heap.size w w' := by
  have hs : szN left len = -1 ∨ 0 ≤ szN left len := by unfold szN; split <;> omega
  generalize hz : szN left len = z at *
  have Hz := Lib.hid hz; clear hz
  rcases hs with rfl | hs
  · go_enter Try.func27, Try.ntmps27
    go_wp2_with (go_at_call 45; refine (szIntS_any _ _ _ _ _ hl h0 h1).mono ?_; rintro e w' ⟨rfl, rfl⟩; rw [Hz.out])
    go_ret
    exact ⟨rfl, (Below.refl _ _).alloc (Nat.le_refl _) _⟩
  · go_enter Try.func27, Try.ntmps27
    go_wp2_with (go_at_call 45; refine (szIntS_any _ _ _ _ _ hl h0 h1).mono ?_; rintro e w' ⟨rfl, rfl⟩; rw [Hz.out])
    go_ret
    exact ⟨rfl, (Below.refl _ _).alloc (Nat.le_refl _) _⟩

/-- v is a board value of the call's own: its numbers and its cells. -/
def OwnB (w : World) (lo : Nat) (v : Value) (r c : Int) (xs : List Int) : Prop := ∃ s, v = .agg #[.int .i64 r, .int .i64 c, s] ∧ Own w lo s xs

set_option maxHeartbeats 800000 in
theorem toBoard_any (r c : Int) (a : Option Addr) (len cap : Nat) (zs : List Int) (w : World) (hl : len ≤ 1048576) (hr : Reads w a len zs) :
    Calls Try.prog 29 #[.agg #[.int .i64 r, .int .i64 c, .slice a len cap]] w fun e w' => ∃ v, e = .returned v ∧ OwnB w' w.heap.size v r c zs ∧ Below w.heap.size w w' := by
  go_enter Try.func29, Try.ntmps29
  go_wp2_with fail
  refine (toIntS_any a len cap zs _ hl (hr.kept ?hb)).mono ?_
  case hb => exact (((Below.refl _ _).alloc (Nat.le_refl _) _).alloc (by simp <;> omega) _).alloc (by simp <;> omega) _
  rintro e w1 ⟨v, rfl, hO, hB⟩
  obtain ⟨a1, cap1, rfl, _⟩ := hO.reads
  obtain ⟨hc, hf⟩ := bcell hB
  have hz := hB.size
  simp only [World.size_alloc] at hz
  go_wp2
  refine bodyPost_ret (v := .agg #[.int .i64 r, .int .i64 c, .slice a1 zs.length cap1]) (by simp [results, Try.results29, go_sem, hc]) rfl ⟨_, rfl, ⟨_, rfl, ?_⟩, ?_⟩
  · simp only [World.size_alloc] at hO
    exact ((((hO.set (by simp <;> omega) _).set (by simp <;> omega) _).set (by simp <;> omega) _).set (by simp <;> omega) _).lower (by omega)
  · exact ((((((Below.refl _ _).alloc (Nat.le_refl _) _).alloc (by simp <;> omega) _).alloc (by simp <;> omega) _).trans (hB.mono (by simp <;> omega))).setCell (by simp <;> omega) _ |>.setCell (by simp <;> omega) _ |>.setCell (by simp <;> omega) _).setCell (by simp <;> omega) _

set_option maxHeartbeats 800000 in
theorem eqBoard_any (r c r' c' : Int) (xs ys : List Int) (lo lo' : Nat) (v v' : Value) (w : World) (hx : xs.length ≤ 1048576) (hy : ys.length ≤ 1048576)
    (h1 : OwnB w lo v r c xs) (h2 : OwnB w lo' v' r' c' ys) :
    Calls Try.prog 31 #[v, v'] w fun e w' => e = .returned (.bool (decide (r = r' ∧ c = c' ∧ xs = ys))) ∧ Below w.heap.size w w' := by
  obtain ⟨s, rfl, hO⟩ := h1
  obtain ⟨s', rfl, hO'⟩ := h2
  obtain ⟨a, cap, rfl, hr⟩ := hO.reads
  obtain ⟨a', cap', rfl, hr'⟩ := hO'.reads
  clear hO hO'
  have hd1 : r ≠ r' → decide (r = r' ∧ c = c' ∧ xs = ys) = false := fun h => by simp [h]
  have hd2 : c ≠ c' → decide (r = r' ∧ c = c' ∧ xs = ys) = false := fun h => by simp [h]
  have hd3 : r = r' → c = c' → decide (r = r' ∧ c = c' ∧ xs = ys) = decide (xs = ys) := fun h h' => by simp [h, h']
  generalize decide (r = r' ∧ c = c' ∧ xs = ys) = d at *
  by_cases e1 : r = r'
  · by_cases e2 : c = c'
    · obtain rfl := hd3 e1 e2
      clear hd1 hd2
      subst e1 e2
      have hb : Below w.heap.size w ((w.alloc (.cells #[.int .i64 r, .int .i64 c, .slice a xs.length cap] 45)).alloc (.cells #[.int .i64 r, .int .i64 c, .slice a' ys.length cap'] 45)) := ((Below.refl _ _).alloc (Nat.le_refl _) _).alloc (by simp <;> omega) _
      have hr1 := hr.kept hb
      have hr1' := hr'.kept hb
      clear hd3
      cases hq : decide (xs = ys)
      all_goals
        have Hq := Lib.hid hq; clear hq
        go_enter Try.func31, Try.ntmps31
        go_wp2_with (go_at_call 13; refine (eqIntS_any _ _ _ _ _ _ _ hx hy hr1 hr1').mono ?_; rintro e w' ⟨rfl, n, rfl⟩; rw [Hq.out])
        go_ret
        exact ⟨rfl, below_drewN hb n⟩
    · obtain rfl := hd2 e2
      clear hd1 hd2 hd3
      subst e1
      have e2' : (c == c') = false := by rw [beq_eq_false_iff_ne]; exact e2
      go_enter Try.func31, Try.ntmps31
      go_wp2_with fail
      go_ret
      exact ⟨rfl, ((Below.refl _ _).alloc (Nat.le_refl _) _).alloc (by simp) _⟩
  · obtain rfl := hd1 e1
    clear hd1 hd2 hd3
    have e1' : (r == r') = false := by rw [beq_eq_false_iff_ne]; exact e1
    go_enter Try.func31, Try.ntmps31
    go_wp2_with fail
    go_ret
    exact ⟨rfl, ((Below.refl _ _).alloc (Nat.le_refl _) _).alloc (by simp <;> omega) _⟩

theorem eqBoard_same (r c : Int) (xs : List Int) (lo lo' : Nat) (s s' : Value) (w : World) (hx : xs.length ≤ 1048576) (h1 : Own w lo s xs) (h2 : Own w lo' s' xs) :
    Calls Try.prog 31 #[.agg #[.int .i64 r, .int .i64 c, s], .agg #[.int .i64 r, .int .i64 c, s']] w fun e w' => e = .returned (.bool true) ∧ Below w.heap.size w w' := by
  have h := eqBoard_any r c r c xs xs lo lo' _ _ w hx hx ⟨s, rfl, h1⟩ ⟨s', rfl, h2⟩
  simpa using h

set_option maxHeartbeats 800000 in
theorem markBoard_any (r c : Int) (lo : Nat) (xs : List Int) (m : Int) (s : Value) (w : World) (hx : xs.length ≤ 1048576) (h0 : 0 ≤ m) (h1 : m ≤ 4294967296) (hO : Own w lo s xs) :
    Calls Try.prog 32 #[.agg #[.int .i64 r, .int .i64 c, s], .int .i64 m] w fun e w' => e = .returned (.int .i64 (m + xs.length)) ∧ Own w' lo s (run m xs.length) ∧ w.grownBy w' s.ownBlock := by
  have hb : Below w.heap.size w (w.alloc (.cells #[.int .i64 r, .int .i64 c, s] 45)) := (Below.refl _ _).alloc (Nat.le_refl _) _
  have hO1 := hO.kept hb
  have hg := World.grownBy_alloc w (.cells #[.int .i64 r, .int .i64 c, s] 45) s.ownBlock
  obtain ⟨a, cap, rfl, _⟩ := hO.reads
  go_enter Try.func32, Try.ntmps32
  go_wp2_with (go_at_call 14; refine (markIntS_any lo _ xs _ _ hx h0 h1 hO1).mono ?_; rintro e w' ⟨rfl, hO2, hg2⟩)
  go_ret
  exact ⟨rfl, hO2, grownBy_trans hg hg2⟩

end Go.Proofs.Ytmhlpaenfknofab
