/- Equal lists, both texts. No condition but the sizes. -/
import Derived.Test.YtmhlpaenfknofaaI
import Derived.Test.YtmhlpaenfknofaaT2
namespace Go.Proofs.Ytmhlpaenfknofaa
open Go.RowKit Go.WideShapes

theorem own_rd {w : World} {lo : Nat} {a : Option Addr} {p : Nat} {xs : List Int} (h : Own w lo (.slice a xs.length p) xs) : Reads w a xs.length xs := by
  obtain ⟨a', p', e, hr⟩ := h.reads
  injection e with e1 e2 e3
  subst e1
  exact hr

set_option maxRecDepth 100000 in
set_option maxHeartbeats 800000 in
theorem l1Same_any (a a' : Option Addr) (n n' cap cap' : Nat) (xs ys : List Int) (w : World) (hx : xs.length ≤ 1048576) (hn : xs.length = n) (hn' : ys.length = n')
    (h1 : Reads w a n xs) (h2 : Reads w a' n' ys) :
    Calls Try.prog 62 #[.slice a n cap, .slice a' n' cap'] w fun e w' => e = .returned (.bool (decide (xs = ys))) ∧ Drawn w w' := by
  subst hn hn'
  by_cases hl : xs.length = ys.length
  · have hle : ys.length ≤ xs.length := by omega
    have hge : xs.length ≤ ys.length := by omega
    have hne' : ((xs.length : Int) != ys.length) = false := by simp [hl]
    have Hl := Lib.hid hl; clear hl
    go_enter Try.func62, Try.ntmps62
    go_wp2
    go_loopw [13] (fun i wr => ∃ k : Nat, k ≤ xs.length ∧ i = .int .i64 k ∧ Hid (xs.take k = ys.take k) ∧ Drawn w wr) (fun i _ => xs.length - (intOf i).toNat)
    case atStart => exact ⟨0, Nat.zero_le _, rfl, (rfl : xs.take 0 = ys.take 0), 0, rfl⟩
    case round =>
      obtain ⟨k, hk, rfl, HE, n, rfl⟩ := hrel
      by_cases hlt : k < xs.length
      · obtain ⟨b, off, rfl, hb, hc⟩ := reads_row h1 (by omega)
        obtain ⟨b', off', rfl, hb', hc'⟩ := reads_row h2 (by omega)
        have hck := hc k hlt
        have hck' := hc' k (by omega)
        clear hc hc'
        have hne0 : xs.getD k 0 ≠ ys.getD k 0 → decide (xs = ys) = false := fun he => by rw [decide_eq_false_iff_not]; exact fun h => he (by rw [h])
        have heq0 := eq_upto_succ xs ys k hlt (by omega) HE.out
        have hk0 : (0 : Int) ≤ k := by omega
        have hk1 : (k : Int) < xs.length := by omega
        have hk2 : (k : Int) < ys.length := by omega
        generalize xs.getD k 0 = x at *
        generalize ys.getD k 0 = y at *
        by_cases he : x = y
        · have HN := Lib.hid (heq0 he)
          clear heq0 hne0
          subst he
          have hxx : (x != x) = false := by simp
          go_wp2
          go_quiet (fail)
          go_wp2
          go_roundw
          case rel => exact ⟨k + 1, by omega, by go_num, HN.out, _, rfl⟩
          case measure => simp [intOf]; omega
        · have hne : (x == y) = false := by rw [beq_eq_false_iff_ne]; exact he
          have hne2 : (x != y) = true := by simp [he]
          have Hd := Lib.hid (hne0 he); clear hne0 heq0 he
          go_wp2
          go_quiet (fail)
          go_wp2
          go_ret
          exact ⟨ret_bool Hd.out.symm, drawn2 _ _ _⟩
      · have hd : decide (xs = ys) = true := by
          have h := HE.out
          obtain rfl : k = xs.length := by omega
          rw [List.take_length, Hl.out, List.take_length] at h
          simpa using h
        have Hd := Lib.hid hd; clear hd
        go_wp2
        go_ret
        exact ⟨ret_bool Hd.out.symm, n, rfl⟩
  · have hd : decide (xs = ys) = false := by rw [decide_eq_false_iff_not]; exact fun h => hl (by rw [h])
    have Hd := Lib.hid hd; clear hd
    have hne' : ((xs.length : Int) != ys.length) = true := by simp; omega
    go_enter Try.func62, Try.ntmps62
    go_wp2
    go_ret
    exact ⟨ret_bool Hd.out.symm, Drawn.refl _⟩

end Go.Proofs.Ytmhlpaenfknofaa
