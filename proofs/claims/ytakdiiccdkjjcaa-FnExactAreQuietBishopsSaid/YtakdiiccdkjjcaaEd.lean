/- The diagonals of a colour, in the specification. No condition but the sizes. -/
import Derived.Test.YtakdiiccdkjjcaaEb
import Derived.Test.YtakdiiccdkjjcaaEc
import Derived.Test.YtakdiiccdkjjcaaGp
namespace Go.Proofs.Ytakdiiccdkjjcaa
open Go.RowKit Go.WideShapes

theorem put_step {w0 w w' : World} {ts1 ts2 : List Thing} {v u : Value} {A : List Int} {x : Int} (L : Law w0 (ts1 ++ tOwn v A :: ts2) w) (hb : Below w.heap.size w w')
    (h : (putI A x = A ∧ u = v) ∨ Own w' w.heap.size u (putI A x)) : Law w0 (ts1 ++ tOwn u (putI A x) :: ts2) w' := by
  rcases h with ⟨h1, rfl⟩ | h
  · rw [h1]; exact L.kept hb
  · refine Law.perm ?_ List.perm_middle.symm
    refine Law.sub (L.own hb h) ?_
    refine List.Sublist.cons_cons _ ?_
    exact List.Sublist.append (List.Sublist.refl _) (List.sublist_cons_self _ _)

set_option maxRecDepth 100000 in
set_option maxHeartbeats 3200000 in
theorem biDiag_any (r : Int) (m : Nat) (s : Value) (i j : Nat) (w : World) (hm : m ≤ 6) (hi : i < 6) (hj : j < 6) :
    Calls Try.prog 55 #[.agg #[.int .i64 r, .int .i64 m, s], .int .i64 i, .int .i64 j] w fun e w' => e = .returned (.tuple #[.int .i64 ((i : Int) + j), .int .i64 ((i : Int) - j + m - 1)]) ∧ Below w.heap.size w w' := by
  have L0 := (Law.start w).box (.int .i64 r) (.int .i64 m) s 28
  have HL := Lib.hid L0
  clear L0
  go_enter Try.func55, Try.ntmps55
  go_upto_region 1 with fail
  generalize w.alloc _ = w1 at *
  have ⟨_, b0, b1, b2, _⟩ := HL.out.ownBox
  replace HL := Lib.hid HL.out.drew
  go_wp2_with fail
  go_region
  clear b0 b1 b2
  go_wp2_with fail
  go_ret2
  exact ⟨rfl, HL.out.below⟩
set_option maxRecDepth 100000 in
set_option maxHeartbeats 6400000 in
theorem biLines_any (n m : Nat) (s : Value) (k : Nat) (w : World) (hn : n ≤ 6) (hm : m ≤ 6) (hk : k < 2) (hs : ∃ a l c, s = .slice a l c) :
    Calls Try.prog 97 #[.agg #[.int .i64 n, .int .i64 m, s], .int .i64 k] w fun e w' => ∃ v1 v2, e = .returned (.tuple #[v1, v2]) ∧ Law w [tOwn v2 (linI m k n).2, tOwn v1 (linI m k n).1] w' := by
  have L0 := ((Law.start w).box (.int .i64 n) (.int .i64 m) s 28)
  have L1 : Law w [tOwn (.slice none 0 0) [], tOwn (.slice none 0 0) [], tBox w.heap.size (.int .i64 n) (.int .i64 m) s] (w.alloc (.cells #[.int .i64 n, .int .i64 m, s] 28)) := (L0.own (Below.refl _ _) (Own.nil _ _)).own (Below.refl _ _) (Own.nil _ _)
  obtain ⟨sa, sl, sc, rfl⟩ := hs
  have HL := Lib.hid L1
  clear L0 L1
  go_enter Try.func97, Try.ntmps97
  go_wp2_with fail
  go_loopw [6, 7, 8, 9, 10, 11] (fun v1 v2 i _ _ _ wr => ∃ p : Nat, p ≤ n ∧ i = .int .i64 p ∧ Law w [tOwn v2 (linI m k p).2, tOwn v1 (linI m k p).1, tBox w.heap.size (.int .i64 n) (.int .i64 m) (.slice sa sl sc)] wr) (fun _ _ i _ _ _ _ => n - (intOf i).toNat)
  case atStart => exact ⟨0, Nat.zero_le _, rfl, HL.out⟩
  case round =>
    clear HL
    obtain ⟨p, hp, rfl, L⟩ := hrel
    have ⟨_, b0, b1, b2, _⟩ := L.tl.tl.ownBox
    have HL := Lib.hid L
    clear L
    by_cases hpn : p < n
    · go_wp2_with fail
      clear b0 b1 b2
      go_loopw [6, 7, 9, 10, 11] (fun v1 v2 j _ _ wr => ∃ q : Nat, q ≤ m ∧ j = .int .i64 q ∧ Law w [tOwn v2 (linJ m k p (linI m k p) q).2, tOwn v1 (linJ m k p (linI m k p) q).1, tBox w.heap.size (.int .i64 n) (.int .i64 m) (.slice sa sl sc)] wr) (fun _ _ j _ _ _ => m - (intOf j).toNat)
      case atStart => exact ⟨0, Nat.zero_le _, rfl, HL.out⟩
      case round =>
        clear HL
        obtain ⟨q, hq, rfl, L⟩ := hrel
        have ⟨_, b0, b1, b2, _⟩ := L.tl.tl.ownBox
        by_cases hqm : q < m
        · by_cases hpar : (p + q) % 2 = k
          · have hd : (((p : Int) + q) % 2 == (k : Int)) = true := by rw [beq_iff_eq]; omega
            have hlen := linJ_len m k p (linI m k p) q
            have hlen2 := linI_len m k p
            have hpm : p * m ≤ 6 * 6 := Nat.mul_le_mul (by omega) hm
            have HA := Lib.hid (show (linJ m k p (linI m k p) (q + 1)) = (putI (linJ m k p (linI m k p) q).1 ((p : Int) + q), putI (linJ m k p (linI m k p) q).2 ((p : Int) - q + m - 1)) by rw [linJ, if_pos hpar])
            have HLN := Lib.hid (show (linJ m k p (linI m k p) q).1.length ≤ 1000 ∧ (linJ m k p (linI m k p) q).2.length ≤ 1000 by omega)
            clear hlen hlen2 hpm hpar
            have HDG := Lib.hid (fun W => biDiag_any n m (.slice sa sl sc) p q W hm (by omega) (by omega))
            have HL := Lib.hid L
            clear L
            generalize linJ m k p (linI m k p) q = AB at *
            go_wp2_with fail
            refine (HDG.out _).mono ?_
            rintro e w2 ⟨rfl, hb⟩
            replace HL := Lib.hid (HL.out.kept hb)
            clear hb b0 b1 b2
            go_wp2_with fail
            refine (l1Put_any AB.1 _ _ 0 _ HLN.out.1 HL.out.tl.ownInts).mono ?_
            rintro e w3 ⟨v3, rfl, hb, ho⟩
            have HL3 := Lib.hid (put_step (ts1 := [_]) HL.out hb ho)
            clear hb ho HL
            go_wp2_with fail
            refine (l1Put_any AB.2 _ _ 0 _ HLN.out.2 HL3.out.ownInts).mono ?_
            rintro e w4 ⟨v4, rfl, hb, ho⟩
            have HL4 := Lib.hid (put_step (ts1 := []) HL3.out hb ho)
            clear hb ho HL3
            go_wp2_with fail
            go_roundw
            case rel => exact ⟨q + 1, by omega, by go_num, by rw [HA.out]; exact HL4.out⟩
            case measure => simp [intOf]; omega
          · have hd : (((p : Int) + q) % 2 == (k : Int)) = false := by rw [beq_eq_false_iff_ne]; omega
            have HA := Lib.hid (show (linJ m k p (linI m k p) (q + 1)) = linJ m k p (linI m k p) q by rw [linJ, if_neg hpar])
            have HL := Lib.hid L
            clear L hpar
            go_wp2_with fail
            clear b0 b1 b2
            go_roundw
            case rel => exact ⟨q + 1, by omega, by go_num, by rw [HA.out]; exact HL.out⟩
            case measure => simp [intOf]; omega
        · obtain rfl : q = m := by omega
          have HL := Lib.hid L
          clear L
          go_wp2_with fail
          clear b0 b1 b2
          go_roundw
          case rel => exact ⟨p + 1, by omega, by go_num, HL.out⟩
          case measure => simp [intOf]; omega
    · obtain rfl : p = n := by omega
      go_wp2_with fail
      go_ret2
      exact ⟨_, _, rfl, HL.out.sub (by simp)⟩

end Go.Proofs.Ytakdiiccdkjjcaa
