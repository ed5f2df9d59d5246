/- The board with all cells, in both texts. No condition. -/
import Derived.Test.YtakdiiccdkjjcaaD
import Derived.Test.YtakdiiccdkjjcaaE
namespace Go.Proofs.Ytakdiiccdkjjcaa
open Go.RowKit Go.WideShapes

def fullB (r c : Int) : BR := if inB 1 r 6 && inB 1 c 6 then ⟨r, c, List.replicate r.toNat (pw c - 1), true⟩ else BR.zero

set_option maxHeartbeats 800000 in
theorem boEmpty_any (n m : Nat) (w : World) (hn : n ≤ 6) :
    Calls Try.prog 98 #[.int .i64 n, .int .i64 m] w fun e w' => ∃ s, e = .returned (.agg #[.int .i64 n, .int .i64 m, s]) ∧ Own w' w.heap.size s (List.replicate n 0) ∧ Below w.heap.size w w' := by
  have hmk := run_make_row' (P := Try.prog) 22 3 (.int .i64 0) 8 Try.underlying22 Try.infoI rfl .i64 .i64 n (by omega) (by omega)
  go_enter Try.func98, Try.ntmps98
  go_wp2
  refine bodyPost_ret (v := .agg #[.int .i64 n, .int .i64 m, .slice (some ⟨w.heap.size + 1, 0, none⟩) n n]) (by simp [results, Try.results98, go_sem] <;> omega) rfl ⟨_, rfl, ?_, ?_⟩
  · exact own_made _ n _ _ (by simp) (by omega) (by omega)
  · exact below_on (below_new _) (below_new _)

set_option maxHeartbeats 800000 in
theorem boFull_any (n m : Nat) (w : World) (hn : n ≤ 6) (hn1 : 1 ≤ n) (hm : m ≤ 6) :
    Calls Try.prog 82 #[.int .i64 n, .int .i64 m] w fun e w' => ∃ s, e = .returned (.agg #[.int .i64 n, .int .i64 m, s]) ∧ Own w' w.heap.size s (List.replicate n (pw m - 1)) ∧ Below w.heap.size w w' := by
  obtain ⟨hp1, hp2, hp3, hp4⟩ := pw_bd (c := (m : Int)) (by omega)
  rw [Int.toNat_natCast] at hp3
  have E0 := (Env.start w).box (.int .i64 0) (.int .i64 0) (.slice none 0 0) 28
  go_enter Try.func82, Try.ntmps82
  go_wp2_with fail
  refine (boEmpty_any n m _ hn).mono ?_
  rintro e w1 ⟨s, rfl, hO, hb⟩
  rcases hO.cases with ⟨rfl, h0⟩ | ⟨g, cap, rfl, h1, h2, h3, h4⟩
  · have := congrArg List.length h0
    simp at this
    omega
  · rw [List.length_replicate] at hO h3 ⊢
    have E1 := (E0.own hb hO).box (.int .i64 n) (.int .i64 m) (.slice (some ⟨g, 0, none⟩) n cap) 28
    clear E0 hO hb
    have hly : (List.replicate n (pw m - 1)).length = n := by simp
    have hlx : (List.replicate n (0 : Int)).length = n := by simp
    rw [← over_zero (List.replicate n (pw m - 1)) (List.replicate n 0)] at E1
    generalize hys : List.replicate n (pw m - 1) = ys at *
    generalize List.replicate n (0 : Int) = xs at *
    have HY := Lib.hid hys; clear hys
    have HLY := Lib.hid hly; clear hly
    have HLX := Lib.hid hlx; clear hlx
    go_wp2_with fail
    go_loopw [13] (fun i wr => ∃ k : Nat, k ≤ n ∧ i = .int .i64 k ∧ Env w [(w1.heap.size, .int .i64 n, .int .i64 m, .slice (some ⟨g, 0, none⟩) n cap), (w.heap.size, .int .i64 0, .int .i64 0, .slice none 0 0)] [(.slice (some ⟨g, 0, none⟩) n cap, over ys xs k)] wr) (fun i _ => n - (intOf i).toNat)
    case atStart => exact ⟨0, Nat.zero_le _, rfl, E1⟩
    case round =>
      clear E1
      obtain ⟨k, hk, rfl, E⟩ := hrel
      obtain ⟨_, _, k0, k1, k2, _⟩ := E.boxes (w1.heap.size, .int .i64 n, .int .i64 m, .slice (some ⟨g, 0, none⟩) n cap) (by simp)
      by_cases hlt : k < n
      · have hO : Own wr w.heap.size (.slice (some ⟨g, 0, none⟩) n cap) (over ys xs k) := E.owns (_, over ys xs k) (by simp)
        have hol := over_len ys xs k n HLY.out HLX.out hk
        have hcy := Own.cell (by rw [hol]; exact hO) k (by omega)
        have hfy := Own.free (by rw [hol]; exact hO) k
        have HS := Lib.hid ((E.store (os := []) hol k (pw m - 1)).drew)
        rw [List.nil_append, over_set ys xs k n HLY.out HLX.out hlt (pw m - 1) (by rw [← HY.out]; simp [hlt])] at HS
        clear hO hol E
        go_wp2_with fail
        go_region
        go_wp2_with fail
        go_roundw
        case rel => exact ⟨k + 1, by omega, by go_num, HS.out⟩
        case measure => simp [intOf]; omega
      · obtain rfl : k = n := by omega
        obtain ⟨_, _, m0, m1, m2, mf⟩ := E.boxes (w.heap.size, .int .i64 0, .int .i64 0, .slice none 0 0) (by simp)
        go_wp2_with fail
        have hO : Own wr w.heap.size (.slice (some ⟨g, 0, none⟩) k cap) (over ys xs k) := E.owns (_, over ys xs k) (by simp)
        have hB := E.below
        rw [over_full ys xs k HLY.out HLX.out, ← HY.out] at hO
        have hgb := E.disb (.slice (some ⟨g, 0, none⟩) k cap, over ys xs k) (by simp) (w.heap.size, .int .i64 0, .int .i64 0, .slice none 0 0) (by simp)
        refine bodyPost_ret (v := .agg #[.int .i64 k, .int .i64 m, .slice (some ⟨g, 0, none⟩) k cap]) (by simp [results, Try.results82, go_sem, m0, m1, m2]) rfl ⟨_, rfl, ?_, ?_⟩
        · exact ((hO.off hgb _).off hgb _).off hgb _
        · repeat (refine Below.setCell ?_ (by simp <;> omega) _)
          exact hB

set_option maxHeartbeats 800000 in
theorem specFull_any (r c : Int) (w : World) : Calls Try.prog 45 #[.int .i64 r, .int .i64 c] w fun e w' => AnsB (fullB r c) w e w' := by
  cases h1 : inB 1 r 6
  · have HF := Lib.hid (show fullB r c = BR.zero by simp [fullB, h1])
    have C1 := Lib.hid (at_bool (boSide_any r) h1)
    clear h1
    go_enter Try.func45, Try.ntmps45
    go_wp2_with (go_at_call 81; with_reducible refine (C1.out _).mono ?_; rintro e w' ⟨rfl, rfl⟩)
    rw [HF.out]
    refine bodyPost_ret (v := .tuple #[.agg #[.int .i64 0, .int .i64 0, .slice none 0 0], .bool false]) (by simp [results, Try.results45, go_sem]) rfl ⟨_, rfl, Own.nil _ _, below_new _⟩
  · cases h2 : inB 1 c 6
    · have HF := Lib.hid (show fullB r c = BR.zero by simp [fullB, h2])
      have C1 := Lib.hid (at_bool (boSide_any r) h1)
      have C2 := Lib.hid (at_bool (boSide_any c) h2)
      clear h1 h2
      go_enter Try.func45, Try.ntmps45
      go_wp2_with (first | (go_at_call 81; ((with_reducible refine (C1.out _).mono ?_); rintro e w' ⟨rfl, rfl⟩)) | (go_at_call 81; ((with_reducible refine (C2.out _).mono ?_); rintro e w' ⟨rfl, rfl⟩)))
      rw [HF.out]
      refine bodyPost_ret (v := .tuple #[.agg #[.int .i64 0, .int .i64 0, .slice none 0 0], .bool false]) (by simp [results, Try.results45, go_sem]) rfl ⟨_, rfl, Own.nil _ _, below_new _⟩
    · have HF := Lib.hid (show fullB r c = ⟨r, c, List.replicate r.toNat (pw c - 1), true⟩ by simp [fullB, h1, h2])
      have C1 := Lib.hid (at_bool (boSide_any r) h1)
      have C2 := Lib.hid (at_bool (boSide_any c) h2)
      have hr := inB_iff.1 h1
      have hc := inB_iff.1 h2
      obtain ⟨n, rfl⟩ := Int.eq_ofNat_of_zero_le (show 0 ≤ r by omega)
      obtain ⟨m, rfl⟩ := Int.eq_ofNat_of_zero_le (show 0 ≤ c by omega)
      rw [Int.toNat_natCast] at HF
      have E0 := (Env.start w).box (.int .i64 0) (.int .i64 0) (.slice none 0 0) 28
      clear h1 h2
      go_enter Try.func45, Try.ntmps45
      go_wp2_with (first | (go_at_call 81; ((with_reducible refine (C1.out _).mono ?_); rintro e w' ⟨rfl, rfl⟩)) | (go_at_call 81; ((with_reducible refine (C2.out _).mono ?_); rintro e w' ⟨rfl, rfl⟩)))
      refine (boFull_any n m _ (by omega) (by omega) (by omega)).mono ?_
      rintro e w1 ⟨s, rfl, hO, hb⟩
      have E1 := E0.own hb hO
      clear E0 hO hb
      obtain ⟨_, _, m0, m1, m2, mf⟩ := E1.boxes (w.heap.size, .int .i64 0, .int .i64 0, .slice none 0 0) (by simp)
      have hO : Own w1 w.heap.size s (List.replicate n (pw m - 1)) := E1.owns (s, _) (by simp)
      obtain ⟨a1, cap1, hs, _⟩ := hO.reads
      rw [List.length_replicate] at hs
      subst hs
      have hgb := E1.disb (.slice a1 n cap1, List.replicate n (pw m - 1)) (by simp) (w.heap.size, .int .i64 0, .int .i64 0, .slice none 0 0) (by simp)
      have hB := E1.below
      have HB := Lib.hid hB; have HO := Lib.hid hO; have HG := Lib.hid hgb
      clear E1 hB hO hgb
      go_wp2_with fail
      rw [HF.out]
      refine bodyPost_ret (v := .tuple #[.agg #[.int .i64 n, .int .i64 m, .slice a1 n cap1], .bool true]) (by simp [results, Try.results45, go_sem, m0, m1, m2]) rfl ⟨_, rfl, ?_, ?_⟩
      · exact ((HO.out.off HG.out _).off HG.out _).off HG.out _
      · have hB := HB.out
        repeat (refine Below.setCell ?_ (by simp <;> omega) _)
        exact hB

theorem rowM_full (m : Nat) : (rowM (fun _ => true) m : Int) = pw m - 1 := by
  have h : rowM (fun _ => true) m + 1 = 2 ^ m := by
    induction m with
    | zero => rfl
    | succ m ih => rw [rowM, Nat.pow_succ]; simp; omega
  unfold pw
  rw [Int.toNat_natCast]
  have : ((2 ^ m : Nat) : Int) = 2 ^ m := by simp
  omega
theorem full_cells (n m : Nat) (hn : n ≤ 6) : (([0, 1, 2, 3, 4, 5].take n).map fun k => (rowM ((fun _ _ => true : Nat → Nat → Bool) k) m : Int)) = List.replicate n (pw m - 1) := by
  simp only [rowM_full]
  have : n = 0 ∨ n = 1 ∨ n = 2 ∨ n = 3 ∨ n = 4 ∨ n = 5 ∨ n = 6 := by omega
  rcases this with rfl | rfl | rfl | rfl | rfl | rfl | rfl <;> rfl

theorem full1_any (i j : Nat) (w : World) : Calls Try.prog 84 (#[] ++ (#[.int .i64 i, .int .i64 j] ++ #[])) w fun e w' => e = .returned (.bool ((fun _ _ => true : Nat → Nat → Bool) i j)) ∧ Below w.heap.size w w' := by
  show Calls Try.prog 84 #[.int .i64 i, .int .i64 j] w _
  go_enter Try.func84, Try.ntmps84
  go_wp2
  go_ret
  exact ⟨rfl, Below.refl _ _⟩

set_option maxHeartbeats 800000 in
theorem implFull_any (r c : Int) (w : World) : Calls Try.prog 46 #[.int .i64 r, .int .i64 c] w fun e w' => AnsB (fullB r c) w e w' := by
  cases h1 : inB 1 r 6
  · have HF := Lib.hid (show fullB r c = BR.zero by simp [fullB, h1])
    have C1 := Lib.hid (at_bool (isSide_any r) h1)
    clear h1
    go_enter Try.func46, Try.ntmps46
    go_wp2_with (go_at_call 83; with_reducible refine (C1.out _).mono ?_; rintro e w' ⟨rfl, rfl⟩)
    rw [HF.out]
    refine bodyPost_ret (v := .tuple #[.agg #[.int .i64 0, .int .i64 0, .slice none 0 0], .bool false]) (by simp [results, Try.results46, go_sem]) rfl ⟨_, rfl, Own.nil _ _, below_new _⟩
  · cases h2 : inB 1 c 6
    · have HF := Lib.hid (show fullB r c = BR.zero by simp [fullB, h2])
      have C1 := Lib.hid (at_bool (isSide_any r) h1)
      have C2 := Lib.hid (at_bool (isSide_any c) h2)
      clear h1 h2
      go_enter Try.func46, Try.ntmps46
      go_wp2_with (first | (go_at_call 83; ((with_reducible refine (C1.out _).mono ?_); rintro e w' ⟨rfl, rfl⟩)) | (go_at_call 83; ((with_reducible refine (C2.out _).mono ?_); rintro e w' ⟨rfl, rfl⟩)))
      rw [HF.out]
      refine bodyPost_ret (v := .tuple #[.agg #[.int .i64 0, .int .i64 0, .slice none 0 0], .bool false]) (by simp [results, Try.results46, go_sem]) rfl ⟨_, rfl, Own.nil _ _, below_new _⟩
    · have HF := Lib.hid (show fullB r c = ⟨r, c, List.replicate r.toNat (pw c - 1), true⟩ by simp [fullB, h1, h2])
      have C1 := Lib.hid (at_bool (isSide_any r) h1)
      have C2 := Lib.hid (at_bool (isSide_any c) h2)
      have hr := inB_iff.1 h1
      have hc := inB_iff.1 h2
      obtain ⟨n, rfl⟩ := Int.eq_ofNat_of_zero_le (show 0 ≤ r by omega)
      obtain ⟨m, rfl⟩ := Int.eq_ofNat_of_zero_le (show 0 ≤ c by omega)
      rw [Int.toNat_natCast] at HF
      have E0 := (Env.start w).box (.int .i64 0) (.int .i64 0) (.slice none 0 0) 28
      clear h1 h2
      go_enter Try.func46, Try.ntmps46
      go_wp2_with (first | (go_at_call 83; ((with_reducible refine (C1.out _).mono ?_); rintro e w' ⟨rfl, rfl⟩)) | (go_at_call 83; ((with_reducible refine (C2.out _).mono ?_); rintro e w' ⟨rfl, rfl⟩)))
      refine (drawBoard_any n m 84 #[] #[] (fun _ _ => true) _ (by omega) (by omega) (fun _ _ => by kernel_rfl) (fun i j w' _ _ _ => full1_any i j w')).mono ?_
      rintro e w1 ⟨s, rfl, hO, hb⟩
      rw [full_cells n m (by omega)] at hO
      have E1 := E0.own hb hO
      clear E0 hO hb
      obtain ⟨_, _, m0, m1, m2, mf⟩ := E1.boxes (w.heap.size, .int .i64 0, .int .i64 0, .slice none 0 0) (by simp)
      have hO : Own w1 w.heap.size s (List.replicate n (pw m - 1)) := E1.owns (s, _) (by simp)
      obtain ⟨a1, cap1, hs, _⟩ := hO.reads
      rw [List.length_replicate] at hs
      subst hs
      have hgb := E1.disb (.slice a1 n cap1, List.replicate n (pw m - 1)) (by simp) (w.heap.size, .int .i64 0, .int .i64 0, .slice none 0 0) (by simp)
      have hB := E1.below
      have HB := Lib.hid hB; have HO := Lib.hid hO; have HG := Lib.hid hgb
      clear E1 hB hO hgb
      go_wp2_with fail
      rw [HF.out]
      refine bodyPost_ret (v := .tuple #[.agg #[.int .i64 n, .int .i64 m, .slice a1 n cap1], .bool true]) (by simp [results, Try.results46, go_sem, m0, m1, m2]) rfl ⟨_, rfl, ?_, ?_⟩
      · exact ((HO.out.off HG.out _).off HG.out _).off HG.out _
      · have hB := HB.out
        repeat (refine Below.setCell ?_ (by simp <;> omega) _)
        exact hB

theorem fullB_len (r c : Int) : (fullB r c).xs.length ≤ 1048576 := by
  unfold fullB
  split
  · rename_i h
    rw [Bool.and_eq_true, inB_iff] at h
    simp; omega
  · simp [BR.zero]

end Go.Proofs.Ytakdiiccdkjjcaa
