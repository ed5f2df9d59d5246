/- The board with all cells, in both texts. No condition. -/
import Derived.Test.YtakdiiccdkjjcacD
import Derived.Test.YtakdiiccdkjjcacE
namespace Go.Proofs.Ytakdiiccdkjjcac
open Go.RowKit Go.WideShapes

def fullB (r c : Int) : BR := if inB 1 r 6 && inB 1 c 6 then ⟨r, c, List.replicate r.toNat (pw c - 1), true⟩ else BR.zero

set_option maxHeartbeats 800000 in
theorem boEmpty_any (n m : Nat) (w : World) (hn : n ≤ 6) :
    Calls Try.prog 133 #[.int .i64 n, .int .i64 m] w fun e w' => ∃ s, e = .returned (.agg #[.int .i64 n, .int .i64 m, s]) ∧ Own w' w.heap.size s (List.replicate n 0) ∧ Below w.heap.size w w' := by
  have hmk := run_make_row' (P := Try.prog) 22 3 (.int .i64 0) 8 Try.underlying22 Try.infoI rfl .i64 .i64 n (by omega) (by omega)
  go_enter Try.func133, Try.ntmps133
  go_wp2
  refine bodyPost_ret (v := .agg #[.int .i64 n, .int .i64 m, .slice (some ⟨w.heap.size + 1, 0, none⟩) n n]) (by simp [results, Try.results133, go_sem] <;> omega) rfl ⟨_, rfl, ?_, ?_⟩
  · exact own_made _ n _ _ (by simp) (by omega) (by omega)
  · exact below_on (below_new _) (below_new _)


theorem rowM_full (m : Nat) : (rowM (fun _ => true) m : Int) = pw m - 1 := by
  have h : rowM (fun _ => true) m + 1 = 2 ^ m := by
    induction m with
    | zero => rfl
    | succ m ih => rw [rowM, Nat.pow_succ]; simp; omega
  unfold pw
  rw [Int.toNat_natCast]
  have : ((2 ^ m : Nat) : Int) = 2 ^ m := by simp
  omega
theorem full_cells (n m : Nat) (hn : n ≤ 6) : (([0, 1, 2, 3, 4, 5].take n).map fun k => (rowM ((fun _ _ => true : Nat → Nat → Bool) k) m : Int)) = List.replicate n (pw m - 1) := by
  simp only [rowM_full]
  have : n = 0 ∨ n = 1 ∨ n = 2 ∨ n = 3 ∨ n = 4 ∨ n = 5 ∨ n = 6 := by omega
  rcases this with rfl | rfl | rfl | rfl | rfl | rfl | rfl <;> rfl

theorem full1_any (i j : Nat) (w : World) : Calls Try.prog 124 (#[] ++ (#[.int .i64 i, .int .i64 j] ++ #[])) w fun e w' => e = .returned (.bool ((fun _ _ => true : Nat → Nat → Bool) i j)) ∧ Below w.heap.size w w' := by
  show Calls Try.prog 124 #[.int .i64 i, .int .i64 j] w _
  go_enter Try.func124, Try.ntmps124
  go_wp2
  go_ret
  exact ⟨rfl, Below.refl _ _⟩

set_option maxHeartbeats 800000 in
theorem implFull_any (r c : Int) (w : World) : Calls Try.prog 64 #[.int .i64 r, .int .i64 c] w fun e w' => AnsB (fullB r c) w e w' := by
  cases h1 : inB 1 r 6
  · have HF := Lib.hid (show fullB r c = BR.zero by simp [fullB, h1])
    have C1 := Lib.hid (at_bool (isSide_any r) h1)
    clear h1
    go_enter Try.func64, Try.ntmps64
    go_wp2_with (go_at_call 123; with_reducible refine (C1.out _).mono ?_; rintro e w' ⟨rfl, rfl⟩)
    rw [HF.out]
    refine bodyPost_ret (v := .tuple #[.agg #[.int .i64 0, .int .i64 0, .slice none 0 0], .bool false]) (by simp [results, Try.results64, go_sem]) rfl ⟨_, rfl, Own.nil _ _, below_new _⟩
  · cases h2 : inB 1 c 6
    · have HF := Lib.hid (show fullB r c = BR.zero by simp [fullB, h2])
      have C1 := Lib.hid (at_bool (isSide_any r) h1)
      have C2 := Lib.hid (at_bool (isSide_any c) h2)
      clear h1 h2
      go_enter Try.func64, Try.ntmps64
      go_wp2_with (first | (go_at_call 123; ((with_reducible refine (C1.out _).mono ?_); rintro e w' ⟨rfl, rfl⟩)) | (go_at_call 123; ((with_reducible refine (C2.out _).mono ?_); rintro e w' ⟨rfl, rfl⟩)))
      rw [HF.out]
      refine bodyPost_ret (v := .tuple #[.agg #[.int .i64 0, .int .i64 0, .slice none 0 0], .bool false]) (by simp [results, Try.results64, go_sem]) rfl ⟨_, rfl, Own.nil _ _, below_new _⟩
    · have HF := Lib.hid (show fullB r c = ⟨r, c, List.replicate r.toNat (pw c - 1), true⟩ by simp [fullB, h1, h2])
      have C1 := Lib.hid (at_bool (isSide_any r) h1)
      have C2 := Lib.hid (at_bool (isSide_any c) h2)
      have hr := inB_iff.1 h1
      have hc := inB_iff.1 h2
      obtain ⟨n, rfl⟩ := Int.eq_ofNat_of_zero_le (show 0 ≤ r by omega)
      obtain ⟨m, rfl⟩ := Int.eq_ofNat_of_zero_le (show 0 ≤ c by omega)
      rw [Int.toNat_natCast] at HF
      have E0 := (Env.start w).box (.int .i64 0) (.int .i64 0) (.slice none 0 0) 28
      clear h1 h2
      go_enter Try.func64, Try.ntmps64
      go_wp2_with (first | (go_at_call 123; ((with_reducible refine (C1.out _).mono ?_); rintro e w' ⟨rfl, rfl⟩)) | (go_at_call 123; ((with_reducible refine (C2.out _).mono ?_); rintro e w' ⟨rfl, rfl⟩)))
      refine (drawBoard_any n m 124 #[] #[] (fun _ _ => true) _ (by omega) (by omega) (fun _ _ => by kernel_rfl) (fun i j w' _ _ _ => full1_any i j w')).mono ?_
      rintro e w1 ⟨s, rfl, hO, hb⟩
      rw [full_cells n m (by omega)] at hO
      have E1 := E0.own hb hO
      clear E0 hO hb
      obtain ⟨_, _, m0, m1, m2, mf⟩ := E1.boxes (w.heap.size, .int .i64 0, .int .i64 0, .slice none 0 0) (by simp)
      have hO : Own w1 w.heap.size s (List.replicate n (pw m - 1)) := E1.owns (s, _) (by simp)
      obtain ⟨a1, cap1, hs, _⟩ := hO.reads
      rw [List.length_replicate] at hs
      subst hs
      have hgb := E1.disb (.slice a1 n cap1, List.replicate n (pw m - 1)) (by simp) (w.heap.size, .int .i64 0, .int .i64 0, .slice none 0 0) (by simp)
      have hB := E1.below
      have HB := Lib.hid hB; have HO := Lib.hid hO; have HG := Lib.hid hgb
      clear E1 hB hO hgb
      go_wp2_with fail
      rw [HF.out]
      refine bodyPost_ret (v := .tuple #[.agg #[.int .i64 n, .int .i64 m, .slice a1 n cap1], .bool true]) (by simp [results, Try.results64, go_sem, m0, m1, m2]) rfl ⟨_, rfl, ?_, ?_⟩
      · exact ((HO.out.off HG.out _).off HG.out _).off HG.out _
      · have hB := HB.out
        repeat (refine Below.setCell ?_ (by simp <;> omega) _)
        exact hB

theorem fullB_len (r c : Int) : (fullB r c).xs.length ≤ 1048576 := by
  unfold fullB
  split
  · rename_i h
    rw [Bool.and_eq_true, inB_iff] at h
    simp; omega
  · simp [BR.zero]

end Go.Proofs.Ytakdiiccdkjjcac
