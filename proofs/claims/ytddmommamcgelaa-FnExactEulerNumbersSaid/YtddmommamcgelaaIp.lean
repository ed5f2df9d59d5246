/- Euler's numbers, in the program: a list whose row has one cell more. No condition. -/
import Derived.Test.YtddmommamcgelaaIo
namespace Go.Proofs.Ytddmommamcgelaa
open Go.RowKit Go.WideShapes

set_option maxHeartbeats 800000 in
theorem clip_any (g n p : Nat) (w : World) (hp : n ≤ p) : Calls Try.prog 53 #[.slice (some ⟨g, 0, none⟩) n p] w fun e w' => e = .returned (.slice (some ⟨g, 0, none⟩) n n) ∧ w' = w := by
  have h0 : (0 : Int) ≤ n := by omega
  have h1 : (n : Int) ≤ p := by omega
  go_enter Try.func53, Try.ntmps53
  go_wp2_with fail
  go_ret
  exact ⟨rfl, rfl⟩

theorem implEul_no (n : Int) (w : World) (hg : inB 1 n 10 = false) : Calls Try.prog 18 #[.int .i64 n] w fun e w' => e = .returned (.tuple #[.slice none 0 0, .bool false]) ∧ w' = w := by
  have hno : ¬ (1 ≤ n ∧ n ≤ 10) := fun h => by rw [inB_yes h.1 h.2] at hg; cases hg
  clear hg
  by_cases a : n < 1
  · clear hno
    go_enter Try.func18, Try.ntmps18
    go_wp2_with fail
    go_ret2
    exact ⟨rfl, rfl⟩
  · have b : 10 < n := by omega
    clear hno
    go_enter Try.func18, Try.ntmps18
    go_wp2_with fail
    go_ret2
    exact ⟨rfl, rfl⟩
/-- .. a list and one cell more behind it. -/
def Clip (w : World) (lo : Nat) (v : Value) (xs : List Int) : Prop := ∃ g q z, v = .slice (some ⟨g, 0, none⟩) xs.length xs.length ∧ Own w lo (.slice (some ⟨g, 0, none⟩) (xs.length + 1) q) (xs ++ [z])
set_option maxRecDepth 100000 in
set_option maxHeartbeats 1600000 in
theorem implEul_yes (n : Int) (w : World) (hg : inB 1 n 10 = true) : Calls Try.prog 18 #[.int .i64 n] w fun e w' => ∃ v, e = .returned (.tuple #[v, .bool true]) ∧ Clip w' w.heap.size v (lstL n.toNat (eul n.toNat)) ∧ Below w.heap.size w w' := by
  obtain ⟨h1, h2⟩ := inB_iff.1 hg
  obtain ⟨m, rfl⟩ := Int.eq_ofNat_of_zero_le (show 0 ≤ n by omega)
  rw [Int.toNat_natCast]
  have hm10 : m ≤ 10 := by omega
  have hm1 : 1 ≤ m := by omega
  have HC := Lib.hid (hitsBy_any m 54 aboveR (stir m) w (by omega) (fun _ _ => by kernel_rfl) (fun r c _ _ W => above_any m r c W) (fun j _ => by rw [← wR_above m m 0 j (by omega)]) (fun j hj => small_abs m j (stir m) hm10 hj (stir_bd m j hm10 (by omega))))
  have HE := Lib.hid (show lstH (m + 1) (hitF m (stir m)) = lstL m (eul m) ++ [hitF m (stir m) m] by
    have e : lstH (m + 1) (hitF m (stir m)) = lstH m (hitF m (stir m)) ++ [hitF m (stir m) m] := by simp [lstH, List.range_succ]
    rw [e]
    congr 1
    exact lstH_congr m _ _ (fun k hk => eul_hits m k hm1 hm10 hk))
  have HLL := Lib.hid (lstL_len m (eul m))
  generalize hitF m (stir m) m = z at *
  generalize lstL m (eul m) = ys at *
  have i1 : ¬ (m : Int) < 1 := by omega
  have i2 : ¬ (10 : Int) < m := by omega
  have i3 : (0 : Int) ≤ m := by omega
  clear hg h1 h2 hm1 hm10
  go_enter Try.func18, Try.ntmps18
  go_wp2_with fail
  refine HC.out.mono ?_
  rintro e w1 ⟨g, p, rfl, hO, hb⟩
  rw [HE.out] at hO
  have hpc : m + 1 ≤ p := by
    rcases hO.cases with ⟨e, _⟩ | ⟨g', cap, e, _, _, h3, _⟩
    · cases e
    · injection e with _ _ e3
      rw [List.length_append, HLL.out] at h3
      simp at h3
      omega
  have hpI : (m : Int) ≤ p := by omega
  have HCL := Lib.hid (fun W => clip_any g m p W (by omega))
  have HO := Lib.hid (And.intro hO hb)
  clear hO hb HC
  go_wp2_with fail
  refine (HCL.out _).mono ?_
  rintro e w2 ⟨rfl, rfl⟩
  go_wp2_with fail
  go_ret2
  refine ⟨_, rfl, ⟨g, p, z, ?_, ?_⟩, HO.out.2⟩
  · rw [HLL.out]; rfl
  · rw [HLL.out]; exact HO.out.1

theorem clip_reads {w : World} {lo g q : Nat} {z : Int} {xs : List Int} (h : Own w lo (.slice (some ⟨g, 0, none⟩) (xs.length + 1) q) (xs ++ [z])) : Reads w (some ⟨g, 0, none⟩) xs.length xs := by
  have hl : (xs ++ [z]).length = xs.length + 1 := by simp
  refine ⟨rfl, .inr ⟨g, 0, rfl, ?_, fun j hj => ?_⟩⟩
  · rcases h.cases with ⟨e, _⟩ | ⟨g', cap, e, _, h2, _⟩
    · cases e
    · injection e with e1 _ _
      injection e1 with e1
      injection e1 with e1
      omega
  · have := Own.cell (by rw [hl]; exact h) j (by omega)
    rw [Nat.zero_add, this]
    simp [List.getD, List.getElem?_append_left hj]
set_option maxHeartbeats 800000 in
theorem markC_row (lo g cap : Nat) (xs : List Int) (z : Int) (m : Int) (w : World) (hx : xs.length ≤ 1048576) (h0 : 0 ≤ m) (h1 : m ≤ 4294967296)
    (hO : Own w lo (.slice (some ⟨g, 0, none⟩) (xs.length + 1) cap) (xs ++ [z])) :
    Calls Try.prog 20 #[.slice (some ⟨g, 0, none⟩) xs.length xs.length, .int .i64 m] w fun e w' => e = .returned (.int .i64 (m + xs.length)) ∧
      Own w' lo (.slice (some ⟨g, 0, none⟩) (xs.length + 1) cap) (run m xs.length ++ [z]) ∧ Only g w w' := by
  go_enter Try.func20, Try.ntmps20
  go_wp2
  go_loopw [1, 5] (fun q i wr => ∃ k : Nat, k ≤ xs.length ∧ i = .int .i64 k ∧ q = .int .i64 (m + k) ∧ Own wr lo (.slice (some ⟨g, 0, none⟩) (xs.length + 1) cap) (marked xs m k ++ [z]) ∧ Only g w wr) (fun _ i _ => xs.length - (intOf i).toNat)
  case atStart => exact ⟨0, Nat.zero_le _, rfl, by simp, by rw [marked_zero]; exact hO, World.grownBy.refl _ _⟩
  case round =>
    obtain ⟨k, hk, rfl, rfl, hOr, hBr⟩ := hrel
    clear hO
    by_cases hlt : k < xs.length
    · have hpl : (marked xs m k ++ [z]).length = xs.length + 1 := by rw [List.length_append, marked_len xs m k hk]; rfl
      have hcy := Own.cell (by rw [hpl]; exact hOr) k (by omega)
      have hfy := Own.free (by rw [hpl]; exact hOr) k
      have HL := Lib.hid hpl
      have hs := own_store hOr HL.out k (m + k)
      rw [List.set_append_left _ _ (by rw [marked_len xs m k hk]; exact hlt), marked_step xs m k hlt] at hs
      have HS := Lib.hid hs
      have HB := Lib.hid (World.ownsRow.stored (by unfold Own at hOr; rw [HL.out] at hOr; exact hOr) k (.int .i64 (m + k))).2
      clear hOr hpl hs
      go_wp2
      go_roundw
      case rel => exact ⟨k + 1, by omega, by go_num, by go_num, HS.out, grownBy_trans hBr HB.out⟩
      case measure => simp [intOf]; omega
    · go_wp2
      go_ret
      obtain rfl : k = xs.length := by omega
      rw [marked_full] at hOr
      exact ⟨rfl, hOr, hBr⟩
set_option maxHeartbeats 800000 in
theorem heldC_any (a : Option Addr) (cap : Nat) (n : Nat) (m : Int) (w : World) (hn : n ≤ 1048576) (h0 : 0 ≤ m) (h1 : m ≤ 4294967296) (hr : Reads w a n (run m n)) :
    Calls Try.prog 21 #[.slice a n cap, .int .i64 m] w fun e w' => e = .returned (.int .i64 (m + n)) ∧ Drawn w w' := by
  go_enter Try.func21, Try.ntmps21
  go_wp2
  go_loopw [1, 5] (fun q i wr => ∃ k : Nat, k ≤ n ∧ i = .int .i64 k ∧ q = .int .i64 (m + k) ∧ Drawn w wr) (fun _ i _ => n - (intOf i).toNat)
  case atStart => exact ⟨0, Nat.zero_le _, rfl, by simp, Drawn.refl _⟩
  case round =>
    obtain ⟨k, hk, rfl, rfl, d, rfl⟩ := hrel
    by_cases hlt : k < n
    · obtain ⟨b, off, rfl, hb, hc⟩ := reads_row hr (by omega)
      have hck := hc k hlt
      rw [run_get m n k hlt] at hck
      clear hc
      go_wp2
      go_roundw
      case rel => exact ⟨k + 1, by omega, by go_num, by go_num, _, rfl⟩
      case measure => simp [intOf]; omega
    · go_wp2
      go_ret
      obtain rfl : k = n := by omega
      exact ⟨rfl, _, rfl⟩
end Go.Proofs.Ytddmommamcgelaa
