import Derived.Test.YtdimbnkgomfojaaFold24
import Derived.Test.YtdimbnkgomfojaaFold25
import Derived.Test.YtdimbnkgomfojaaFold22
import Derived.IntWalk

section
namespace Go.Proofs.Ytdimbnkgomfojaa
open Go.RowKit Go.WideShapes

theorem shK_eq (xs : List Int) (L N : Nat) (hL : L ≤ N) (h0 : ∀ j, L ≤ j → j < N → xs.getD j 0 = 0) (h1 : 0 < L → xs.getD (L - 1) 0 ≠ 0) : shK xs N = L := by
  induction N with
  | zero => rw [shK]; omega
  | succ N ih =>
    rw [shK]
    by_cases e : L = N + 1
    · subst e
      have h2 := h1 (by omega)
      rw [Nat.add_sub_cancel] at h2
      rw [if_neg h2]
    · rw [if_pos (h0 N (by omega) (by omega)), ih (by omega) (fun j a b => h0 j a (by omega))]
theorem mR_le (m : Nat) (B : Nat → Nat → Bool) (d : Nat) : ∀ f t, mR m B d f t ≤ d := by
  induction d with
  | zero => intro f t; rw [mR]; omega
  | succ d ih =>
    intro f t
    rcases (mR_iff m B d f t (mR m B (d + 1) f t)).1 (Nat.le_refl _) with h | ⟨c, _, _, _, h⟩
    · have := ih (f + 1) t; omega
    · have := ih (f + 1) (t ||| 2 ^ c); omega

set_option maxRecDepth 100000 in
set_option maxHeartbeats 1600000 in
theorem mostRooks_any (n m : Nat) (M : Nat → Int) (w : World) (hn : n ≤ 6) (hm : m ≤ 6) (hgc : ∀ k, k < 6 → 0 ≤ M k ∧ M k < 64) :
    Calls Try.prog 54 #[gv n m M] w fun e w' => e = .returned (.int .i64 ((shK (numL n m (bM M)) (min n m + 1) : Int) - 1)) ∧ Below w.heap.size w w' := by
  have L0 := (Law.start w).has (gl n m M) 59
  have hn := fun W => rookNumbers_any n m M W hn hm hgc
  have hd : lstL (min n m + 1) (wR m (bM M) n 0 0) = numL n m (bM M) := rfl
  rw [hd] at hn
  have HN := Lib.hid hn
  have HK := Lib.hid (numL_len n m (bM M))
  have HL := Lib.hid L0
  have hq6 : min n m ≤ 6 := by omega
  have hsk := shK_le (numL n m (bM M)) (min n m + 1)
  clear hgc hn hd L0
  generalize numL n m (bM M) = ys at *
  generalize min n m = q at *
  go_enter Try.func54, Try.ntmps54
  go_wp2_with fail
  refine (HN.out _).mono ?_
  rintro e w2 ⟨g, p, rfl, hO, hb⟩
  · have hqp := hO.capLe
    have HB := Lib.hid (HL.out.kept hb).below
    clear HL hb
    go_wp2_with fail
    refine (withoutLast_any g (q + 1) p ys _ (by omega) hqp HK.out _ hO).mono ?_
    rintro e w' ⟨rfl, rfl⟩
    clear hO
    go_wp2_with fail
    go_ret
    exact ⟨rfl, HB.out⟩
end Go.Proofs.Ytdimbnkgomfojaa
end

section
namespace Go.Proofs.Ytdimbnkgomfojaa
open Go.RowKit Go.WideShapes

def mostB (r c : Int) (xs : List Int) : R1 := if goodB r c xs then ⟨(shK (numL r.toNat c.toNat (bt xs)) (min r.toNat c.toNat + 1) : Int) - 1, true⟩ else ⟨0, false⟩
/-- As many rows as columns? -/
def sqB (r c : Int) (xs : List Int) : Bool := goodB r c xs && (r == c)
def permB (r c : Int) (xs : List Int) : R1 := if sqB r c xs then ⟨(numL r.toNat r.toNat (bt xs)).getD r.toNat 0, true⟩ else ⟨0, false⟩

set_option maxRecDepth 100000 in
set_option maxHeartbeats 1600000 in
theorem specMost_any (r c : Int) (xs : List Int) (w : World) (hx : xs.length ≤ 1048576) (lo : Nat) (s : Value) (hO : Own w lo s xs) :
    Calls Try.prog 23 #[.agg #[.int .i64 r, .int .i64 c, s]] w fun e w' => AnsIO (mostB r c xs) w e w' := by
  have L0 := (Law.start w).box (.int .i64 r) (.int .i64 c) s 29
  have hO0 := hO.kept L0.below
  obtain ⟨a, cap, rfl, hr⟩ := hO.reads
  have hr0 := L0.reads hr
  clear hO
  cases hg : goodB r c xs
  · rw [show mostB r c xs = ⟨0, false⟩ by simp [mostB, hg]]
    go_enter Try.func23, Try.ntmps23
    go_wp2_with fail
    refine (at_boolB (boGood_any r c a cap xs _ hx hr0) hg).mono ?_
    rintro e w1 ⟨rfl, hb⟩
    have HB := Lib.hid (L0.kept hb).below
    clear L0 hb hg hr0 hO0
    go_wp2_with fail
    go_ret2
    exact ⟨rfl, HB.out⟩
  · obtain ⟨g1, g2, g3, _⟩ := good_facts hg
    obtain ⟨n, rfl⟩ := Int.eq_ofNat_of_zero_le (show 0 ≤ r by omega)
    obtain ⟨m, rfl⟩ := Int.eq_ofNat_of_zero_le (show 0 ≤ c by omega)
    rw [show mostB n m xs = ⟨(shK (numL n m (bt xs)) (min n m + 1) : Int) - 1, true⟩ by simp [mostB, hg]]
    have HG := Lib.hid hg
    have HC := Lib.hid (at_boolB (boGood_any n m a cap xs _ hx hr0) hg)
    have HN := Lib.hid (fun (W : World) (hO : Own W lo (.slice a xs.length cap) xs) => roNumbers_any n m xs W hx (by omega) (by omega) (by omega) (good_cell hg) lo _ hO)
    have HK := Lib.hid (numL_len n m (bt xs))
    have hq6 : min n m ≤ 6 := by omega
    have hsk := shK_le (numL n m (bt xs)) (min n m + 1)
    clear hg hr0
    generalize numL n m (bt xs) = ys at *
    generalize min n m = q at *
    go_enter Try.func23, Try.ntmps23
    go_wp2_with fail
    refine HC.out.mono ?_
    rintro e w1 ⟨rfl, hb⟩
    have L1 := L0.kept hb
    have hO1 := hO0.kept hb
    have ⟨_, k0, k1, k2, _⟩ := L1.ownBox
    have HL := Lib.hid L1
    clear L0 L1 hb HC hO0
    go_wp2_with fail
    refine (HN.out _ hO1).mono ?_
    rintro e w2 ⟨g, p, rfl, hO, hb⟩
    · have hqp := hO.capLe
      have HB := Lib.hid (HL.out.kept hb).below
      clear HL hO1 hb k0 k1 k2
      go_wp2_with fail
      refine (roShort_any g (q + 1) p ys _ (by omega) hqp HK.out _ hO).mono ?_
      rintro e w' ⟨rfl, rfl⟩
      clear hO
      go_wp2_with fail
      go_ret2
      exact ⟨rfl, HB.out⟩

set_option maxRecDepth 100000 in
set_option maxHeartbeats 1600000 in
theorem implMost_any (r c : Int) (xs : List Int) (w : World) (hx : xs.length ≤ 1048576) (lo : Nat) (s : Value) (hO : Own w lo s xs) :
    Calls Try.prog 24 #[.agg #[.int .i64 r, .int .i64 c, s]] w fun e w' => AnsIO (mostB r c xs) w e w' := by
  have L0 := (Law.start w).box (.int .i64 r) (.int .i64 c) s 29
  obtain ⟨a, cap, rfl, hr⟩ := hO.reads
  have hr0 := L0.reads hr
  clear hO
  cases hg : goodB r c xs
  · rw [show mostB r c xs = ⟨0, false⟩ by simp [mostB, hg]]
    go_enter Try.func24, Try.ntmps24
    go_wp2_with fail
    refine (gridOf_no r c a cap xs _ hx hr0 hg).mono ?_
    rintro e w1 ⟨rfl, hb⟩
    have HB := Lib.hid (((L0.kept hb).kept (below_new (.cells #[.int .i64 0, .int .i64 0, .int .i64 0, .int .i64 0, .int .i64 0, .int .i64 0, .int .i64 0, .int .i64 0] 59))).below)
    clear L0 hb hg hr0
    go_wp2_with fail
    go_ret2
    exact ⟨rfl, HB.out⟩
  · obtain ⟨g1, g2, g3, _⟩ := good_facts hg
    have hgc := good_cell hg
    obtain ⟨n, rfl⟩ := Int.eq_ofNat_of_zero_le (show 0 ≤ r by omega)
    obtain ⟨m, rfl⟩ := Int.eq_ofNat_of_zero_le (show 0 ≤ c by omega)
    rw [show mostB n m xs = ⟨(shK (numL n m (bt xs)) (min n m + 1) : Int) - 1, true⟩ by simp [mostB, hg]]
    have HC := Lib.hid (gridOf_yes n m a cap xs _ hx hr0 hg)
    have hn := fun W => mostRooks_any n m (fun k => xs.getD k 0) W (by omega) (by omega) (fun k _ => hgc k)
    have hd : numL n m (bM fun k => xs.getD k 0) = numL n m (bt xs) := rfl
    rw [hd] at hn
    have HN := Lib.hid hn
    clear hg hr0 hgc hn hd
    generalize (shK (numL n m (bt xs)) (min n m + 1) : Int) - 1 = y at *
    go_enter Try.func24, Try.ntmps24
    go_wp2_with fail
    refine HC.out.mono ?_
    rintro e w1 ⟨rfl, hb⟩
    have HL := Lib.hid ((L0.kept hb).kept (below_new (.cells (gl n m (fun k => xs.getD k 0)).toArray 59)))
    clear L0 hb HC
    go_wp2_with fail
    refine (HN.out _).mono ?_
    rintro e w2 ⟨rfl, hb⟩
    have HB := Lib.hid (HL.out.kept hb).below
    clear HL hb
    go_wp2_with fail
    go_ret2
    exact ⟨rfl, HB.out⟩

theorem sq_facts {r c : Int} {xs : List Int} (h : sqB r c xs = true) : goodB r c xs = true ∧ r = c := by
  rw [sqB, Bool.and_eq_true, beq_iff_eq] at h
  exact h

set_option maxRecDepth 100000 in
set_option maxHeartbeats 1600000 in
theorem roSquare_any (r c : Int) (xs : List Int) (w : World) (hx : xs.length ≤ 1048576) (a : Option Addr) (cap : Nat) (hr : Reads w a xs.length xs) :
    Calls Try.prog 78 #[.agg #[.int .i64 r, .int .i64 c, .slice a xs.length cap]] w fun e w' => e = .returned (.bool (sqB r c xs)) ∧ Below w.heap.size w w' := by
  have L0 := (Law.start w).box (.int .i64 r) (.int .i64 c) (.slice a xs.length cap) 29
  have hr0 := L0.reads hr
  cases hg : goodB r c xs
  · rw [show sqB r c xs = false by simp [sqB, hg]]
    go_enter Try.func78, Try.ntmps78
    go_wp2_with fail
    refine (at_boolB (boGood_any r c a cap xs _ hx hr0) hg).mono ?_
    rintro e w1 ⟨rfl, hb⟩
    have HB := Lib.hid (L0.kept hb).below
    clear L0 hb hg hr0
    go_wp2_with fail
    go_ret
    exact ⟨rfl, HB.out⟩
  · rw [show sqB r c xs = (r == c) by simp [sqB, hg]]
    go_enter Try.func78, Try.ntmps78
    go_wp2_with fail
    refine (at_boolB (boGood_any r c a cap xs _ hx hr0) hg).mono ?_
    rintro e w1 ⟨rfl, hb⟩
    have HB := Lib.hid (L0.kept hb).below
    have ⟨_, k0, k1, k2, _⟩ := (L0.kept hb).ownBox
    clear L0 hb hg hr0
    go_wp2_with fail
    go_ret
    exact ⟨rfl, HB.out⟩


end Go.Proofs.Ytdimbnkgomfojaa
end

section
namespace Go.Proofs.Ytdimbnkgomfojaa
open Go.RowKit Go.WideShapes

/-- What is there behind k rounds. -/
def sacc (xs : List Int) (i j m k : Nat) : List Int := strikeL (xs.take k) i j m
theorem sacc_zero (xs : List Int) (i j m : Nat) : sacc xs i j m 0 = [] := by simp [sacc, strikeL]
theorem sacc_skip (xs : List Int) (i j m : Nat) (hi : i < xs.length) : sacc xs i j m (i + 1) = sacc xs i j m i := by
  unfold sacc strikeL
  congr 1
  rw [List.eraseIdx_eq_take_drop_succ, List.eraseIdx_of_length_le (by simp; omega), List.take_take, Nat.min_eq_left (by omega)]
  simp
theorem sacc_next (xs : List Int) (i j m k : Nat) (hk : k < xs.length) (h : k ≠ i) : sacc xs i j m k ++ [skv (xs.getD k 0) j m] = sacc xs i j m (k + 1) := by
  unfold sacc strikeL
  rw [List.take_succ_eq_append_getElem hk]
  by_cases hi : i < k
  · rw [List.eraseIdx_append_of_lt_length (by simp; omega), List.map_append]
    simp [List.getD, hk]
  · rw [List.eraseIdx_of_length_le (by simp; omega), List.eraseIdx_of_length_le (by simp; omega), List.map_append]
    simp [List.getD, hk]
theorem sacc_len (xs : List Int) (i j m k : Nat) : (sacc xs i j m k).length ≤ k := by
  unfold sacc strikeL
  rw [List.length_map]
  exact Nat.le_trans (List.length_eraseIdx_le _ _) (by simp; omega)
theorem sacc_end (xs : List Int) (i j m : Nat) : sacc xs i j m xs.length = strikeL xs i j m := by simp [sacc]

theorem strike_raw (y : Int) (j m : Nat) (hm : m < 6) (hj : j ≤ m) (h : 0 ≤ y ∧ y < pw ((m : Int) + 1)) :
    bits .or .i64 (bits .and .i64 y (IntKind.i64.wrap (IntKind.i64.wrap (2 ^ j) - 1))) (IntKind.i64.wrap (y / 2 ^ (j + 1) * 2 ^ j)) = skv y j m := by
  obtain ⟨n, rfl⟩ := Int.eq_ofNat_of_zero_le h.1
  have key : ∀ m : Fin 6, ∀ n : Fin 64, ∀ j : Fin 6, (j : Nat) ≤ (m : Nat) → ((n : Nat) : Int) < pw ((m : Nat) + 1 : Int) →
    bits .or .i64 (bits .and .i64 ((n : Nat) : Int) (IntKind.i64.wrap (IntKind.i64.wrap (2 ^ (j : Nat)) - 1))) (IntKind.i64.wrap (((n : Nat) : Int) / 2 ^ ((j : Nat) + 1) * 2 ^ (j : Nat))) = skv ((n : Nat) : Int) j m := by decide +kernel
  have h6 := (pw_bd (c := (m : Int) + 1) (by omega)).2.1
  exact key ⟨m, hm⟩ ⟨n, by omega⟩ ⟨j, by omega⟩ hj h.2

set_option maxRecDepth 100000 in
set_option maxHeartbeats 6400000 in
theorem boStrike_any (r c : Int) (xs : List Int) (i j m : Nat) (w : World) (hx : xs.length ≤ 1048576) (hg : goodB r c xs = true) (hi : i < xs.length) (hj : (j : Int) < c) (hm : c = (m : Int) + 1) (lo : Nat) (s : Value) (hO : Own w lo s xs) :
    Calls Try.prog 73 #[.agg #[.int .i64 r, .int .i64 c, s], .int .i64 i, .int .i64 j] w
      fun e w' => ∃ v, e = .returned (.agg #[.int .i64 (r - 1), .int .i64 m, v]) ∧ Own w' w.heap.size v (strikeL xs i j m) ∧ Below w.heap.size w w' := by
  subst hm
  obtain ⟨⟨g1l, g1h⟩, ⟨g2l, g2h⟩, g3, g4⟩ := good_facts hg
  subst g3
  have L0 := (((Law.start w).box (.int .i64 xs.length) (.int .i64 ((m : Int) + 1)) s 29).box (.int .i64 0) (.int .i64 0) (.slice none 0 0) 29).box (.int .i64 ((xs.length : Int) - 1)) (.int .i64 m) (.slice none 0 0) 29
  simp only [World.size_alloc] at L0
  obtain ⟨a, cap, rfl, hr⟩ := hO.reads
  have HL := Lib.hid (L0.own (Below.refl _ _) (Own.nil _ _))
  clear L0 hO hg
  go_enter Try.func73, Try.ntmps73
  go_upto_region 2 with fail
  generalize hW : ((w.alloc _).alloc _).alloc _ = w1 at *
  clear hW
  have ⟨_, k0, k1, k2, _⟩ := HL.out.tl.tl.tl.ownBox
  go_wp2_with fail
  clear k0 k1 k2
  go_loopw [20] (fun i' wr => ∃ (k : Nat) (aa : Option Addr) (pp : Nat), k ≤ xs.length ∧ i' = .int .i64 k ∧ Law w [tOwn (.slice aa (sacc xs i j m k).length pp) (sacc xs i j m k), tBox (w.heap.size + 1 + 1) (.int .i64 ((xs.length : Int) - 1)) (.int .i64 m) (.slice aa (sacc xs i j m k).length pp), tBox (w.heap.size + 1) (.int .i64 0) (.int .i64 0) (.slice none 0 0), tBox w.heap.size (.int .i64 xs.length) (.int .i64 ((m : Int) + 1)) (.slice a xs.length cap)] wr) (fun i' _ => xs.length - (intOf i').toNat)
  case atStart => exact ⟨0, none, 0, by omega, rfl, by rw [sacc_zero]; exact HL.out⟩
  case round =>
    clear HL
    obtain ⟨k, aa, pp, hk, rfl, L⟩ := hrel
    by_cases hlt : k < xs.length
    · have ⟨_, m0, m1, m2, mf⟩ := L.tl.ownBox
      obtain ⟨b0, of0, rfl, hb0, hc0⟩ := reads_row (L.reads hr) (by omega)
      have hcy := hc0 k hlt
      by_cases hki : k = i
      · subst hki
        have t1 : ((k : Int) != (k : Int)) = false := by simp
        have HN := Lib.hid (sacc_skip xs k j m hi)
        have HL := Lib.hid L
        clear hc0 L
        generalize xs.getD k 0 = y at *
        go_wp2_with fail
        go_roundw
        case rel => exact ⟨k + 1, aa, pp, by omega, by go_num, by rw [HN.out]; exact HL.out⟩
        case measure => simp [intOf]; omega
      · have t1 : ((k : Int) != (i : Int)) = true := by rw [bne_iff_ne]; omega
        have HN := Lib.hid (sacc_next xs i j m k hlt hki)
        have HT := Lib.hid (sacc_len xs i j m k)
        have HL := Lib.hid L
        have HR := Lib.hid (strike_raw (xs.getD k 0) j m (by omega) (by omega) (g4 k hlt))
        clear hc0 L
        generalize xs.getD k 0 = y at *
        go_wp2_with fail
        have v1 : IntKind.i64.wrap ((j : Int) + 1) = (j : Int) + 1 := IntWalk.i64_in _ (by omega)
        have v2 : 0 ≤ (j : Int) + 1 := by omega
        have v3 : ((j : Int) + 1).toNat = j + 1 := by omega
        go_region_law (refine step_app rfl (.tmp 29) (.tmp 42) rfl 0 (.slice aa (sacc xs i j m k).length pp) (sacc xs i j m k) (sacc xs i j m k).length (skv y j m) wr.heap.size (by simp [Act.eval]) (by simp [Act.eval]) ((HL.out.kept (below_new _)).drew.ownInts) rfl (by rw [← HR.out]; simp) (by have := HT.out; omega) (Nat.zero_le _) _ rfl ?_; intro g2 cp2 w5 hO5 hg5 hx5 hlt5; have L5 := Law.grow (ts := []) (HL.out.kept (below_new _)).drew hg5 hO5 (fun kk hkk => by (have e : g2 = kk := by simpa [Value.ownBlock] using hkk); subst e; exact hx5.imp id (fun e => e.trans (by simp))); have ⟨zl, z0, z1, z2, zf⟩ := L5.tl.ownBox; have HS5 := Lib.hid (Law.set2 (ts := [_]) L5 (.slice (some ⟨g2, 0, none⟩) ((sacc xs i j m k).length + 1) cp2)); clear L5 hO5 hg5 hx5)
        all_goals
          go_wp2_with fail
          go_roundw
          case rel => exact ⟨k + 1, some ⟨g2, 0, none⟩, cp2, by omega, by go_num, by rw [← HN.out]; simp only [List.length_append, List.length_singleton]; exact HS5.out⟩
          case measure => simp [intOf]; omega
    · obtain rfl : k = xs.length := by omega
      have ⟨_, m0, m1, m2, mf⟩ := L.tl.ownBox
      have ⟨_, n0, n1, n2, nf⟩ := L.tl.tl.ownBox
      have hfin := L.fin3 (n := w.heap.size + 1) (x := .int .i64 0) (y := .int .i64 0) (z := .slice none 0 0) (by simp) (.int .i64 ((xs.length : Int) - 1)) (.int .i64 m) (.slice aa (sacc xs i j m xs.length).length pp)
      rw [sacc_end] at hfin m2
      have HF := Lib.hid hfin
      clear L hfin
      go_wp2_with fail
      exact bodyPost_ret (v := .agg #[.int .i64 ((xs.length : Int) - 1), .int .i64 m, .slice aa (strikeL xs i j m).length pp]) (by simp [results, Try.results73, go_sem, n0, n1, n2]) rfl ⟨_, rfl, HF.out.1, HF.out.2⟩


end Go.Proofs.Ytdimbnkgomfojaa
end
