import Derived.Test.YtdimbnkgomfojaaFold18
import Derived.Test.YtdimbnkgomfojaaFold26
import Derived.Test.YtdimbnkgomfojaaFold27
import Derived.Test.YtdimbnkgomfojaaFold7
import Derived.Test.YtdimbnkgomfojaaFold4

section
namespace Go.Proofs.Ytdimbnkgomfojaa
open Go.RowKit Go.WideShapes

def six (F : Nat → Int) : List Int := [F 0, F 1, F 2, F 3, F 4, F 5]
theorem rcnt_pad (P : List Int) (k : Nat) : rcnt (P ++ List.replicate k (-1)) = rcnt P := by
  unfold rcnt
  rw [List.filter_append, List.length_append, show (List.replicate k (-1 : Int)).filter (fun x => decide (0 ≤ x)) = [] from List.filter_eq_nil_iff.2 (fun x hx => by rw [(List.mem_replicate.1 hx).2]; decide)]
  rfl
theorem six_cnt (P : List Int) (n : Nat) (hp : P.length = n) (hn : n ≤ 6) : rcnt (six (plF P n)) = rcnt P := by
  subst hp
  match P, hn with
  | [], _ => exact rcnt_pad [] 6
  | [a], _ => exact rcnt_pad [a] 5
  | [a, b], _ => exact rcnt_pad [a, b] 4
  | [a, b, c], _ => exact rcnt_pad [a, b, c] 3
  | [a, b, c, d], _ => exact rcnt_pad [a, b, c, d] 2
  | [a, b, c, d, e], _ => exact rcnt_pad [a, b, c, d, e] 1
  | [a, b, c, d, e, f], _ => rfl
  | _ :: _ :: _ :: _ :: _ :: _ :: _ :: _, h => simp at h <;> omega
theorem six_reads {w : World} {b : Nat} {F : Nat → Int} {t : TypeId} (h : Has w b (pl6 F) t) : Reads w (some ⟨b, 0, none⟩) (six F).length (six F) :=
  ⟨rfl, .inr ⟨b, 0, rfl, h.lt, fun j hj => by
    rw [Nat.zero_add, h.cell j, pl6_get F j (by simpa [six] using hj)]
    have : j = 0 ∨ j = 1 ∨ j = 2 ∨ j = 3 ∨ j = 4 ∨ j = 5 := by simp [six] at hj; omega
    rcases this with rfl | rfl | rfl | rfl | rfl | rfl <;> rfl⟩⟩

def rankB (r c : Int) (xs P : List Int) : R1 := if okPl r c xs P then ⟨((pl c.toNat (bt xs) r.toNat 0 0 (rcnt P)).findIdx (fun Q => eq6 (plF Q r.toNat) (plF P r.toNat)) : Nat), true⟩ else ⟨0, false⟩

set_option maxRecDepth 100000 in
set_option maxHeartbeats 6400000 in
theorem implRank_any (r c : Int) (xs P : List Int) (w : World) (hx : xs.length ≤ 1048576) (hp : P.length ≤ 1048576) (lo : Nat) (s : Value) (lo2 : Nat) (s2 : Value) (hO : Own w lo s xs) (hO2 : Own w lo2 s2 P) :
    Calls Try.prog 34 #[.agg #[.int .i64 r, .int .i64 c, s], s2] w fun e w' => AnsIO (rankB r c xs P) w e w' := by
  have L0 := (Law.start w).box (.int .i64 r) (.int .i64 c) s 29
  obtain ⟨a, cap, rfl, hr⟩ := hO.reads
  obtain ⟨a2, p2, rfl, hr2⟩ := hO2.reads
  have HP := Lib.hid (placementOn_any r c xs P _ hx hp a cap (L0.reads hr) a2 p2 (L0.reads hr2))
  clear hO hO2
  cases hok : okPl r c xs P
  · rw [show rankB r c xs P = ⟨0, false⟩ by unfold rankB; rw [hok]; rfl]
    have HOK := Lib.hid hok
    clear hok
    go_enter Try.func34, Try.ntmps34
    go_wp2_with fail
    refine HP.out.mono ?_
    rintro e w1 ⟨r', c', M, F, rfl, _, hb⟩
    rw [HOK.out]
    have L1 := ((L0.kept hb).has (gl r' c' M) 59).has (pl6 F) 70
    have HB := Lib.hid L1.below
    clear L0 hb L1 HP
    go_wp2_with fail
    go_ret2
    exact ⟨rfl, HB.out⟩
  · have hok' := hok
    unfold okPl at hok'
    rw [Bool.and_eq_true] at hok'
    obtain ⟨hg, hq⟩ := hok'
    obtain ⟨g1, g2, g3, _⟩ := good_facts hg
    have hgc := good_cell hg
    obtain ⟨n, rfl⟩ := Int.eq_ofNat_of_zero_le (show 0 ≤ r by omega)
    obtain ⟨m, rfl⟩ := Int.eq_ofNat_of_zero_le (show 0 ≤ c by omega)
    obtain ⟨hpn, hpf⟩ := placeP_facts hq
    simp only [Int.toNat_natCast] at hpn hpf
    have hsix : sumT (one1 (six (plF P n))) (six (plF P n)).length = (rcnt P : Nat) := by
      rw [one1_cnt _ (fun j => by
        by_cases h6 : j < 6
        · have hj : (six (plF P n)).getD j 0 = plF P n j := by
            have : j = 0 ∨ j = 1 ∨ j = 2 ∨ j = 3 ∨ j = 4 ∨ j = 5 := by omega
            rcases this with rfl | rfl | rfl | rfl | rfl | rfl <;> rfl
          rw [hj]
          unfold plF
          split
          · have := hpf j (by assumption); omega
          · omega
        · rw [List.getD_eq_getElem?_getD, List.getElem?_eq_none (by simp [six]; omega)]; decide) _ (Nat.le_refl _), List.take_length, six_cnt P n hpn (by omega)]
    have hcl : rcnt P ≤ 6 := by
      have := one1_bd (six (plF P n)) (six (plF P n)).length
      rw [hsix] at this
      simp only [six, List.length_cons, List.length_nil] at this
      omega
    obtain ⟨y, hy⟩ : ∃ y : Int, y = (((pl m (bt xs) n 0 0 (rcnt P)).findIdx (fun Q => eq6 (plF Q n) (plF P n)) : Nat) : Int) := ⟨_, rfl⟩
    rw [show rankB n m xs P = ⟨y, true⟩ by unfold rankB; rw [hok, if_pos rfl, hy]; rfl]
    have HY := Lib.hid hy
    have HSX := Lib.hid hsix
    have HGC := Lib.hid hgc
    have HOK := Lib.hid hok
    have hn6 : n ≤ 6 := by omega
    have hm6 : m ≤ 6 := by omega
    clear hok hg hq hpn hpf hsix hgc hy
    go_enter Try.func34, Try.ntmps34
    go_wp2_with fail
    refine HP.out.mono ?_
    rintro e w1 ⟨r', c', M, F, rfl, hfr, hb⟩
    obtain ⟨rfl, rfl, hMM, hF⟩ := hfr HOK.out
    simp only [Int.toNat_natCast] at hF
    subst hF
    rw [HOK.out]
    have hBM : bM M = bt xs := by funext a b; simp only [bM, bt, hMM]
    have HG2 := Lib.hid (show ∀ k, k < 6 → 0 ≤ M k ∧ M k < 64 from fun k _ => by rw [hMM k]; exact HGC.out k)
    have HY2 := Lib.hid (show y = (((pl m (bM M) n 0 0 (rcnt P)).findIdx (fun Q => eq6 (plF Q n) (plF P n)) : Nat) : Int) by rw [hBM]; exact HY.out)
    clear hMM hBM hfr
    have L1 := ((L0.kept hb).has (gl n m M) 59).has (pl6 (plF P n)) 70
    rw [show (w1.alloc (.cells (gl n m M).toArray 59)).alloc (.cells (pl6 (plF P n)).toArray 70) = (w1.alloc (.cells #[.int .i64 n, .int .i64 m, .int .i64 (M 0), .int .i64 (M 1), .int .i64 (M 2), .int .i64 (M 3), .int .i64 (M 4), .int .i64 (M 5)] 59)).alloc (.cells #[.int .i64 (plF P n 0), .int .i64 (plF P n 1), .int .i64 (plF P n 2), .int .i64 (plF P n 3), .int .i64 (plF P n 4), .int .i64 (plF P n 5)] 70) from rfl] at L1
    simp only [World.size_alloc] at L1
    have HL := Lib.hid L1
    clear L0 hb L1 HP HGC HY
    go_upto_region 2 with fail
    generalize (w1.alloc (.cells #[.int .i64 n, .int .i64 m, .int .i64 (M 0), .int .i64 (M 1), .int .i64 (M 2), .int .i64 (M 3), .int .i64 (M 4), .int .i64 (M 5)] 59)).alloc (.cells #[.int .i64 (plF P n 0), .int .i64 (plF P n 1), .int .i64 (plF P n 2), .int .i64 (plF P n 3), .int .i64 (plF P n 4), .int .i64 (plF P n 5)] 70) = w5 at *
    have L2 := HL.out.has [.int .i64 0] 3
    rw [show w5.alloc (.cells ([.int .i64 0] : List Value).toArray 3) = w5.alloc (.cells #[.int .i64 0] 3) from rfl] at L2
    have hz : w1.heap.size + 1 < w5.heap.size := HL.out.ownHas.lt
    have HL2 := Lib.hid L2
    clear L2 HL
    go_upto_region 5 with fail
    generalize w5.alloc (.cells #[.int .i64 0] 3) = w6 at *
    obtain ⟨bk, hbk⟩ : ∃ bk, bk = w5.heap.size := ⟨_, rfl⟩
    rw [← hbk] at HL2 hz ⊢
    clear hbk
    obtain ⟨bo, hbo⟩ : ∃ bo, bo = w1.heap.size + 1 := ⟨_, rfl⟩
    rw [← hbo] at HL2 hz ⊢
    clear hbo
    have HCR := Lib.hid (fun (W : World) (h : Has W bo (pl6 (plF P n)) 70) => show Calls Try.prog 69 #[.slice (some ⟨bo, 0, none⟩) 6 6] W fun e w' => e = .returned (.int .i64 (rcnt P : Nat)) ∧ Below W.heap.size W w' from by
      have := countRooks_any (some ⟨bo, 0, none⟩) 6 (six (plF P n)) W (by simp [six]) (six_reads h)
      rw [HSX.out] at this
      exact this)
    have HWK := Lib.hid (fun (W : World) (h : Has W bo (pl6 (plF P n)) 70) (h' : Has W bk [.int .i64 0] 3) => show Calls Try.prog 60 #[gv n m M, .int .i64 (rcnt P : Nat), .func (.func 70) #[] #[.pointer (some ⟨bo, 0, none⟩), .pointer (some ⟨bk, 0, none⟩)]] W fun e w' => e = .returned (.tuple #[]) ∧ Has w' bk [.int .i64 y] 3 ∧ Chg (fun k => k = bk) W w' from by
      have := rkWalk_any bo bk n m (rcnt P) M (plF P n) W hn6 hm6 hcl HG2.out (by omega) h h'
      rw [← HY2.out] at this
      exact this)
    obtain ⟨e0, e1, e2, e3, e4, e5, e6, e7, er⟩ := HL2.out.drew.tl.tl.ownHas.eight
    have HL3 := Lib.hid HL2.out.drew
    clear HL2 HG2 HY2 HSX HOK
    go_region_with (first | ((refine (HCR.out _ HL3.out.tl.ownHas).mono ?_); rintro e w7 ⟨rfl, hb⟩; replace HL3 := Lib.hid (HL3.out.kept hb); clear hb; obtain ⟨e0, e1, e2, e3, e4, e5, e6, e7, er⟩ := HL3.out.tl.tl.ownHas.eight) | ((refine (HWK.out _ HL3.out.tl.ownHas HL3.out.ownHas).mono ?_); rintro e w8 ⟨rfl, hh, hC⟩; replace HL3 := Lib.hid (Law.write (ts := []) HL3.out (by exact hC) (tHas bk [.int .i64 y] 3) rfl hh); clear hC hh))
    all_goals
      have HB := Lib.hid HL3.out.below
      obtain ⟨f0, _⟩ := HL3.out.ownHas.one
      clear HL3
      go_wp2_with fail
      go_ret2
      exact ⟨rfl, HB.out⟩
end Go.Proofs.Ytdimbnkgomfojaa
end

section
namespace Go.Proofs.Ytdimbnkgomfojaa
open Go.RowKit Go.WideShapes

theorem own_rd {w : World} {lo : Nat} {a : Option Addr} {p : Nat} {xs : List Int} (h : Own w lo (.slice a xs.length p) xs) : Reads w a xs.length xs := by
  obtain ⟨a', p', e, hr⟩ := h.reads
  injection e with e1 e2 e3
  subst e1
  exact hr

set_option maxRecDepth 100000 in
set_option maxHeartbeats 800000 in
theorem l1Same_any (a a' : Option Addr) (n n' cap cap' : Nat) (xs ys : List Int) (w : World) (hx : xs.length ≤ 1048576) (hn : xs.length = n) (hn' : ys.length = n')
    (h1 : Reads w a n xs) (h2 : Reads w a' n' ys) :
    Calls Try.prog 67 #[.slice a n cap, .slice a' n' cap'] w fun e w' => e = .returned (.bool (decide (xs = ys))) ∧ Drawn w w' := by
  subst hn hn'
  by_cases hl : xs.length = ys.length
  · have hle : ys.length ≤ xs.length := by omega
    have hge : xs.length ≤ ys.length := by omega
    have hne' : ((xs.length : Int) != ys.length) = false := by simp [hl]
    have Hl := Lib.hid hl; clear hl
    go_enter Try.func67, Try.ntmps67
    go_wp2
    go_loopw [13] (fun i wr => ∃ k : Nat, k ≤ xs.length ∧ i = .int .i64 k ∧ Hid (xs.take k = ys.take k) ∧ Drawn w wr) (fun i _ => xs.length - (intOf i).toNat)
    case atStart => exact ⟨0, Nat.zero_le _, rfl, (rfl : xs.take 0 = ys.take 0), 0, rfl⟩
    case round =>
      obtain ⟨k, hk, rfl, HE, n, rfl⟩ := hrel
      by_cases hlt : k < xs.length
      · obtain ⟨b, off, rfl, hb, hc⟩ := reads_row h1 (by omega)
        obtain ⟨b', off', rfl, hb', hc'⟩ := reads_row h2 (by omega)
        have hck := hc k hlt
        have hck' := hc' k (by omega)
        clear hc hc'
        have hne0 : xs.getD k 0 ≠ ys.getD k 0 → decide (xs = ys) = false := fun he => by rw [decide_eq_false_iff_not]; exact fun h => he (by rw [h])
        have heq0 := eq_upto_succ xs ys k hlt (by omega) HE.out
        have hk0 : (0 : Int) ≤ k := by omega
        have hk1 : (k : Int) < xs.length := by omega
        have hk2 : (k : Int) < ys.length := by omega
        generalize xs.getD k 0 = x at *
        generalize ys.getD k 0 = y at *
        by_cases he : x = y
        · have HN := Lib.hid (heq0 he)
          clear heq0 hne0
          subst he
          have hxx : (x != x) = false := by simp
          go_wp2
          go_quiet (fail)
          go_wp2
          go_roundw
          case rel => exact ⟨k + 1, by omega, by go_num, HN.out, _, rfl⟩
          case measure => simp [intOf]; omega
        · have hne : (x == y) = false := by rw [beq_eq_false_iff_ne]; exact he
          have hne2 : (x != y) = true := by simp [he]
          have Hd := Lib.hid (hne0 he); clear hne0 heq0 he
          go_wp2
          go_quiet (fail)
          go_wp2
          go_ret
          exact ⟨ret_bool Hd.out.symm, drawn2 _ _ _⟩
      · have hd : decide (xs = ys) = true := by
          have h := HE.out
          obtain rfl : k = xs.length := by omega
          rw [List.take_length, Hl.out, List.take_length] at h
          simpa using h
        have Hd := Lib.hid hd; clear hd
        go_wp2
        go_ret
        exact ⟨ret_bool Hd.out.symm, n, rfl⟩
  · have hd : decide (xs = ys) = false := by rw [decide_eq_false_iff_not]; exact fun h => hl (by rw [h])
    have Hd := Lib.hid hd; clear hd
    have hne' : ((xs.length : Int) != ys.length) = true := by simp; omega
    go_enter Try.func67, Try.ntmps67
    go_wp2
    go_ret
    exact ⟨ret_bool Hd.out.symm, Drawn.refl _⟩

end Go.Proofs.Ytdimbnkgomfojaa
end
