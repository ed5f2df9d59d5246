import Derived.Test.YtdimbnkgomfojaaFold21
import Derived.Test.YtdimbnkgomfojaaFold24
import Derived.Test.YtdimbnkgomfojaaFold28
import Derived.Test.YtdimbnkgomfojaaFold29
namespace Go.Proofs.Ytdimbnkgomfojaa
open Go.RowKit Go.WideShapes

set_option maxRecDepth 100000 in
set_option maxHeartbeats 800000 in
theorem roAskedP_any (r c : Int) (xs : List Int) (k : Int) (w : World) (hx : xs.length ≤ 1048576) (lo : Nat) (s : Value) (hO : Own w lo s xs) :
    Calls Try.prog 55 #[.agg #[.int .i64 r, .int .i64 c, s], .int .i64 k] w fun e w' => e = .returned (.bool (goodB r c xs && inB 0 k 6)) ∧ Below w.heap.size w w' := by
  have L0 := (Law.start w).box (.int .i64 r) (.int .i64 c) s 29
  obtain ⟨a, cap, rfl, hr⟩ := hO.reads
  have hr0 := L0.reads hr
  clear hO
  cases hg : goodB r c xs
  · rw [Bool.false_and]
    have HC := Lib.hid (at_boolB (boGood_any r c a cap xs _ hx hr0) hg)
    have HL := Lib.hid L0
    clear L0 hg hr0
    go_enter Try.func55, Try.ntmps55
    go_wp2_with fail
    refine HC.out.mono ?_
    rintro e w1 ⟨rfl, hb⟩
    have HB := Lib.hid (HL.out.kept hb).below
    clear HL hb
    go_wp2_with fail
    go_ret
    exact ⟨rfl, HB.out⟩
  · rw [Bool.true_and]
    have HC := Lib.hid (at_boolB (boGood_any r c a cap xs _ hx hr0) hg)
    have HI := Lib.hid (fun W => l1In_any k 0 6 W)
    generalize inB 0 k 6 = bb at *
    have HL := Lib.hid L0
    clear L0 hg hr0
    go_enter Try.func55, Try.ntmps55
    go_wp2_with fail
    refine HC.out.mono ?_
    rintro e w1 ⟨rfl, hb⟩
    have HB := Lib.hid (HL.out.kept hb).below
    clear HL hb
    go_wp2_with fail
    refine (HI.out _).mono ?_
    rintro e w2 ⟨rfl, rfl⟩
    go_wp2_with fail
    go_ret
    exact ⟨rfl, HB.out⟩

theorem withB_len (r c : Int) (xs : List Int) (k rank : Int) : (withB r c xs k rank).ys.length ≤ 1048576 := by
  unfold withB
  split
  · rename_i h
    rw [Bool.and_eq_true] at h
    obtain ⟨g1, _⟩ := good_facts h.1
    show ((pl c.toNat (bt xs) r.toNat 0 0 k.toNat).getD rank.toNat []).length ≤ 1048576
    by_cases hk : rank.toNat < (pl c.toNat (bt xs) r.toNat 0 0 k.toNat).length
    · rw [List.getD_eq_getElem?_getD, List.getElem?_eq_getElem hk]
      have := pl_rows c.toNat (bt xs) r.toNat 0 0 k.toNat _ (List.getElem_mem hk)
      show ((pl c.toNat (bt xs) r.toNat 0 0 k.toNat)[rank.toNat]).length ≤ 1048576
      omega
    · rw [List.getD_eq_getElem?_getD, List.getElem?_eq_none (by omega)]
      simp
  · simp
set_option maxRecDepth 100000 in
set_option maxHeartbeats 3200000 in
theorem specWith_any (r c : Int) (xs : List Int) (k rank : Int) (w : World) (hx : xs.length ≤ 1048576) (lo : Nat) (s : Value) (hO : Own w lo s xs) :
    Calls Try.prog 27 #[.agg #[.int .i64 r, .int .i64 c, s], .int .i64 k, .int .i64 rank] w fun e w' => AnsL (withB r c xs k rank) w e w' := by
  have L0 := (Law.start w).box (.int .i64 r) (.int .i64 c) s 29
  have hO0 := hO.kept L0.below
  have HC := Lib.hid (roAskedP_any r c xs k _ hx lo s hO0)
  have HO := Lib.hid hO
  obtain ⟨a, cap, rfl, _⟩ := hO.reads
  have ⟨_, k0, k1, k2, _⟩ := L0.ownBox
  have HL := Lib.hid L0
  clear L0 hO hO0
  cases hq : goodB r c xs && inB 0 k 6
  · rw [show withB r c xs k rank = ⟨[], false⟩ by unfold withB; rw [← Bool.and_assoc, hq]; rfl]
    rw [hq] at HC
    clear hq
    go_enter Try.func27, Try.ntmps27
    go_wp2_with fail
    refine HC.out.mono ?_
    rintro e w1 ⟨rfl, hb⟩
    have HB := Lib.hid (HL.out.kept hb).below
    clear HL hb k0 k1 k2
    go_wp2_with fail
    go_ret2
    exact ⟨_, rfl, Own.nil _ _, HB.out⟩
  · rw [hq] at HC
    have hq2 := hq
    rw [Bool.and_eq_true] at hq2
    obtain ⟨hg, hk⟩ := hq2
    obtain ⟨g1, g2, g3, _⟩ := good_facts hg
    have hk6 := inB_iff.1 hk
    have hgc := good_cell hg
    obtain ⟨n, rfl⟩ := Int.eq_ofNat_of_zero_le (show 0 ≤ r by omega)
    obtain ⟨m, rfl⟩ := Int.eq_ofNat_of_zero_le (show 0 ≤ c by omega)
    obtain ⟨q, rfl⟩ := Int.eq_ofNat_of_zero_le hk6.1
    have hn6 : n ≤ 6 := by omega
    have hm6 : m ≤ 6 := by omega
    have hwr : wR m (bt xs) n 0 0 q ≤ 117649 := Nat.le_trans (wR_le m (by omega) (bt xs) n 0 0 q) (pow7 n hn6)
    have hof := fun W (h : Own W lo (.slice a xs.length cap) xs) => roOf_any n m q xs W hx hn6 hm6 (by omega) hgc lo _ h
    rw [numL_all n m hm6] at hof
    have hroll := fun (rk : Nat) (h : rk < 1000000) W (hO : Own W lo (.slice a xs.length cap) xs) => roAll_any n m xs hx hn6 hm6 (by omega) hgc n 0 0 q (rk + 1) [] (by omega) rfl (fun c _ => by simp [hasI_nil]) (by omega) (by omega) (by omega) W lo _ 0 (.slice none 0 0) hO (Own.nil _ _)
    have hlen := pl_len m (bt xs) n 0 0 q
    have hwb : withB n m xs q rank = if inB 0 rank ((wR m (bt xs) n 0 0 q : Nat) - 1 : Int) then ⟨(pl m (bt xs) n 0 0 q).getD rank.toNat [], true⟩ else ⟨[], false⟩ := by
      unfold withB
      rw [hg, hk, Bool.true_and, Bool.true_and]
      simp only [Int.toNat_natCast]
      have hbb : (decide (0 ≤ rank) && decide (rank < ((wR m (bt xs) n 0 0 q : Nat) : Int))) = inB 0 rank ((wR m (bt xs) n 0 0 q : Nat) - 1 : Int) := by
        rw [Bool.eq_iff_iff, inB_iff, Bool.and_eq_true, decide_eq_true_eq, decide_eq_true_eq]
        constructor <;> (intro h; omega)
      rw [hbb]
    have hal : ∀ rk : Nat, allL m (bt xs) n 0 0 q [] (rk + 1) = (pl m (bt xs) n 0 0 q).take (rk + 1) := fun rk => by
      unfold allL
      simp
    simp only [hal] at hroll
    rw [hwb]
    generalize pl m (bt xs) n 0 0 q = LL at *
    generalize hcn : wR m (bt xs) n 0 0 q = cnt at *
    have hI := fun W => l1In_any rank 0 ((cnt : Int) - 1) W
    have hw1 : IntKind.i64.wrap ((cnt : Int) - 1) = (cnt : Int) - 1 := IntWalk.i64_in _ (by omega)
    have HOF := Lib.hid hof
    have HRA := Lib.hid hroll
    cases hi : inB 0 rank ((cnt : Int) - 1)
    · rw [hi] at hI
      have HI := Lib.hid hI
      clear hq hg hk g1 g2 g3 hk6 hgc hwr hof hroll hlen hwb hal hcn hI hi
      simp only [Bool.false_eq_true, if_false]
      go_enter Try.func27, Try.ntmps27
      go_wp2_with fail
      refine HC.out.mono ?_
      rintro e w1 ⟨rfl, hb⟩
      have L1 := HL.out.kept hb
      clear HL hb k0 k1 k2 HC
      have hO1 := HO.out.kept L1.below
      have ⟨_, k0, k1, k2, _⟩ := L1.ownBox
      have HL := Lib.hid L1
      clear L1
      go_wp2_with fail
      refine (HOF.out _ hO1).mono ?_
      rintro e w2 ⟨rfl, hb⟩
      have HB := Lib.hid (HL.out.kept hb).below
      clear HL hb k0 k1 k2 hO1
      go_wp2_with fail
      refine (HI.out _).mono ?_
      rintro e w3 ⟨rfl, rfl⟩
      go_wp2_with fail
      go_ret2
      exact ⟨_, rfl, Own.nil _ _, HB.out⟩
    · rw [hi] at hI
      have hri := inB_iff.1 hi
      obtain ⟨rk, rfl⟩ := Int.eq_ofNat_of_zero_le hri.1
      have hrl : rk < LL.length := by omega
      have hw2 : IntKind.i64.wrap ((rk : Int) + 1) = (rk : Int) + 1 := IntWalk.i64_in _ (by omega)
      have hra := hroll rk (by omega)
      rw [show ((rk + 1 : Nat) : Int) = (rk : Int) + 1 by push_cast; rfl] at hra
      have htl : (LL.take (rk + 1)).length = rk + 1 := by rw [List.length_take]; omega
      have hget : (LL.take (rk + 1)).getD rk [] = LL.getD rk [] := by simp [List.getD]
      simp only [if_true, Int.toNat_natCast]
      rw [← hget]
      generalize LL.take (rk + 1) = TT at *
      have HI := Lib.hid hI
      have HRA2 := Lib.hid hra
      have HTL := Lib.hid htl
      obtain ⟨QQ, hQQ⟩ : ∃ QQ, QQ = TT.getD rk [] := ⟨_, rfl⟩
      rw [← hQQ]
      have HQQ := Lib.hid hQQ
      clear hQQ
      clear hq hg hk g1 g2 g3 hk6 hgc hwr hof hroll hlen hwb hal hcn hI hi hri HRA hra htl hget hrl
      go_enter Try.func27, Try.ntmps27
      go_wp2_with fail
      refine HC.out.mono ?_
      rintro e w1 ⟨rfl, hb⟩
      have L1 := HL.out.kept hb
      clear HL hb k0 k1 k2 HC
      have hO1 := HO.out.kept L1.below
      have ⟨_, k0, k1, k2, _⟩ := L1.ownBox
      have HL := Lib.hid L1
      clear L1
      go_wp2_with fail
      refine (HOF.out _ hO1).mono ?_
      rintro e w2 ⟨rfl, hb⟩
      have L1 := HL.out.kept hb
      clear HL hb k0 k1 k2 hO1 HOF
      have hO1 := HO.out.kept L1.below
      have ⟨_, k0, k1, k2, _⟩ := L1.ownBox
      have HL := Lib.hid L1
      clear L1
      go_wp2_with fail
      refine (HI.out _).mono ?_
      rintro e w3 ⟨rfl, rfl⟩
      go_wp2_with fail
      refine (HRA2.out _ hO1).mono ?_
      rintro e w4 ⟨v, vs, rfl, hM, _, hb⟩
      have L4 := HL.out.addM hb hM
      have hml := hM.len
      rw [HTL.out] at hml
      rcases hM.cases with ⟨_, h⟩ | ⟨g, cp, hv, _⟩
      · subst h; simp at hml
      · subst hv
        have hM2 := L4.ownM
        have hcell := hM2.cell rk (by omega)
        have hrow := L4.ownMLo.row rk (by omega)
        obtain ⟨qa, qp, hqv, hqr⟩ := hrow.reads
        rw [show (TT[rk]'(by rw [HTL.out]; omega)) = QQ by rw [HQQ.out]; simp [List.getD, HTL.out]] at hrow hqv
        rw [hqv] at hcell hrow
        have HR := Lib.hid hrow
        have HB := Lib.hid L4.below
        have hrI : (rk : Int) < vs.length := by omega
        clear hqr
        clear HL hb k0 k1 k2 hO1 L4 hM hM2 hrow hqv hml
        go_wp2_with fail
        go_ret2
        exact ⟨_, rfl, HR.out, HB.out⟩

end Go.Proofs.Ytdimbnkgomfojaa
