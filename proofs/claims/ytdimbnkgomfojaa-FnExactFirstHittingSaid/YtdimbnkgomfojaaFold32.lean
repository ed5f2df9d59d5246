import Derived.Test.YtdimbnkgomfojaaFold30
import Derived.Test.YtdimbnkgomfojaaFold22
import Derived.Test.YtdimbnkgomfojaaFold20
import Derived.Test.YtdimbnkgomfojaaFold14
import Derived.Test.YtdimbnkgomfojaaFold8
import Derived.Laws.OwnMore
import Derived.Test.YtdimbnkgomfojaaFold25
import Derived.Deep.RegionHeld3
import Derived.Test.YtdimbnkgomfojaaFold31
import Derived.Test.YtdimbnkgomfojaaFold28
import Derived.BigQuiet
import Derived.IntWalk

section
namespace Go.Proofs.Ytdimbnkgomfojaa
open Go.RowKit Go.WideShapes

theorem prm_bd (n d : Nat) (hn : n ≤ 6) (hd : d ≤ 6) (P : List Int) : (prm n d P).length ≤ 46656 := by
  have h1 := prm_len n d P
  have h2 : n ^ d ≤ 6 ^ d := Nat.pow_le_pow_left hn d
  have h3 : 6 ^ d ≤ 6 ^ 6 := Nat.pow_le_pow_right (by omega) hd
  have h4 : 6 ^ 6 = 46656 := by decide
  omega
theorem prmC_bd (n d : Nat) (hn : n ≤ 6) (hd : d ≤ 5) (P : List Int) (x : Nat) (hx : x ≤ n) : (prmC n d P x).length ≤ 46656 := by
  have h1 := prmC_len n d P x
  have h2 : n ^ d ≤ 6 ^ d := Nat.pow_le_pow_left hn d
  have h3 : 6 ^ d ≤ 6 ^ 5 := Nat.pow_le_pow_right (by omega) hd
  have h4 : 6 ^ 5 = 7776 := by decide
  have h5 : x * n ^ d ≤ 6 * 7776 := Nat.mul_le_mul (by omega) (by omega)
  omega

set_option maxRecDepth 100000 in
set_option maxHeartbeats 6400000 in
theorem hiAll_any (n : Nat) (hn : n ≤ 6) : ∀ (d : Nat) (P : List Int), P.length + d = n → ∀ (w : World) (lop : Nat) (pv : Value), Own w lop pv P →
    Calls Try.prog 87 #[.int .i64 n, pv] w fun e w' => ∃ v vs, e = .returned v ∧ OwnM w' w.heap.size v vs (prm n d P) ∧ (vs = [] → v = .slice none 0 0) ∧ Below w.heap.size w w' := by
  intro d
  induction d with
  | zero =>
    intro P hP w lop pv hO
    obtain ⟨pa, pcap, rfl, hrP⟩ := hO.reads
    have hPn : P.length = n := by omega
    have hPle : P.length ≤ 1048576 := by omega
    have HC := Lib.hid (l1Own_any P w hPle _ hO.src)
    have HPN := Lib.hid hPn
    rw [hPn] at HC ⊢
    have heq : ((n : Int) == n) = true := by simp
    clear hO hrP hP hPn hPle
    go_enter Try.func87, Try.ntmps87
    go_wp2_with fail
    refine HC.out.mono ?_
    rintro e w1 ⟨v, rfl, hO, hb⟩
    obtain ⟨va, vp, rfl, _⟩ := hO.reads
    have HS := Lib.hid (OwnM.single hO hb.size)
    have HB := Lib.hid (below_on hb (below_new (.cells #[.slice va P.length vp] 22)))
    clear hb hO HC
    go_wp2_with fail
    go_ret
    exact ⟨_, _, rfl, HS.out, fun h => by simp at h, HB.out⟩
  | succ d ih =>
    intro P hP w lop pv hO
    obtain ⟨pa, pcap, rfl, hrP⟩ := hO.reads
    have HO := Lib.hid hO
    have HRP := Lib.hid hrP
    have hPle : P.length ≤ 1048576 := by omega
    have HPle := Lib.hid hPle
    have hne : ((P.length : Int) == n) = false := by rw [beq_eq_false_iff_ne]; omega
    have HIH := Lib.hid (fun (x : Nat) (W : World) (pv : Value) (h : Own W 0 pv (P ++ [(x : Int)])) => ih (P ++ [(x : Int)]) (by simp; omega) W 0 pv h)
    have hd5 : d ≤ 5 := by omega
    have HPL := Lib.hid hP
    have HBC := Lib.hid (fun x hx => prmC_bd n d hn hd5 P x hx)
    have HBP := Lib.hid (fun Q => prm_bd n d hn (by omega) Q)
    have hn6 : (n : Int) ≤ 6 := by omega
    have HL := Lib.hid (Law.start w).nilM
    clear hO hrP ih hPle hP
    go_enter Try.func87, Try.ntmps87
    go_wp2_with fail
    clear hne
    go_loopw [5, 6] (fun o i wr => ∃ (x : Nat) (vs : List Value), x ≤ n ∧ i = .int .i64 x ∧ (vs = [] → o = .slice none 0 0) ∧ Law w [tM o vs (prmC n d P x)] wr) (fun _ i _ => n - (intOf i).toNat)
    case atStart => exact ⟨0, [], Nat.zero_le _, rfl, fun _ => rfl, HL.out⟩
    case round =>
      clear HL
      obtain ⟨x, vs, hx, rfl, hno, L⟩ := hrel
      obtain ⟨oa, ocap, rfl⟩ := L.ownM.formR
      by_cases hlt : x < n
      · have HH := Lib.hid (l1Has_any pa P.length pcap P (x : Int) wr HPle.out rfl (L.reads HRP.out))
        cases hh : hasI P (x : Int)
        · rw [hh] at HH
          have hnx := prmC_next n d P x hh
          have hlx := HBC.out x (by omega)
          have hlp := HBP.out (P ++ [(x : Int)])
          have HC := Lib.hid (fun W (hb : Below w.heap.size w W) => l1Own_any P W HPle.out _ (HO.out.kept hb).src)
          have HI := Lib.hid (HIH.out x)
          obtain ⟨C, hC⟩ : ∃ C, C = prmC n d P x := ⟨_, rfl⟩
          rw [← hC] at hnx L hlx hno ⊢
          generalize prm n d (P ++ [(x : Int)]) = D at *
          have HX := Lib.hid hnx
          have HLN := Lib.hid (show C.length + D.length ≤ 1048576 by omega)
          have HL := Lib.hid L
          clear L hh hnx hlx hlp hC
          go_wp2_with fail
          refine HH.out.mono ?_
          rintro e w2 ⟨rfl, hw⟩
          subst w2
          go_wp2_with fail
          refine (HC.out _ HL.out.below).mono ?_
          rintro e w2 ⟨v1, rfl, hO1, hb1⟩
          have L1 := (HL.out.own hb1 hO1).kept (below_new (.cells #[.int .i64 (x : Int)] 3))
          have HX2 := Lib.hid (show (w2.alloc (.cells #[.int .i64 (x : Int)] 3)).cell? ⟨w2.heap.size, 0, none⟩ = some (.int .i64 (x : Int)) by rw [World.cell?_alloc_at _ _ _ _ rfl]; rfl)
          have HL1 := Lib.hid L1
          clear L1 hO1 hb1 HL
          go_wp2_with (at_builtin; go_loud (refine wp_appendI rfl _ _ rfl (x : Int) HL1.out w2.heap.size rfl rfl HX2.out (by have := HPle.out; have := HPL.out; omega) (P ++ [(x : Int)]) rfl ?_))
          intro g1 cap1 w3 L3
          have HL3 := Lib.hid L3
          clear L3 HL1 HX2
          go_wp2_with fail
          refine (HI.out _ _ HL3.out.ownInts).mono ?_
          rintro e w4 ⟨vB, vsB, rfl, OB, hnB, hbB⟩
          have HL4 := Lib.hid ((HL3.out.addM hbB OB).swap.tl)
          clear OB hbB HL3
          go_wp2_with (at_builtin; refine wp_joinE rfl _ _ rfl HL4.out hnB hno rfl rfl HLN.out ?_)
          intro v5 vs5 w5 L5 hn5
          have HL5 := Lib.hid L5
          clear L5 HL4
          go_wp2_with fail
          go_roundw
          case rel => exact ⟨x + 1, vs5, by omega, by go_num, hn5, by rw [HX.out]; exact HL5.out⟩
          case measure => simp [intOf]; omega
        · rw [hh] at HH
          rw [← prmC_skip n d P x hh] at L
          have HL := Lib.hid (show Law w [tM (.slice oa (prmC n d P x).length ocap) vs (prmC n d P (x + 1))] wr by rw [prmC_skip n d P x hh] at L ⊢; exact L)
          clear L hh
          go_wp2_with fail
          refine HH.out.mono ?_
          rintro e w2 ⟨rfl, hw⟩
          subst w2
          go_wp2_with fail
          go_roundw
          case rel => exact ⟨x + 1, vs, by omega, by go_num, hno, HL.out⟩
          case measure => simp [intOf]; omega
      · obtain rfl : x = n := by omega
        rw [prmC_last] at L hno ⊢
        have HL := Lib.hid L
        clear L
        go_wp2_with fail
        go_ret
        exact ⟨_, _, rfl, HL.out.ownMLo, hno, HL.out.below⟩
end Go.Proofs.Ytdimbnkgomfojaa
end

section
namespace Go.Proofs.Ytdimbnkgomfojaa
open Go.RowKit Go.WideShapes

set_option maxRecDepth 100000 in
set_option maxHeartbeats 1600000 in
theorem hiGood_any (r c : Int) (xs : List Int) (w : World) (hx : xs.length ≤ 1048576) (a : Option Addr) (cap : Nat) (hr : Reads w a xs.length xs) :
    Calls Try.prog 86 #[.agg #[.int .i64 r, .int .i64 c, .slice a xs.length cap]] w fun e w' => e = .returned (.bool (sqB r c xs)) ∧ Below w.heap.size w w' := by
  have L0 := (Law.start w).box (.int .i64 r) (.int .i64 c) (.slice a xs.length cap) 29
  have hr0 := L0.reads hr
  cases hg : goodB r c xs
  · rw [show sqB r c xs = false by simp [sqB, hg]]
    go_enter Try.func86, Try.ntmps86
    go_wp2_with fail
    refine (at_boolB (boGood_any r c a cap xs _ hx hr0) hg).mono ?_
    rintro e w1 ⟨rfl, hb⟩
    have HB := Lib.hid (L0.kept hb).below
    clear L0 hb hg hr0
    go_wp2_with fail
    go_ret
    exact ⟨rfl, HB.out⟩
  · rw [show sqB r c xs = (r == c) by simp [sqB, hg]]
    go_enter Try.func86, Try.ntmps86
    go_wp2_with fail
    refine (at_boolB (boGood_any r c a cap xs _ hx hr0) hg).mono ?_
    rintro e w1 ⟨rfl, hb⟩
    have HB := Lib.hid (L0.kept hb).below
    have ⟨_, k0, k1, k2, _⟩ := (L0.kept hb).ownBox
    clear L0 hb hg hr0
    go_wp2_with fail
    go_ret
    exact ⟨rfl, HB.out⟩

set_option maxRecDepth 100000 in
set_option maxHeartbeats 3200000 in
theorem hiHits_any (n : Nat) (r c : Int) (xs Q : List Int) (w : World) (hx : xs.length ≤ 1048576) (hlen : xs.length = n) (hn : n ≤ 6) (hgc : ∀ k, 0 ≤ xs.getD k 0 ∧ xs.getD k 0 < 64) (hQ : ∀ j, j < n → 0 ≤ Q.getD j 0 ∧ Q.getD j 0 < 6)
    (lo : Nat) (s : Value) (hO : Own w lo s xs) (qa : Option Addr) (qp : Nat) (hr : Reads w qa n Q) :
    Calls Try.prog 88 #[.agg #[.int .i64 r, .int .i64 c, s], .slice qa n qp] w fun e w' => e = .returned (.int .i64 (hitN (bt xs) Q n : Nat)) ∧ Below w.heap.size w w' := by
  have L0 := (Law.start w).box (.int .i64 r) (.int .i64 c) s 29
  have HB := Lib.hid (fun (j l : Nat) (W : World) (hj : j < n) (hl : l < 6) (h : Own W lo s xs) => boHas_any r c xs j l W (by omega) hx hl (hgc j) lo s h)
  have HO := Lib.hid hO
  obtain ⟨a, cap, rfl, _⟩ := hO.reads
  have HR := Lib.hid hr
  have HQ := Lib.hid hQ
  have HL := Lib.hid L0
  have hn6 : (n : Int) ≤ 6 := by omega
  clear L0 hO hr hQ hgc hlen
  go_enter Try.func88, Try.ntmps88
  go_wp2_with fail
  go_loopw [5, 10] (fun t i wr => ∃ j : Nat, j ≤ n ∧ i = .int .i64 j ∧ t = .int .i64 (hitN (bt xs) Q j : Nat) ∧ Law w [tBox w.heap.size (.int .i64 r) (.int .i64 c) (.slice a xs.length cap)] wr) (fun _ i _ => n - (intOf i).toNat)
  case atStart => exact ⟨0, Nat.zero_le _, rfl, rfl, HL.out⟩
  case round =>
    clear HL
    obtain ⟨j, hj, rfl, rfl, L⟩ := hrel
    by_cases hlt : j < n
    · have ⟨_, k0, k1, k2, _⟩ := L.ownBox
      obtain ⟨b1, o1, rfl, hb1, hc1⟩ := reads_row (L.reads HR.out) (by omega)
      have hcj := hc1 j hlt
      obtain ⟨q1, q2⟩ := HQ.out j hlt
      have HN := Lib.hid (show hitN (bt xs) Q (j + 1) = hitN (bt xs) Q j + if bt xs j (Q.getD j 0).toNat = true then 1 else 0 from rfl)
      obtain ⟨l, hl⟩ := Int.eq_ofNat_of_zero_le q1
      rw [hl, Int.toNat_natCast] at HN
      rw [hl] at hcj
      have hbc := HB.out j l wr hlt (by omega) (HO.out.kept L.below)
      have hle := hitN_le (bt xs) Q j
      rw [show ((xs.getD j 0).toNat.testBit l) = bt xs j l from rfl] at hbc
      generalize hitN (bt xs) Q j = t at *
      have HL := Lib.hid L
      clear L hc1 hb1 q1 q2 hl
      cases hB : bt xs j l
      · rw [hB] at hbc HN
        have HBC := Lib.hid hbc
        clear hbc hB
        go_wp2_with fail
        refine HBC.out.mono ?_
        rintro e w2 ⟨rfl, hb⟩
        have HL2 := Lib.hid (HL.out.kept hb)
        clear HL hb k0 k1 k2
        go_wp2_with fail
        go_roundw
        case rel => exact ⟨j + 1, by omega, by go_num, by rw [HN.out]; simp, HL2.out⟩
        case measure => simp [intOf]; omega
      · rw [hB] at hbc HN
        have HBC := Lib.hid hbc
        have htl : (t : Int) ≤ 6 := by omega
        have ht0 : (0 : Int) ≤ t := by omega
        clear hbc hB
        go_wp2_with fail
        refine HBC.out.mono ?_
        rintro e w2 ⟨rfl, hb⟩
        have HL2 := Lib.hid (HL.out.kept hb)
        clear HL hb k0 k1 k2
        go_wp2_with fail
        go_roundw
        case rel => exact ⟨j + 1, by omega, by go_num, by rw [HN.out]; simp, HL2.out⟩
        case measure => simp [intOf]; omega
    · obtain rfl : j = n := by omega
      have HB2 := Lib.hid L.below
      clear L
      go_wp2_with fail
      go_ret
      exact ⟨rfl, HB2.out⟩

theorem prm_in (n d : Nat) : ∀ P, (∀ y ∈ P, 0 ≤ y ∧ y < (n : Int)) → ∀ Q ∈ prm n d P, ∀ y ∈ Q, 0 ≤ y ∧ y < (n : Int) := by
  induction d with
  | zero => intro P hP Q h; rw [prm, List.mem_singleton] at h; rw [h]; exact hP
  | succ d ih =>
    intro P hP Q h
    rw [prm, List.mem_flatMap] at h
    obtain ⟨x, hx, h⟩ := h
    have hx := List.mem_range.1 hx
    split at h
    · cases h
    · refine ih _ (fun y hy => ?_) Q h
      rw [List.mem_append, List.mem_singleton] at hy
      rcases hy with hy | hy
      · exact hP y hy
      · rw [hy]; omega
theorem prm_cell (n : Nat) (Q : List Int) (h : Q ∈ prm n n []) : Q.length = n ∧ ∀ j, j < n → 0 ≤ Q.getD j 0 ∧ Q.getD j 0 < n := by
  have hl := prm_rows n n [] Q h
  simp at hl
  refine ⟨hl, fun j hj => ?_⟩
  have := prm_in n n [] (by simp) Q h (Q[j]'(by omega)) (List.getElem_mem _)
  simpa [List.getD, show j < Q.length by omega] using this

end Go.Proofs.Ytdimbnkgomfojaa
end

section
namespace Go.Proofs.Ytdimbnkgomfojaa
open Go.RowKit Go.WideShapes

theorem falG_abs (x : Int) (hx : Abs 20 x) (k : Nat) (hk : k ≤ 12) : Abs ((32 ^ k : Nat) : Int) (fal x k) := by
  induction k with
  | zero => simp [fal, Abs]
  | succ k ih =>
    rw [fal, Nat.pow_succ]
    exact (ih (by omega)).mul (show Abs ((32 : Nat) : Int) (x - k) by unfold Abs at *; omega)
theorem falG_bd (x : Int) (hx : Abs 20 x) (k : Nat) (hk : k ≤ 12) : Abs 1152921504606846976 (fal x k) :=
  (falG_abs x hx k hk).mono (by
    have h2 : 32 ^ k ≤ 32 ^ 12 := Nat.pow_le_pow_right (by omega) hk
    have h3 : 32 ^ 12 = 1152921504606846976 := by decide
    omega)
theorem falG_wrap (x : Int) (hx : Abs 20 x) (j : Nat) (hj : j ≤ 11) : wrap64 (fal x j * (x - j)) = fal x (j + 1) := by
  have h1 := falG_bd x hx (j + 1) (by omega)
  rw [show fal x j * (x - j) = fal x (j + 1) from rfl]
  unfold Abs at h1
  exact IntWalk.wrap64_in _ (by omega)
theorem fctG_bd (k : Nat) (hk : k ≤ 12) : 1 ≤ fct k ∧ fct k ≤ 479001600 := by
  have key : ∀ k : Fin 13, 1 ≤ fct k ∧ fct k ≤ 479001600 := by decide +kernel
  exact key ⟨k, by omega⟩
theorem chsG_le (n k : Nat) (hn : n ≤ 12) (hk : k ≤ 12) : chs n k ≤ 924 := by
  have key : ∀ n : Fin 13, ∀ k : Fin 13, chs n k ≤ 924 := by decide +kernel
  exact key ⟨n, by omega⟩ ⟨k, by omega⟩
theorem chsG_div (n k : Nat) (hn : n ≤ 12) (hk : k ≤ 12) : wrap64 ((fal n k).tdiv (fct k)) = chs n k ∧ fct k ≠ 0 := by
  have key : ∀ n : Fin 13, ∀ k : Fin 13, wrap64 ((fal ((n : Nat) : Int) (k : Nat)).tdiv (fct (k : Nat))) = (chs (n : Nat) (k : Nat) : Nat) ∧ fct (k : Nat) ≠ 0 := by decide +kernel
  exact key ⟨n, by omega⟩ ⟨k, by omega⟩


/-- 1 or -1. -/
def Unit1 (x : Int) : Prop := x = 1 ∨ x = -1
theorem unit_pow {x : Int} (h : Unit1 x) (k : Nat) : Unit1 (x ^ k) := by
  induction k with
  | zero => exact .inl (Int.pow_zero x)
  | succ k ih =>
    rw [Int.pow_succ]
    unfold Unit1 at *
    rcases ih with e | e <;> rcases h with h | h <;> rw [e, h] <;> simp
theorem unit_abs {x : Int} (h : Unit1 x) : Abs ((1 : Nat) : Int) x := by
  unfold Unit1 at h
  unfold Abs
  omega

/-- One term of what shifting the variable does. -/
def shT (ys : List Int) (u : Int) (k j : Nat) : Int := ys.getD j 0 * (chs j k : Nat) * u ^ (j - k)
theorem shT_abs (ys : List Int) (u : Int) (hu : Unit1 u) (k j : Nat) (hk : k ≤ 12) (hj : j ≤ 12) (hy : Abs 1000000000000 (ys.getD j 0)) : Abs 924000000000000 (ys.getD j 0 * (chs j k : Nat)) ∧ Abs 924000000000000 (shT ys u k j) := by
  have h1 := chsG_le j k hj hk
  have h2 : Abs 924000000000000 (ys.getD j 0 * (chs j k : Nat)) := (Abs.mul (a := 1000000000000) (b := 924) hy (by unfold Abs; omega)).mono (by decide)
  exact ⟨h2, (Abs.mul (a := 924000000000000) (b := 1) h2 (unit_abs (unit_pow hu _))).mono (by decide)⟩
theorem shS_abs (ys : List Int) (u : Int) (hu : Unit1 u) (k n : Nat) (hk : k ≤ 12) (hn : n ≤ 13) (hy : ∀ j, j < n → Abs 1000000000000 (ys.getD j 0)) : Abs 12012000000000000 (sumT (shT ys u k) n) :=
  (sumT_abs _ 924000000000000 n (fun j hj => (shT_abs ys u hu k j hk (by omega) (hy j hj)).2)).mono (by omega)

end Go.Proofs.Ytdimbnkgomfojaa
end
