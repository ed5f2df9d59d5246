import Derived.Test.YtaipcmplpjkebaaFold17
import Derived.Test.YtaipcmplpjkebaaFold20
import Derived.Test.YtaipcmplpjkebaaFold21
import Derived.Test.YtaipcmplpjkebaaFold6
import Derived.Laws.OwnMore
import Derived.Test.YtaipcmplpjkebaaFold12
import Derived.Test.YtaipcmplpjkebaaFold14
import Derived.IntWalk
import Derived.Deep.RegionHeld3

section
namespace Go.Proofs.Ytaipcmplpjkebaa
open Go.RowKit Go.WideShapes

theorem prm_bd (n d : Nat) (hn : n ≤ 6) (hd : d ≤ 6) (P : List Int) : (prm n d P).length ≤ 46656 := by
  have h1 := prm_len n d P
  have h2 : n ^ d ≤ 6 ^ d := Nat.pow_le_pow_left hn d
  have h3 : 6 ^ d ≤ 6 ^ 6 := Nat.pow_le_pow_right (by omega) hd
  have h4 : 6 ^ 6 = 46656 := by decide
  omega
theorem prmC_bd (n d : Nat) (hn : n ≤ 6) (hd : d ≤ 5) (P : List Int) (x : Nat) (hx : x ≤ n) : (prmC n d P x).length ≤ 46656 := by
  have h1 := prmC_len n d P x
  have h2 : n ^ d ≤ 6 ^ d := Nat.pow_le_pow_left hn d
  have h3 : 6 ^ d ≤ 6 ^ 5 := Nat.pow_le_pow_right (by omega) hd
  have h4 : 6 ^ 5 = 7776 := by decide
  have h5 : x * n ^ d ≤ 6 * 7776 := Nat.mul_le_mul (by omega) (by omega)
  omega

set_option maxRecDepth 100000 in
set_option maxHeartbeats 6400000 in
theorem hiAll_any (n : Nat) (hn : n ≤ 6) : ∀ (d : Nat) (P : List Int), P.length + d = n → ∀ (w : World) (lop : Nat) (pv : Value), Own w lop pv P →
    Calls Try.prog 119 #[.int .i64 n, pv] w fun e w' => ∃ v vs, e = .returned v ∧ OwnM w' w.heap.size v vs (prm n d P) ∧ (vs = [] → v = .slice none 0 0) ∧ Below w.heap.size w w' := by
  intro d
  induction d with
  | zero =>
    intro P hP w lop pv hO
    obtain ⟨pa, pcap, rfl, hrP⟩ := hO.reads
    have hPn : P.length = n := by omega
    have hPle : P.length ≤ 1048576 := by omega
    have HC := Lib.hid (l1Own_any P w hPle _ hO.src)
    have HPN := Lib.hid hPn
    rw [hPn] at HC ⊢
    have heq : ((n : Int) == n) = true := by simp
    clear hO hrP hP hPn hPle
    go_enter Try.func119, Try.ntmps119
    go_wp2_with fail
    refine HC.out.mono ?_
    rintro e w1 ⟨v, rfl, hO, hb⟩
    obtain ⟨va, vp, rfl, _⟩ := hO.reads
    have HS := Lib.hid (OwnM.single hO hb.size)
    have HB := Lib.hid (below_on hb (below_new (.cells #[.slice va P.length vp] 25)))
    clear hb hO HC
    go_wp2_with fail
    go_ret
    exact ⟨_, _, rfl, HS.out, fun h => by simp at h, HB.out⟩
  | succ d ih =>
    intro P hP w lop pv hO
    obtain ⟨pa, pcap, rfl, hrP⟩ := hO.reads
    have HO := Lib.hid hO
    have HRP := Lib.hid hrP
    have hPle : P.length ≤ 1048576 := by omega
    have HPle := Lib.hid hPle
    have hne : ((P.length : Int) == n) = false := by rw [beq_eq_false_iff_ne]; omega
    have HIH := Lib.hid (fun (x : Nat) (W : World) (pv : Value) (h : Own W 0 pv (P ++ [(x : Int)])) => ih (P ++ [(x : Int)]) (by simp; omega) W 0 pv h)
    have hd5 : d ≤ 5 := by omega
    have HPL := Lib.hid hP
    have HBC := Lib.hid (fun x hx => prmC_bd n d hn hd5 P x hx)
    have HBP := Lib.hid (fun Q => prm_bd n d hn (by omega) Q)
    have hn6 : (n : Int) ≤ 6 := by omega
    have HL := Lib.hid (Law.start w).nilM
    clear hO hrP ih hPle hP
    go_enter Try.func119, Try.ntmps119
    go_wp2_with fail
    clear hne
    go_loopw [5, 6] (fun o i wr => ∃ (x : Nat) (vs : List Value), x ≤ n ∧ i = .int .i64 x ∧ (vs = [] → o = .slice none 0 0) ∧ Law w [tM o vs (prmC n d P x)] wr) (fun _ i _ => n - (intOf i).toNat)
    case atStart => exact ⟨0, [], Nat.zero_le _, rfl, fun _ => rfl, HL.out⟩
    case round =>
      clear HL
      obtain ⟨x, vs, hx, rfl, hno, L⟩ := hrel
      obtain ⟨oa, ocap, rfl⟩ := L.ownM.formR
      by_cases hlt : x < n
      · have HH := Lib.hid (l1Has_any pa P.length pcap P (x : Int) wr HPle.out rfl (L.reads HRP.out))
        cases hh : hasI P (x : Int)
        · rw [hh] at HH
          have hnx := prmC_next n d P x hh
          have hlx := HBC.out x (by omega)
          have hlp := HBP.out (P ++ [(x : Int)])
          have HC := Lib.hid (fun W (hb : Below w.heap.size w W) => l1Own_any P W HPle.out _ (HO.out.kept hb).src)
          have HI := Lib.hid (HIH.out x)
          obtain ⟨C, hC⟩ : ∃ C, C = prmC n d P x := ⟨_, rfl⟩
          rw [← hC] at hnx L hlx hno ⊢
          generalize prm n d (P ++ [(x : Int)]) = D at *
          have HX := Lib.hid hnx
          have HLN := Lib.hid (show C.length + D.length ≤ 1048576 by omega)
          have HL := Lib.hid L
          clear L hh hnx hlx hlp hC
          go_wp2_with fail
          refine HH.out.mono ?_
          rintro e w2 ⟨rfl, hw⟩
          subst w2
          go_wp2_with fail
          refine (HC.out _ HL.out.below).mono ?_
          rintro e w2 ⟨v1, rfl, hO1, hb1⟩
          have L1 := (HL.out.own hb1 hO1).kept (below_new (.cells #[.int .i64 (x : Int)] 3))
          have HX2 := Lib.hid (show (w2.alloc (.cells #[.int .i64 (x : Int)] 3)).cell? ⟨w2.heap.size, 0, none⟩ = some (.int .i64 (x : Int)) by rw [World.cell?_alloc_at _ _ _ _ rfl]; rfl)
          have HL1 := Lib.hid L1
          clear L1 hO1 hb1 HL
          go_wp2_with (at_builtin; go_loud (refine wp_appendI rfl _ _ rfl (x : Int) HL1.out w2.heap.size rfl rfl HX2.out (by have := HPle.out; have := HPL.out; omega) (P ++ [(x : Int)]) rfl ?_))
          intro g1 cap1 w3 L3
          have HL3 := Lib.hid L3
          clear L3 HL1 HX2
          go_wp2_with fail
          refine (HI.out _ _ HL3.out.ownInts).mono ?_
          rintro e w4 ⟨vB, vsB, rfl, OB, hnB, hbB⟩
          have HL4 := Lib.hid ((HL3.out.addM hbB OB).swap.tl)
          clear OB hbB HL3
          go_wp2_with (at_builtin; refine wp_joinE rfl _ _ rfl HL4.out hnB hno rfl rfl HLN.out ?_)
          intro v5 vs5 w5 L5 hn5
          have HL5 := Lib.hid L5
          clear L5 HL4
          go_wp2_with fail
          go_roundw
          case rel => exact ⟨x + 1, vs5, by omega, by go_num, hn5, by rw [HX.out]; exact HL5.out⟩
          case measure => simp [intOf]; omega
        · rw [hh] at HH
          rw [← prmC_skip n d P x hh] at L
          have HL := Lib.hid (show Law w [tM (.slice oa (prmC n d P x).length ocap) vs (prmC n d P (x + 1))] wr by rw [prmC_skip n d P x hh] at L ⊢; exact L)
          clear L hh
          go_wp2_with fail
          refine HH.out.mono ?_
          rintro e w2 ⟨rfl, hw⟩
          subst w2
          go_wp2_with fail
          go_roundw
          case rel => exact ⟨x + 1, vs, by omega, by go_num, hno, HL.out⟩
          case measure => simp [intOf]; omega
      · obtain rfl : x = n := by omega
        rw [prmC_last] at L hno ⊢
        have HL := Lib.hid L
        clear L
        go_wp2_with fail
        go_ret
        exact ⟨_, _, rfl, HL.out.ownMLo, hno, HL.out.below⟩
end Go.Proofs.Ytaipcmplpjkebaa
end

section
namespace Go.Proofs.Ytaipcmplpjkebaa
open Go.RowKit Go.WideShapes



end Go.Proofs.Ytaipcmplpjkebaa
end

section
namespace Go.Proofs.Ytaipcmplpjkebaa
open Go.RowKit Go.WideShapes

/-- The rook numbers. -/
def numL (n m : Nat) (B : Nat → Nat → Bool) : List Int := lstL (min n m + 1) (wR m B n 0 0)
theorem numL_len (n m : Nat) (B : Nat → Nat → Bool) : (numL n m B).length = min n m + 1 := lstL_len _ _
theorem numL_get (n m : Nat) (B : Nat → Nat → Bool) (k : Nat) (h : k < min n m + 1) : (numL n m B).getD k 0 = wR m B n 0 0 k := lstL_get _ _ k h
theorem numL_bd (n m : Nat) (hn : n ≤ 6) (hm : m ≤ 6) (B : Nat → Nat → Bool) (k : Nat) : 0 ≤ (numL n m B).getD k 0 ∧ (numL n m B).getD k 0 ≤ 117649 := by
  by_cases h : k < min n m + 1
  · rw [numL_get n m B k h]
    have := wR_le m hm B n 0 0 k
    have := pow7 n hn
    omega
  · rw [List.getD_eq_getElem?_getD, List.getElem?_eq_none (by rw [numL_len]; omega)]
    simp
/-- The beginning of a list up to its last number that is not 0. -/
def shK (xs : List Int) : Nat → Nat
  | 0 => 0
  | k + 1 => if xs.getD k 0 = 0 then shK xs k else k + 1
theorem shK_le (xs : List Int) (k : Nat) : shK xs k ≤ k := by
  induction k with
  | zero => simp [shK]
  | succ k ih => rw [shK]; split <;> omega

def numB (r c : Int) (xs : List Int) : LR := if goodB r c xs then ⟨numL r.toNat c.toNat (bt xs), true⟩ else ⟨[], false⟩
theorem numB_len (r c : Int) (xs : List Int) : (numB r c xs).ys.length ≤ 1048576 := by
  unfold numB
  split
  · rename_i h
    have := good_facts h
    show (numL _ _ _).length ≤ _
    rw [numL_len]
    omega
  · simp


set_option maxRecDepth 100000 in
set_option maxHeartbeats 1600000 in
theorem implNumbers_any (r c : Int) (xs : List Int) (w : World) (hx : xs.length ≤ 1048576) (lo : Nat) (s : Value) (hO : Own w lo s xs) :
    Calls Try.prog 40 #[.agg #[.int .i64 r, .int .i64 c, s]] w fun e w' => AnsL (numB r c xs) w e w' := by
  have L0 := (Law.start w).box (.int .i64 r) (.int .i64 c) s 27
  obtain ⟨a, cap, rfl, hr⟩ := hO.reads
  have hr0 := L0.reads hr
  clear hO
  cases hg : goodB r c xs
  · rw [show numB r c xs = ⟨[], false⟩ by simp [numB, hg]]
    go_enter Try.func40, Try.ntmps40
    go_wp2_with fail
    refine (gridOf_no r c a cap xs _ hx hr0 hg).mono ?_
    rintro e w1 ⟨rfl, hb⟩
    have HB := Lib.hid (((L0.kept hb).kept (below_new (.cells #[.int .i64 0, .int .i64 0, .int .i64 0, .int .i64 0, .int .i64 0, .int .i64 0, .int .i64 0, .int .i64 0] 67))).below)
    clear L0 hb hg hr0
    go_wp2_with fail
    go_ret2
    exact ⟨_, rfl, Own.nil _ _, HB.out⟩
  · obtain ⟨g1, g2, g3, _⟩ := good_facts hg
    have hgc := good_cell hg
    obtain ⟨n, rfl⟩ := Int.eq_ofNat_of_zero_le (show 0 ≤ r by omega)
    obtain ⟨m, rfl⟩ := Int.eq_ofNat_of_zero_le (show 0 ≤ c by omega)
    rw [show numB n m xs = ⟨numL n m (bt xs), true⟩ by simp [numB, hg]]
    have HC := Lib.hid (gridOf_yes n m a cap xs _ hx hr0 hg)
    have HN := Lib.hid (fun W => rookNumbers_any n m (fun k => xs.getD k 0) W (by omega) (by omega) (fun k _ => hgc k))
    clear hg hr0 hgc
    go_enter Try.func40, Try.ntmps40
    go_wp2_with fail
    refine HC.out.mono ?_
    rintro e w1 ⟨rfl, hb⟩
    have HL := Lib.hid ((L0.kept hb).kept (below_new (.cells (gl n m (fun k => xs.getD k 0)).toArray 67)))
    clear L0 hb HC
    go_wp2_with fail
    refine (HN.out _).mono ?_
    rintro e w2 ⟨g, p, rfl, hO, hb⟩
    have HO := Lib.hid (hO.lower HL.out.below.size)
    have HB := Lib.hid (HL.out.kept hb).below
    clear HL hO hb HN
    go_wp2_with fail
    go_ret2
    exact ⟨_, rfl, HO.out, HB.out⟩
end Go.Proofs.Ytaipcmplpjkebaa
end

section
namespace Go.Proofs.Ytaipcmplpjkebaa
open Go.RowKit Go.WideShapes

theorem Own.capLe {w : World} {lo g L p : Nat} {xs : List Int} (h : Own w lo (.slice (some ⟨g, 0, none⟩) L p) xs) : L ≤ p := by
  rcases h.cases with ⟨h0, _⟩ | ⟨g', p', h0, _, _, h1, _⟩
  · cases h0
  · injection h0 with _ h2 h3
    omega

def sliceLen : Value → Nat
  | .slice _ n _ => n
  | _ => 0




end Go.Proofs.Ytaipcmplpjkebaa
end
