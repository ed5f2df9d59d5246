/- The first rows that refuse, in the specification; the plain part of a search that ends. No condition but the sizes. -/
import Derived.Test.YtdimbnkgomfojabCa
import Derived.Test.YtdimbnkgomfojabCc
namespace Go.Proofs.Ytdimbnkgomfojab
open Go.RowKit Go.WideShapes

theorem runW_goes (cont : Nat → Bool) (j : Nat) (h : (runW cont j).2 = true) : ∀ i, i < j → cont i = true := by
  induction j with
  | zero => intro i hi; omega
  | succ j ih =>
    intro i hi
    rw [runW] at h
    by_cases e : (runW cont j).2 = true
    · rw [if_pos e] at h
      by_cases e2 : i = j
      · rw [e2]; exact h
      · exact ih e i (by omega)
    · rw [if_neg e] at h
      exact absurd h e
theorem runW_end (cont : Nat → Bool) (s : Nat) : (runW cont s).2 = true ∨ ∃ j, j < s ∧ runW cont s = (j + 1, false) ∧ cont j = false ∧ (runW cont j).2 = true := by
  induction s with
  | zero => exact .inl rfl
  | succ s ih =>
    rcases ih with h | ⟨j, hj, h1, h2, h3⟩
    · rw [runW, if_pos h]
      cases hc : cont s
      · exact .inr ⟨s, by omega, rfl, hc, h⟩
      · exact .inl rfl
    · refine .inr ⟨j, by omega, ?_, h2, h3⟩
      rw [runW, h1]
      rfl
/-- The first one of a list that has a property, among the first j. -/
def firstW (p : List Int → Bool) (L : List (List Int)) (j : Nat) : Option (List Int) := (L.take j).find? p
theorem firstW_none (p : List Int → Bool) (L : List (List Int)) (j : Nat) (h : ∀ i R, i < j → L[i]? = some R → p R = false) : firstW p L j = none := by
  unfold firstW
  rw [List.find?_eq_none]
  intro R hR
  obtain ⟨i, hi, rfl⟩ := List.getElem_of_mem hR
  rw [List.length_take] at hi
  rw [List.getElem_take, h i _ (by omega) (List.getElem?_eq_getElem (by omega))]
  simp
theorem firstW_next (p : List Int → Bool) (L : List (List Int)) (j : Nat) (R : List Int) (hR : L[j]? = some R) (h : firstW p L j = none) : firstW p L (j + 1) = if p R then some R else none := by
  obtain ⟨hj, rfl⟩ := List.getElem?_eq_some_iff.1 hR
  unfold firstW at h ⊢
  rw [List.take_succ_eq_append_getElem hj, List.find?_append, h]
  simp [List.find?_cons]
  split <;> simp_all
theorem firstW_some (p : List Int → Bool) (L : List (List Int)) (j : Nat) (R : List Int) (h : firstW p L j = some R) : L.find? p = some R := by
  unfold firstW at h
  have : L = L.take j ++ L.drop j := (List.take_append_drop j L).symm
  rw [this, List.find?_append, h]
  rfl
theorem firstW_all (p : List Int → Bool) (L : List (List Int)) : firstW p L L.length = L.find? p := by
  unfold firstW
  rw [List.take_length]
def isRef (xs : List Int) (n m : Nat) (R : List Int) : Bool := decide (((colS xs n m R false).length : Int) < R.length)
def refL (xs : List Int) (n m : Nat) : LR := match (sets n).find? (isRef xs n m) with | some R => ⟨R, true⟩ | none => ⟨[], false⟩
def refR (r c : Int) (xs : List Int) : LR := if goodB r c xs then refL xs r.toNat c.toNat else ⟨[], false⟩
theorem refL_some (xs : List Int) (n m j : Nat) (R : List Int) (h : firstW (isRef xs n m) (sets n) j = some R) : refL xs n m = ⟨R, true⟩ := by
  unfold refL
  rw [firstW_some _ _ _ _ h]
theorem refL_none (xs : List Int) (n m : Nat) (h : firstW (isRef xs n m) (sets n) (sets n).length = none) : refL xs n m = ⟨[], false⟩ := by
  unfold refL
  rw [← firstW_all, h]
theorem refR_len (r c : Int) (xs : List Int) : (refR r c xs).ys.length ≤ 1048576 := by
  unfold refR
  split
  · rename_i h
    have h1 := good_facts h
    unfold refL
    split
    · rename_i R hR
      have := sets_short r.toNat (by omega) R (List.mem_of_find?_eq_some hR)
      show R.length ≤ _
      omega
    · simp
  · simp

set_option maxRecDepth 100000 in
set_option maxHeartbeats 3200000 in
theorem specRef_any (r c : Int) (xs : List Int) (w : World) (hx : xs.length ≤ 1048576) (lo : Nat) (s : Value) (hO : Own w lo s xs) :
    Calls Try.prog 46 #[.agg #[.int .i64 r, .int .i64 c, s]] w fun e w' => AnsL (refR r c xs) w e w' := by
  have L0 := (Law.start w).box (.int .i64 r) (.int .i64 c) s 28
  have HOO := Lib.hid hO
  obtain ⟨a, cap, rfl, hr⟩ := hO.reads
  have hr0 := L0.reads hr
  clear hO
  cases hg : goodB r c xs
  · rw [show refR r c xs = ⟨[], false⟩ by simp [refR, hg]]
    go_enter Try.func46, Try.ntmps46
    go_wp2_with fail
    refine (at_boolB (boGood_any r c a cap xs _ hx hr0) hg).mono ?_
    rintro e w1 ⟨rfl, hb⟩
    have HB := Lib.hid (L0.kept hb).below
    clear L0 hb hg hr0
    go_wp2_with fail
    go_ret2
    exact ⟨_, rfl, Own.nil _ _, HB.out⟩
  · obtain ⟨g1, g2, g3, _⟩ := good_facts hg
    obtain ⟨n, rfl⟩ := Int.eq_ofNat_of_zero_le (show 0 ≤ r by omega)
    obtain ⟨m, rfl⟩ := Int.eq_ofNat_of_zero_le (show 0 ≤ c by omega)
    have hn6 : n ≤ 6 := by omega
    rw [show refR n m xs = refL xs n m by simp [refR, hg]]
    have HYS := Lib.hid (fun j R h => refL_some xs n m j R h)
    have HYN := Lib.hid (refL_none xs n m)
    have HC := Lib.hid (at_boolB (boGood_any n m a cap xs _ hx hr0) hg)
    have HS := Lib.hid (fun W => lcSets_slice n hn6 W)
    have HCL := Lib.hid (fun (R : List Int) (a2 : Option Addr) (p2 : Nat) (W : World) (hp : R.length ≤ 1048576) (h : Own W lo (.slice a xs.length cap) xs) (h2 : Reads W a2 R.length R) => lcColumns_any n m xs R false a2 p2 W hx hp hn6 (by omega) (by omega) (good_cell hg) lo _ h h2)
    have HNX := Lib.hid (fun j R => firstW_next (isRef xs n m) (sets n) j R)
    have HSH := Lib.hid (sets_short n hn6)
    have HCN := Lib.hid (fun R => colS_len xs n m R false)
    have HIR : Hid (∀ R, isRef xs n m R = decide (((colS xs n m R false).length : Int) < R.length)) := Lib.hid (fun R => rfl)
    have hm6 : m ≤ 6 := by omega
    have hL64 := (sets_len n hn6).2
    have HZ : Hid (firstW (isRef xs n m) (sets n) 0 = none) := Lib.hid rfl
    clear hg hr0 hr
    go_enter Try.func46, Try.ntmps46
    go_wp2_with fail
    refine HC.out.mono ?_
    rintro e w1 ⟨rfl, hb⟩
    have L1 := L0.kept hb
    have ⟨_, k0, k1, k2, _⟩ := L1.ownBox
    have HL := Lib.hid L1
    clear L0 L1 hb HC
    go_wp2_with fail
    refine (HS.out _).mono ?_
    rintro e w2 ⟨g, cp, vs, rfl, hM, hb⟩
    have HL2 := Lib.hid (HL.out.addM hb hM)
    clear HL hM hb k0 k1 k2
    go_wp2_with fail
    go_loopw [13] (fun i wr => ∃ k : Nat, k ≤ (sets n).length ∧ i = .int .i64 k ∧ Hid (firstW (isRef xs n m) (sets n) k = none) ∧ Law w [tM (.slice (some ⟨g, 0, none⟩) (sets n).length cp) vs (sets n), tBox w.heap.size (.int .i64 n) (.int .i64 m) (.slice a xs.length cap)] wr) (fun i _ => (sets n).length - (intOf i).toNat)
    case atStart => exact ⟨0, Nat.zero_le _, rfl, HZ, HL2.out⟩
    case round =>
      clear HL2
      obtain ⟨k, hk, rfl, HFW, L⟩ := hrel
      by_cases hlt : k < (sets n).length
      · have hat : (sets n)[k]? = some (sets n)[k] := List.getElem?_eq_getElem hlt
        obtain ⟨R, hRe⟩ : ∃ R, R = (sets n)[k] := ⟨_, rfl⟩
        rw [← hRe] at hat
        obtain ⟨a2, p2, hck, hrd, hRO⟩ := rowM_own L rfl k hlt R (fun _ => hRe.symm)
        have hnx := HNX.out k R hat HFW.out
        have hsh := HSH.out R (List.mem_of_getElem? hat)
        have hcn := HCN.out R
        have hir := HIR.out R
        obtain ⟨_, k0, k1, k2, _⟩ := L.tl.ownBox
        have hcl := HCL.out R a2 p2 wr (by omega) (HOO.out.kept L.below) hrd
        obtain ⟨cl, hcl0⟩ : ∃ cl, cl = colS xs n m R false := ⟨_, rfl⟩
        rw [← hcl0] at hir hcn hcl
        have HL := Lib.hid L
        have HCC := Lib.hid hcl
        have HRO := Lib.hid hRO
        have hk1 : (k : Int) < (sets n).length := by omega
        have hk0 : (0 : Int) ≤ k := by omega
        rw [hir] at hnx
        by_cases hlt2 : ((cl.length : Nat) : Int) < R.length
        · rw [show (if decide (((cl.length : Nat) : Int) < R.length) = true then some R else none) = some R by simp [hlt2]] at hnx
          have HY := Lib.hid (HYS.out (k + 1) R hnx)
          clear L hcl hat hRe hrd hRO hnx hir hcl0
          go_wp2_with fail
          refine HCC.out.mono ?_
          rintro e w3 ⟨v, rfl, hv, hb⟩
          obtain ⟨va, vp, rfl, _⟩ := hv.reads
          have HL3 := Lib.hid (And.intro (HRO.out.kept hb) (HL.out.kept hb).below)
          clear hv hb HL k0 k1 k2 hck
          go_wp2_with fail
          go_ret2
          rw [HY.out]
          exact ⟨_, rfl, HL3.out.1, HL3.out.2⟩
        · rw [show (if decide (((cl.length : Nat) : Int) < R.length) = true then some R else none) = none by simp [hlt2]] at hnx
          have HN := Lib.hid hnx
          clear L hcl hat hRe hrd hRO hnx hir hcl0
          go_wp2_with fail
          refine HCC.out.mono ?_
          rintro e w3 ⟨v, rfl, hv, hb⟩
          obtain ⟨va, vp, rfl, _⟩ := hv.reads
          have HL3 := Lib.hid (HL.out.kept hb)
          clear hv hb HL k0 k1 k2 hck
          go_wp2_with fail
          go_roundw
          case rel => exact ⟨k + 1, by omega, by go_num, HN, HL3.out⟩
          case measure => simp [intOf]; omega
      · obtain rfl : k = (sets n).length := by omega
        have HB := Lib.hid L.below
        have HY := Lib.hid (HYN.out HFW.out)
        clear L
        go_wp2_with fail
        go_ret2
        rw [HY.out]
        exact ⟨_, rfl, Own.nil _ _, HB.out⟩

end Go.Proofs.Ytdimbnkgomfojab
