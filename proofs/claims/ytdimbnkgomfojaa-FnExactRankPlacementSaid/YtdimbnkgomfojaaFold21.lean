import Derived.Test.YtdimbnkgomfojaaFold18
import Derived.Test.YtdimbnkgomfojaaFold19
import Derived.Test.YtdimbnkgomfojaaFold20
import Derived.Test.YtdimbnkgomfojaaFold13
import Derived.Laws.OwnMore
import Derived.Deep.RegionHeld3
namespace Go.Proofs.Ytdimbnkgomfojaa
open Go.RowKit Go.WideShapes

/-- append of one number to a slice of the call's own, at a step of a region that draws its order. -/
theorem step_appI {w0 w : World} {ops : Array Oper} {o : Oper} {a : Act} {K : Act → World → Prop} {Q : Exit → Act → World → Prop} {E : Prop} (hgd : o.guard = none) (s x : Operand)
    (ho : o.op = .call { callee := .builtin .append, args := #[s, x], argTypes := #[22, 22] }) {ts : List Thing} {v : Value} {xs : List Int} (y : Int)
    (L : Law w0 (tOwn v xs :: ts) w) (g0 : Nat) (hs : a.eval s = v) (hx : a.eval x = .slice (some ⟨g0, 0, none⟩) 1 1) (hnew : w.cell? ⟨g0, 0, none⟩ = some (.int .i64 y)) (hl : xs.length + 1 ≤ 1048576)
    (h : ∀ g cap w', Law w0 (tOwn (.slice (some ⟨g, 0, none⟩) (xs.length + 1) cap) (xs ++ [y]) :: ts) w' → K (a.put o.dst (.slice (some ⟨g, 0, none⟩) (xs.length + 1) cap)) w') :
    if Region.wanted o (yielded ops a.tmps) = true then Oper.wp Try.prog o a w K Q else E := by
  refine step_app hgd s x ho 0 v xs xs.length y g0 hs hx L.ownInts rfl hnew hl (Nat.zero_le _) _ rfl ?_
  intro g cap w' h1 h2 h3 h4
  refine h g cap w' ?_
  exact Law.write' (ts := []) L (Chg.of_grown h2 (fun _ e => e)) (tOwn _ (xs ++ [y])) (fun k hk => by
    have e : g = k := by simpa [tOwn, Value.ownBlock] using hk
    subst e
    rcases h3 with h3 | h3
    · exact .inl h3
    · exact .inr ⟨by omega, h4⟩) h1

/-- append of all rows of another one, at a step of a region that draws its order; of nothing, too. -/
theorem step_joinE {w0 w : World} {ops : Array Oper} {o : Oper} {a : Act} {K : Act → World → Prop} {Q : Exit → Act → World → Prop} {E : Prop} (hgd : o.guard = none) (s x : Operand)
    (ho : o.op = .call { callee := .builtin .append, args := #[s, x], argTypes := #[26, 26] }) {ts : List Thing} {v v2 : Value} {vs vs2 : List Value} {rss rss2 : List (List Int)}
    (L : Law w0 (tM v2 vs2 rss2 :: tM v vs rss :: ts) w) (h2 : vs2 = [] → v2 = .slice none 0 0) (h1 : vs = [] → v = .slice none 0 0) (hs : a.eval s = v) (hx : a.eval x = v2) (hl : rss.length + rss2.length ≤ 1048576)
    (h : ∀ v' vs' w', Law w0 (tM v' vs' (rss ++ rss2) :: ts) w' → (vs' = [] → v' = .slice none 0 0) → K (a.put o.dst v') w') :
    if Region.wanted o (yielded ops a.tmps) = true then Oper.wp Try.prog o a w K Q else E := by
  have e1 := L.tl.ownM.len
  have e2 := L.ownM.len
  by_cases hz : vs2 = []
  · have hv := h2 hz
    subst hz hv
    have hr : rss2 = [] := by simpa using e2
    subst hr
    obtain ⟨i0, hi, hz0, hz1, hz2⟩ := info_parts Try.infoL
    have hrun := run_append_owned_none (P := Try.prog) (w := w) 0 26 o.type 22 i0 1 Try.underlying26 hi v vs.length vs L.tl.ownM.outer
    have hw : Region.wanted o (yielded ops a.tmps) = true := by simp [Region.wanted, hgd]
    rw [if_pos hw]
    unfold Oper.wp
    simp [execOp, ho, resolve, invoke, builtin, hs, hx, hrun, Result.andThen]
    refine h v vs w ?_ h1
    rw [List.append_nil]
    exact L.tl
  · rcases L.ownM.cases with ⟨_, h⟩ | ⟨g, cap, rfl, q1, q2, q3, q4⟩
    · exact absurd h hz
    · refine step_joinM hgd s x ho g vs2.length cap L rfl (List.length_pos_iff.2 hz) hs hx (fun u hu => ?_) (by omega) ?_
      · obtain ⟨b, hb⟩ := mem_zip_of vs2 rss2 e2 u hu
        exact own_oneCell (L.ownM.rows _ hb)
      · intro g' cap' w' L'
        exact h _ _ w' L' (fun e => by simp [hz] at e)

theorem take_col (t c q : Nat) : (t ||| 2 ^ c).testBit q = (t.testBit q || decide (c = q)) := by
  rw [Nat.testBit_or, Nat.testBit_two_pow]
theorem hasI_off (P : List Int) (q : Nat) : hasI (P ++ [-1]) (q : Int) = hasI P (q : Int) := by
  rw [hasI_snoc, show ((-1 : Int) == (q : Int)) = false by rw [beq_eq_false_iff_ne]; omega, Bool.or_false]
theorem hasI_on (P : List Int) (c q : Nat) : hasI (P ++ [(c : Int)]) (q : Int) = (hasI P (q : Int) || decide (c = q)) := by
  rw [hasI_snoc]
  congr 1
  rw [Bool.eq_iff_iff, beq_iff_eq, decide_eq_true_eq]
  omega
theorem allC_len (m : Nat) (hm : m ≤ 6) (B : Nat → Nat → Bool) (d f t k : Nat) (P : List Int) (most c : Nat) (hd : d ≤ 5) (hc : c ≤ m) : (allC m B d f t k P most c).length ≤ 117649 := by
  obtain ⟨tl, ht⟩ := plc_split m B d f t k c m hc
  have h1 : (plc m B d f t k c).length ≤ (pl m B (d + 1) f t k).length := by rw [← plc_full, ht, List.length_append]; omega
  rw [pl_len] at h1
  have h2 := Nat.le_trans (wR_le m (by omega) B (d + 1) f t k) (pow7 (d + 1) (by omega))
  unfold allC
  rw [List.length_take, List.length_map]
  omega
theorem allL_len (m : Nat) (hm : m ≤ 6) (B : Nat → Nat → Bool) (d f t k : Nat) (P : List Int) (most : Nat) (hd : d ≤ 6) : (allL m B d f t k P most).length ≤ 117649 := by
  have h2 := Nat.le_trans (wR_le m (by omega) B d f t k) (pow7 d (by omega))
  unfold allL
  rw [List.length_take, List.length_map, pl_len]
  omega

set_option maxRecDepth 100000 in
set_option maxHeartbeats 6400000 in
theorem roAll_any (n m : Nat) (xs : List Int) (hx : xs.length ≤ 1048576) (hn : n ≤ 6) (hm : m ≤ 6) (hlen : xs.length = n) (hgc : ∀ k, 0 ≤ xs.getD k 0 ∧ xs.getD k 0 < 64) : ∀ (d f t k most : Nat) (P : List Int), f + d = n → P.length = f →
    (∀ c : Nat, c < 6 → t.testBit c = hasI P (c : Int)) → k ≤ 6 → 0 < most → most ≤ 1000000 → ∀ (w : World) (lo : Nat) (s : Value) (lop : Nat) (pv : Value), Own w lo s xs → Own w lop pv P →
    Calls Try.prog 57 #[.agg #[.int .i64 n, .int .i64 m, s], pv, .int .i64 k, .int .i64 most] w fun e w' => ∃ v vs, e = .returned v ∧ OwnM w' w.heap.size v vs (allL m (bt xs) d f t k P most) ∧ (vs = [] → v = .slice none 0 0) ∧ Below w.heap.size w w' := by
  have HG3 := Lib.hid hlen
  have HGC := Lib.hid hgc
  clear hlen hgc
  intro d
  induction d with
  | zero =>
    intro f t k most P hf hPl ht hk hm0 hm1 w lo s lop pv hO hP
    have hfn : f = n := by omega
    subst hfn
    have L0 := (Law.start w).box (.int .i64 f) (.int .i64 m) s 29
    have hP1 := hP.kept L0.below
    obtain ⟨a, cap, rfl, _⟩ := hO.reads
    obtain ⟨pa, pcap, rfl, hrP⟩ := hP.reads
    have hPle : P.length ≤ 1048576 := by omega
    have HA := Lib.hid (allL_leaf m (bt xs) f t P most hm0)
    have HA2 := Lib.hid (fun h => allL_none m (bt xs) 0 f t k P most h)
    have HPL := Lib.hid hPl
    have HPle := Lib.hid hPle
    rw [hPl] at hP1 ⊢
    have ⟨_, k0, k1, k2, _⟩ := L0.ownBox
    have HP1 := Lib.hid hP1
    have HL := Lib.hid L0
    clear L0 hO hP hrP ht hf hPl hPle hP1
    obtain ⟨R, hR⟩ : ∃ R, R = allL m (bt xs) 0 f t k P most := ⟨_, rfl⟩
    rw [← hR]
    have HR := Lib.hid hR
    clear hR
    cases k with
    | zero =>
      rw [show ((0 : Nat) : Int) = 0 from rfl]
      go_enter Try.func57, Try.ntmps57
      go_wp2_with fail
      refine (l1Own_any P _ HPle.out _ (HP1.out).src).mono ?_
      rintro e w1 ⟨v, rfl, hO, hb⟩
      obtain ⟨va, vp, rfl, _⟩ := hO.reads
      have L1 := HL.out.own hb hO
      have HS := Lib.hid (OwnM.single L1.ownLo L1.below.size)
      have HB := Lib.hid (below_on L1.below (below_new (.cells #[.slice va P.length vp] 22)))
      clear HL hb hO L1 k0 k1 k2
      go_wp2_with fail
      go_ret
      rw [HR.out, HA.out]
      exact ⟨_, _, rfl, HS.out, fun h => by simp at h, HB.out⟩
    | succ k =>
      have HA3 := Lib.hid (HA2.out (by omega))
      have hk0 : (((k + 1 : Nat) : Int) == 0) = false := by rw [beq_eq_false_iff_ne]; omega
      have hk1 : ¬ ((k + 1 : Nat) : Int) = 0 := by omega
      have HB := Lib.hid HL.out.below
      obtain ⟨kk, hkk⟩ : ∃ kk : Int, kk = ((k + 1 : Nat) : Int) := ⟨_, rfl⟩
      rw [← hkk] at hk0 hk1 ⊢
      clear hkk hk HA HPL HPle HP1
      clear HL
      go_enter Try.func57, Try.ntmps57
      go_wp2_with fail
      go_ret
      rw [HR.out, HA3.out]
      exact ⟨_, _, rfl, OwnM.nil _ _, fun _ => rfl, HB.out⟩
  | succ d ih =>
    intro f t k most P hf hPl ht hk hm0 hm1 w lo s lop pv hO hP
    have L0 := (Law.start w).box (.int .i64 n) (.int .i64 m) s 29
    have HO := Lib.hid hO
    obtain ⟨a, cap, rfl, _⟩ := hO.reads
    obtain ⟨pa, pcap, rfl, hrP⟩ := hP.reads
    have hP' := hP
    rw [hPl] at hP' hrP
    have HP := Lib.hid hP'
    have HRP := Lib.hid hrP
    clear hP'
    have hPle : P.length ≤ 1048576 := by omega
    have HPL := Lib.hid hPl
    have HPle := Lib.hid hPle
    have hfn : ¬ (f : Int) = n := by omega
    have hsub : IntKind.i64.wrap ((n : Int) - f) = (n : Int) - f := IntWalk.i64_in _ (by omega)
    have ⟨_, k0, k1, k2, _⟩ := L0.ownBox
    have HL := Lib.hid L0
    obtain ⟨R, hR⟩ : ∃ R, R = allL m (bt xs) (d + 1) f t k P most := ⟨_, rfl⟩
    rw [← hR, hPl]
    by_cases hdk : d + 1 < k
    · rw [allL_none m (bt xs) (d + 1) f t k P most hdk] at hR
      have hlt : (n : Int) - f < k := by omega
      have HB := Lib.hid HL.out.below
      have HR := Lib.hid hR
      clear L0 hO hP hrP ht hf hPl hPle HL hR ih hdk
      go_enter Try.func57, Try.ntmps57
      go_wp2_with fail
      go_ret
      rw [HR.out]
      exact ⟨_, _, rfl, OwnM.nil _ _, fun _ => rfl, HB.out⟩
    · have hlt : ¬ (n : Int) - f < k := by omega
      have HR := Lib.hid hR
      have HT := Lib.hid ht
      have hih1 : ∀ (W : World) (pv : Value), Own W lo (.slice a xs.length cap) xs → Own W 0 pv (P ++ [-1]) → Calls Try.prog 57 #[.agg #[.int .i64 n, .int .i64 m, .slice a xs.length cap], pv, .int .i64 k, .int .i64 most] W fun e w' => ∃ v vs, e = .returned v ∧ OwnM w' W.heap.size v vs (allC m (bt xs) d f t k P most 0) ∧ (vs = [] → v = .slice none 0 0) ∧ Below W.heap.size W w' := by
        intro W pv h1 h2
        have h := ih (f + 1) t k most (P ++ [-1]) (by omega) (by rw [List.length_append]; simp; omega) (fun c hc => by rw [hasI_off, ht c hc]) hk hm0 hm1 W lo _ 0 pv h1 h2
        rw [allC_first]
        exact h
      have hih2 : ∀ (j : Nat) (W : World) (pv : Value), j < m → 0 < k → t.testBit j = false → bt xs f j = true → (allC m (bt xs) d f t k P most j).length < most → Own W lo (.slice a xs.length cap) xs → Own W 0 pv (P ++ [(j : Int)]) →
          Calls Try.prog 57 #[.agg #[.int .i64 n, .int .i64 m, .slice a xs.length cap], pv, .int .i64 ((k : Int) - 1), .int .i64 ((most : Int) - (allC m (bt xs) d f t k P most j).length)] W fun e w' => ∃ v vs, e = .returned v ∧ OwnM w' W.heap.size v vs (allL m (bt xs) d (f + 1) (t ||| 2 ^ j) (k - 1) (P ++ [(j : Int)]) (most - (allC m (bt xs) d f t k P most j).length)) ∧ (vs = [] → v = .slice none 0 0) ∧ Below W.heap.size W w' := by
        intro j W pv hj hk0 htj hB hl h1 h2
        have h := ih (f + 1) (t ||| 2 ^ j) (k - 1) (most - (allC m (bt xs) d f t k P most j).length) (P ++ [(j : Int)]) (by omega) (by rw [List.length_append]; simp; omega) (fun c hc => by rw [hasI_on, take_col, ht c hc]) (by omega) (by omega) (by omega) W lo _ 0 pv h1 h2
        rw [show (((k - 1 : Nat)) : Int) = (k : Int) - 1 by omega, show ((most - (allC m (bt xs) d f t k P most j).length : Nat) : Int) = (most : Int) - (allC m (bt xs) d f t k P most j).length by omega] at h
        exact h
      have HI1 := Lib.hid hih1
      have HI2 := Lib.hid hih2
      have hd5 : d ≤ 5 := by omega
      have HD := Lib.hid hd5
      have hfx : f < n := by omega
      clear L0 hO hP hrP ht hf hPle hR ih hdk hih1 hih2 hPl hd5
      go_enter Try.func57, Try.ntmps57
      go_wp2_with fail
      go_loopw [10, 11] (fun o ci wr => (ci = .int .i64 (-1) ∧ o = .slice none 0 0 ∧ Law w [tBox w.heap.size (.int .i64 n) (.int .i64 m) (.slice a xs.length cap)] wr) ∨ ∃ (j : Nat) (vs : List Value), j ≤ m ∧ ci = .int .i64 j ∧ (vs = [] → o = .slice none 0 0) ∧ Law w [tM o vs (allC m (bt xs) d f t k P most j), tBox w.heap.size (.int .i64 n) (.int .i64 m) (.slice a xs.length cap)] wr) (fun _ ci _ => ((m : Int) - intOf ci).toNat)
      case atStart => exact .inl ⟨rfl, rfl, HL.out⟩
      case round =>
        clear HL k0 k1 k2 hlt
        rcases hrel with ⟨rfl, rfl, L⟩ | ⟨j, vs, hj, rfl, hno, L⟩
        · have ⟨_, b0, b1, b2, _⟩ := L.ownBox
          have HL := Lib.hid L.nilM.drew
          obtain ⟨_, e0, e1, e2, _⟩ := L.drew.ownBox
          have hm9 : (-1 : Int) < m := by omega
          have hmost : (0 : Int) < most := by omega
          have HLEN := Lib.hid (allC_len m hm (bt xs) d f t k P most 0 HD.out (Nat.zero_le _))
          clear L
          go_upto_region 13 with fail
          go_region_held3 (fun w' => w'.cell? ⟨w.heap.size, 0, none⟩ = some (.int .i64 n) ∧ w'.cell? ⟨w.heap.size, 1, none⟩ = some (.int .i64 m) ∧ w'.cell? ⟨w.heap.size, 2, none⟩ = some (.slice a xs.length cap)) (first | (repeat' apply And.intro) <;> first | with_reducible assumption | assumption | exact cell_later (below_new _) (by assumption)) ((first
                      | (go_at_call 105; ((with_reducible refine (l1Own_any P _ HPle.out _ ((HP.out.kept HL.out.below).src)).mono ?_); rintro e wA ⟨vA, rfl, OA, hbA⟩; replace HL := Lib.hid (HL.out.own hbA OA); clear OA hbA; obtain ⟨_, z0, z1, z2, _⟩ := HL.out.boxOf (n := w.heap.size) (x := .int .i64 n) (y := .int .i64 m) (z := .slice a xs.length cap) (by simp)))
                      | (go_at_call 105; ((with_reducible refine (l1Own_any P _ HPle.out _ ((HP.out.kept (HL.out.kept (below_new (.cells #[.int .i64 (-1)] 3))).below).src)).mono ?_); rintro e wA ⟨vA, rfl, OA, hbA⟩; have hcell := cell_later hbA (show (wr.drew.alloc (.cells #[.int .i64 (-1)] 3)).cell? ⟨wr.drew.heap.size, 0, none⟩ = some (.int .i64 (-1)) by rw [World.cell?_alloc_at _ _ _ _ rfl]; rfl); replace HL := Lib.hid ((HL.out.kept (below_new (.cells #[.int .i64 (-1)] 3))).own hbA OA); clear OA hbA; obtain ⟨_, z0, z1, z2, _⟩ := HL.out.boxOf (n := w.heap.size) (x := .int .i64 n) (y := .int .i64 m) (z := .slice a xs.length cap) (by simp)))
                      | (go_at_call 105; ((with_reducible refine (l1Own_any P _ HPle.out _ ((HP.out.kept (HL.out.kept (show Below wr.drew.heap.size wr.drew (wr.alloc (.cells #[.int .i64 (-1)] 3)).drew from below_new _)).below).src)).mono ?_); rintro e wA ⟨vA, rfl, OA, hbA⟩; have hcell := cell_later hbA (show ((wr.alloc (.cells #[.int .i64 (-1)] 3)).drew).cell? ⟨wr.drew.heap.size, 0, none⟩ = some (.int .i64 (-1)) from (by rw [World.cell?_alloc_at _ _ _ _ rfl]; rfl : (wr.drew.alloc (.cells #[.int .i64 (-1)] 3)).cell? ⟨wr.drew.heap.size, 0, none⟩ = some (.int .i64 (-1)))); replace HL := Lib.hid ((HL.out.kept (show Below wr.drew.heap.size wr.drew (wr.alloc (.cells #[.int .i64 (-1)] 3)).drew from below_new _)).own hbA OA); clear OA hbA; obtain ⟨_, z0, z1, z2, _⟩ := HL.out.boxOf (n := w.heap.size) (x := .int .i64 n) (y := .int .i64 m) (z := .slice a xs.length cap) (by simp)))
                      | (refine step_appI rfl (.tmp 47) (.tmp 48) rfl (-1) HL.out wr.drew.heap.size (by simp [Act.eval]) (by simp [Act.eval]) hcell (by rw [HPL.out]; omega) ?_; intro g1 cap1 w1 L1; replace HL := Lib.hid L1; clear L1 hcell; obtain ⟨_, z0, z1, z2, _⟩ := HL.out.boxOf (n := w.heap.size) (x := .int .i64 n) (y := .int .i64 m) (z := .slice a xs.length cap) (by simp))
                      | (refine step_appI rfl (.tmp 47) (.tmp 48) rfl (-1) (HL.out.kept (below_new (.cells #[.int .i64 (-1)] 3))) wA.heap.size (by simp [Act.eval]) (by simp [Act.eval]) (by rw [World.cell?_alloc_at _ _ _ _ rfl]; rfl) (by rw [HPL.out]; omega) ?_; intro g1 cap1 w1 L1; replace HL := Lib.hid L1; clear L1; obtain ⟨_, z0, z1, z2, _⟩ := HL.out.boxOf (n := w.heap.size) (x := .int .i64 n) (y := .int .i64 m) (z := .slice a xs.length cap) (by simp))
                      | (go_at_call 57; ((with_reducible refine (HI1.out _ _ (HO.out.kept HL.out.below) HL.out.ownInts).mono ?_); rintro e wB ⟨vB, vsB, rfl, OB, hnB, hbB⟩; replace HL := Lib.hid ((HL.out.addM hbB OB).swap.tl); clear OB hbB; obtain ⟨_, z0, z1, z2, _⟩ := HL.out.boxOf (n := w.heap.size) (x := .int .i64 n) (y := .int .i64 m) (z := .slice a xs.length cap) (by simp)))
                      | (refine step_joinE rfl (.tmp 44) (.tmp 52) rfl HL.out hnB (fun _ => rfl) (by simp [Act.eval]) (by simp [Act.eval]) (by have := HLEN.out; rw [List.length_nil]; omega) ?_; intro v3 vs3 w3 L3 hn3; replace HL := Lib.hid L3; clear L3; obtain ⟨_, z0, z1, z2, _⟩ := HL.out.boxOf (n := w.heap.size) (x := .int .i64 n) (y := .int .i64 m) (z := .slice a xs.length cap) (by simp))
                      | fail))
          all_goals
            go_wp2_with fail
            go_roundw
            case rel => exact .inr ⟨0, vs3, Nat.zero_le _, rfl, hn3, HL.out⟩
            case measure => simp [intOf] <;> omega
        · obtain ⟨oa, ocap, rfl⟩ := L.ownM.formR
          have ⟨_, b0, b1, b2, _⟩ := L.tl.ownBox
          have hcj := allC_len m hm (bt xs) d f t k P most j HD.out hj
          have HNX := Lib.hid (fun (h0 : 0 < k) (hB : bt xs f j = true) (htj : t.testBit j = false) hl => allC_next m (bt xs) d f t k P most j h0 hB htj hl)
          have HSK := Lib.hid (fun h => allC_skip m (bt xs) d f t k P most j h)
          have HFU := Lib.hid (fun h => allC_full m (bt xs) d f t k P most j m hj h)
          have HLAST := Lib.hid (allC_last m (bt xs) d f t k P most)
          have HI := Lib.hid (fun W pv (hjm : j < m) => HI2.out j W pv hjm)
          have htj : j < m → t.testBit j = hasI P (j : Int) := fun h => HT.out j (by omega)
          obtain ⟨cl, hcl⟩ : ∃ cl, cl = (allC m (bt xs) d f t k P most j).length := ⟨_, rfl⟩
          rw [← hcl] at L hcj HNX HFU HI hno ⊢
          have hE : cl = most ∨ cl < most ∨ most < cl := by omega
          clear hE
          have HCL := Lib.hid hcl
          clear hcl
          by_cases hjm : j < m
          · have hjI : (j : Int) < m := by omega
            have htj := htj hjm
            by_cases hl : cl < most
            · have hlI : (cl : Int) < most := by omega
              have hj1 : ((j : Int) == -1) = false := by rw [beq_eq_false_iff_ne]; omega
              by_cases hk0 : k = 0
              · have hsk := HSK.out (.inl hk0)
                obtain ⟨C, hC⟩ : ∃ C, C = allC m (bt xs) d f t k P most j := ⟨_, rfl⟩
                rw [← hC] at hsk L
                have HX := Lib.hid hsk
                clear hsk hC HNX HSK HFU HLAST HI HCL HI1 HI2 HR HT htj
                have hkI : ((k : Nat) : Int) = 0 := by omega
                have HL := Lib.hid L
                clear L
                have hk9 : ¬ (0 : Int) < k := by omega
                clear hkI hk0
                go_wp2_with fail
                go_roundw
                case rel => exact .inr ⟨j + 1, vs, by omega, by go_num, hno, by rw [HX.out]; exact HL.out⟩
                case measure => simp [intOf]; omega
              · have hkp : (0 : Int) < k := by omega
                have hbc := boHas_any n m xs f j wr (by have := HG3.out; omega) hx (by omega) (HGC.out f) lo _ (HO.out.kept L.below)
                cases hB : bt xs f j
                · rw [show (xs.getD f 0).toNat.testBit j = false from hB] at hbc
                  have hsk := HSK.out (.inr (.inl hB))
                  obtain ⟨C, hC⟩ : ∃ C, C = allC m (bt xs) d f t k P most j := ⟨_, rfl⟩
                  rw [← hC] at hsk L
                  have HX := Lib.hid hsk
                  have HL := Lib.hid L
                  have HBC := Lib.hid hbc
                  clear L hbc hB hsk hC HNX HSK HFU HLAST HI HCL HI1 HI2 HR HT htj
                  go_wp2_with fail
                  refine HBC.out.mono ?_
                  rintro e w2 ⟨rfl, hb⟩
                  have HL2 := Lib.hid (HL.out.kept hb)
                  clear HL hb b0 b1 b2
                  go_wp2_with fail
                  go_roundw
                  case rel => exact .inr ⟨j + 1, vs, by omega, by go_num, hno, by rw [HX.out]; exact HL2.out⟩
                  case measure => simp [intOf]; omega
                · rw [show (xs.getD f 0).toNat.testBit j = true from hB] at hbc
                  have hhc := fun (W : World) (h : Reads W pa f P) => l1Has_any pa f pcap P (j : Int) W HPle.out HPL.out h
                  rw [← htj] at hhc
                  cases htb : t.testBit j
                  · rw [htb] at hhc
                    have hnx := HNX.out (by omega) hB htb hl
                    have hi3 := fun W pv => HI.out W pv hjm (by omega) htb hB hl
                    have hln := allL_len m hm (bt xs) d (f + 1) (t ||| 2 ^ j) (k - 1) (P ++ [(j : Int)]) (most - cl) (by have := HD.out; omega)
                    obtain ⟨C, hC⟩ : ∃ C, C = allC m (bt xs) d f t k P most j := ⟨_, rfl⟩
                    rw [← hC] at hnx L
                    have hclC : cl = C.length := by rw [hC]; exact HCL.out
                    generalize allL m (bt xs) d (f + 1) (t ||| 2 ^ j) (k - 1) (P ++ [(j : Int)]) (most - cl) = D at *
                    have HX := Lib.hid hnx
                    have HI3 := Lib.hid hi3
                    have HLN := Lib.hid (show C.length + D.length ≤ 1048576 by omega)
                    have HBC := Lib.hid hbc
                    have HHC := Lib.hid hhc
                    have HL := Lib.hid L
                    clear L hbc hB hhc htb htj hnx hi3 hln hC hclC HNX HSK HFU HLAST HI HCL HI1 HI2 HR HT
                    go_wp2_with fail
                    refine HBC.out.mono ?_
                    rintro e w2 ⟨rfl, hb⟩
                    have L2 := HL.out.kept hb
                    clear HL hb b0 b1 b2
                    have hr2 := L2.reads HRP.out
                    have HL := Lib.hid L2
                    clear L2
                    go_wp2_with fail
                    refine (HHC.out _ hr2).mono ?_
                    rintro e wq ⟨rfl, rfl⟩
                    have ⟨_, b0, b1, b2, _⟩ := HL.out.tl.ownBox
                    obtain ⟨_, e0, e1, e2, _⟩ := HL.out.drew.tl.ownBox
                    replace HL := Lib.hid HL.out.drew
                    have hkw : IntKind.i64.wrap ((k : Int) - 1) = (k : Int) - 1 := IntWalk.i64_in _ (by omega)
                    have hmw : IntKind.i64.wrap ((most : Int) - cl) = (most : Int) - cl := IntWalk.i64_in _ (by omega)
                    clear hr2
                    go_upto_region 15 with fail
                    go_region_held3 (fun w' => w'.cell? ⟨w.heap.size, 0, none⟩ = some (.int .i64 n) ∧ w'.cell? ⟨w.heap.size, 1, none⟩ = some (.int .i64 m) ∧ w'.cell? ⟨w.heap.size, 2, none⟩ = some (.slice a xs.length cap)) (first | (repeat' apply And.intro) <;> first | with_reducible assumption | assumption | exact cell_later (below_new _) (by assumption)) ((first
                      | (go_at_call 105; ((with_reducible refine (l1Own_any P _ HPle.out _ ((HP.out.kept HL.out.below).src)).mono ?_); rintro e wA ⟨vA, rfl, OA, hbA⟩; replace HL := Lib.hid (HL.out.own hbA OA); clear OA hbA; obtain ⟨_, z0, z1, z2, _⟩ := HL.out.boxOf (n := w.heap.size) (x := .int .i64 n) (y := .int .i64 m) (z := .slice a xs.length cap) (by simp)))
                      | (go_at_call 105; ((with_reducible refine (l1Own_any P _ HPle.out _ ((HP.out.kept (HL.out.kept (below_new (.cells #[.int .i64 (j : Int)] 3))).below).src)).mono ?_); rintro e wA ⟨vA, rfl, OA, hbA⟩; have hcell := cell_later hbA (show (w2.drew.alloc (.cells #[.int .i64 (j : Int)] 3)).cell? ⟨w2.drew.heap.size, 0, none⟩ = some (.int .i64 (j : Int)) by rw [World.cell?_alloc_at _ _ _ _ rfl]; rfl); replace HL := Lib.hid ((HL.out.kept (below_new (.cells #[.int .i64 (j : Int)] 3))).own hbA OA); clear OA hbA; obtain ⟨_, z0, z1, z2, _⟩ := HL.out.boxOf (n := w.heap.size) (x := .int .i64 n) (y := .int .i64 m) (z := .slice a xs.length cap) (by simp)))
                      | (go_at_call 105; ((with_reducible refine (l1Own_any P _ HPle.out _ ((HP.out.kept (HL.out.kept (show Below w2.drew.heap.size w2.drew (w2.alloc (.cells #[.int .i64 (j : Int)] 3)).drew from below_new _)).below).src)).mono ?_); rintro e wA ⟨vA, rfl, OA, hbA⟩; have hcell := cell_later hbA (show ((w2.alloc (.cells #[.int .i64 (j : Int)] 3)).drew).cell? ⟨w2.drew.heap.size, 0, none⟩ = some (.int .i64 (j : Int)) from (by rw [World.cell?_alloc_at _ _ _ _ rfl]; rfl : (w2.drew.alloc (.cells #[.int .i64 (j : Int)] 3)).cell? ⟨w2.drew.heap.size, 0, none⟩ = some (.int .i64 (j : Int)))); replace HL := Lib.hid ((HL.out.kept (show Below w2.drew.heap.size w2.drew (w2.alloc (.cells #[.int .i64 (j : Int)] 3)).drew from below_new _)).own hbA OA); clear OA hbA; obtain ⟨_, z0, z1, z2, _⟩ := HL.out.boxOf (n := w.heap.size) (x := .int .i64 n) (y := .int .i64 m) (z := .slice a xs.length cap) (by simp)))
                      | (refine step_appI rfl (.tmp 72) (.tmp 74) rfl (j : Int) HL.out w2.drew.heap.size (by simp [Act.eval]) (by simp [Act.eval]) hcell (by rw [HPL.out]; omega) ?_; intro g1 cap1 w1 L1; replace HL := Lib.hid L1; clear L1 hcell; obtain ⟨_, z0, z1, z2, _⟩ := HL.out.boxOf (n := w.heap.size) (x := .int .i64 n) (y := .int .i64 m) (z := .slice a xs.length cap) (by simp))
                      | (refine step_appI rfl (.tmp 72) (.tmp 74) rfl (j : Int) (HL.out.kept (below_new (.cells #[.int .i64 (j : Int)] 3))) wA.heap.size (by simp [Act.eval]) (by simp [Act.eval]) (by rw [World.cell?_alloc_at _ _ _ _ rfl]; rfl) (by rw [HPL.out]; omega) ?_; intro g1 cap1 w1 L1; replace HL := Lib.hid L1; clear L1; obtain ⟨_, z0, z1, z2, _⟩ := HL.out.boxOf (n := w.heap.size) (x := .int .i64 n) (y := .int .i64 m) (z := .slice a xs.length cap) (by simp))
                      | (go_at_call 57; ((with_reducible refine (HI3.out _ _ (HO.out.kept HL.out.below) HL.out.ownInts).mono ?_); rintro e wB ⟨vB, vsB, rfl, OB, hnB, hbB⟩; replace HL := Lib.hid ((HL.out.addM hbB OB).swap.tl); clear OB hbB; obtain ⟨_, z0, z1, z2, _⟩ := HL.out.boxOf (n := w.heap.size) (x := .int .i64 n) (y := .int .i64 m) (z := .slice a xs.length cap) (by simp)))
                      | (refine step_joinE rfl (.tmp 69) (.tmp 82) rfl HL.out hnB hno (by simp [Act.eval]) (by simp [Act.eval]) (HLN.out) ?_; intro v3 vs3 w3 L3 hn3; replace HL := Lib.hid L3; clear L3; obtain ⟨_, z0, z1, z2, _⟩ := HL.out.boxOf (n := w.heap.size) (x := .int .i64 n) (y := .int .i64 m) (z := .slice a xs.length cap) (by simp))
                      | fail))
                    all_goals
                      go_wp2_with fail
                      go_roundw
                      case rel => exact .inr ⟨j + 1, vs3, by omega, by go_num, hn3, by rw [HX.out]; exact HL.out⟩
                      case measure => simp [intOf]; omega
                  · rw [htb] at hhc
                    have hsk := HSK.out (.inr (.inr htb))
                    obtain ⟨C, hC⟩ : ∃ C, C = allC m (bt xs) d f t k P most j := ⟨_, rfl⟩
                    rw [← hC] at hsk L
                    have HX := Lib.hid hsk
                    have HBC := Lib.hid hbc
                    have HHC := Lib.hid hhc
                    have HL := Lib.hid L
                    clear L hbc hB hhc htb htj hsk hC HNX HSK HFU HLAST HI HCL HI1 HI2 HR HT
                    go_wp2_with fail
                    refine HBC.out.mono ?_
                    rintro e w2 ⟨rfl, hb⟩
                    have L2 := HL.out.kept hb
                    clear HL hb b0 b1 b2
                    have hr2 := L2.reads HRP.out
                    have HL := Lib.hid L2
                    clear L2
                    go_wp2_with fail
                    refine (HHC.out _ hr2).mono ?_
                    rintro e wq ⟨rfl, rfl⟩
                    go_wp2_with fail
                    go_roundw
                    case rel => exact .inr ⟨j + 1, vs, by omega, by go_num, hno, by rw [HX.out]; exact HL.out⟩
                    case measure => simp [intOf]; omega
            · have hlI : ¬ (cl : Int) < most := by omega
              have hfu := HFU.out (by omega)
              rw [HLAST.out, ← HR.out] at hfu
              rw [← hfu] at L
              have HL := Lib.hid L
              clear L hfu HNX HSK HFU HLAST HI HCL HI1 HI2 HR HT htj hl
              go_wp2_with fail
              go_ret
              first | exact ⟨_, vs, rfl, HL.out.ownMLo, hno, HL.out.below⟩ | exact ⟨_, rfl, vs, HL.out.ownMLo, hno, HL.out.below⟩
          · obtain rfl : j = m := by omega
            rw [HLAST.out, ← HR.out] at L
            have HL := Lib.hid L
            clear L HNX HSK HFU HLAST HI HCL HI1 HI2 HR HT htj hjm
            go_wp2_with fail
            go_ret
            exact ⟨_, vs, rfl, HL.out.ownMLo, hno, HL.out.below⟩

end Go.Proofs.Ytdimbnkgomfojaa
