/- Lists of columns as the program keeps them. No condition but the sizes. -/
import Derived.Test.YtmhlpaenfknofaaUa
import Derived.Test.YtmhlpaenfknofaaOh
import Derived.Test.YtmhlpaenfknofaaI
import Derived.IntWalk
namespace Go.Proofs.Ytmhlpaenfknofaa
open Go.RowKit Go.WideShapes

theorem Has.nineQ {w : World} {b : Nat} {v0 v1 v2 v3 v4 v5 v6 v7 v8 : Value} {t : TypeId} (h : Has w b [v0, v1, v2, v3, v4, v5, v6, v7, v8] t) :
    w.cell? ⟨b, 0, none⟩ = some v0 ∧ w.cell? ⟨b, 1, none⟩ = some v1 ∧ w.cell? ⟨b, 2, none⟩ = some v2 ∧ w.cell? ⟨b, 3, none⟩ = some v3 ∧ w.cell? ⟨b, 4, none⟩ = some v4 ∧ w.cell? ⟨b, 5, none⟩ = some v5 ∧ w.cell? ⟨b, 6, none⟩ = some v6 ∧ w.cell? ⟨b, 7, none⟩ = some v7 ∧ w.cell? ⟨b, 8, none⟩ = some v8 ∧ ∀ o, w.frozen? ⟨b, o, none⟩ = false :=
  ⟨h.cell 0, h.cell 1, h.cell 2, h.cell 3, h.cell 4, h.cell 5, h.cell 6, h.cell 7, h.cell 8, h.free⟩
theorem Has.farSQ {w : World} {b : Nat} {cs : List Value} {t : TypeId} (h : Has w b cs t) (g o : Nat) (v : Value) (hg : b ≠ g) : Has (w.setCell ⟨g, o, none⟩ v) b cs t :=
  (Below.heap_setCell w ⟨g, o, none⟩ v b hg).trans h
theorem Has.putQ {w : World} {b : Nat} {v0 v1 v2 v3 v4 v5 v6 v7 v8 : Value} {t : TypeId} (h : Has w b [v0, v1, v2, v3, v4, v5, v6, v7, v8] t) (c : Int) (F : Nat → Int) : Has (((((((((w.setCell ⟨b, 0, none⟩ (.int .i64 c)).setCell ⟨b, 1, none⟩ (.int .i64 (F 0))).setCell ⟨b, 2, none⟩ (.int .i64 (F 1))).setCell ⟨b, 3, none⟩ (.int .i64 (F 2))).setCell ⟨b, 4, none⟩ (.int .i64 (F 3))).setCell ⟨b, 5, none⟩ (.int .i64 (F 4))).setCell ⟨b, 6, none⟩ (.int .i64 (F 5))).setCell ⟨b, 7, none⟩ (.int .i64 (F 6))).setCell ⟨b, 8, none⟩ (.int .i64 (F 7))) b (ql c F) t :=
  ((((((((h.set 0 _).set 1 _).set 2 _).set 3 _).set 4 _).set 5 _).set 6 _).set 7 _).set 8 _
theorem Has.farQ {w : World} {b q : Nat} {cs : List Value} {t : TypeId} (h : Has w q cs t) (c : Int) (F : Nat → Int) (hk : q ≠ b) : Has (((((((((w.setCell ⟨b, 0, none⟩ (.int .i64 c)).setCell ⟨b, 1, none⟩ (.int .i64 (F 0))).setCell ⟨b, 2, none⟩ (.int .i64 (F 1))).setCell ⟨b, 3, none⟩ (.int .i64 (F 2))).setCell ⟨b, 4, none⟩ (.int .i64 (F 3))).setCell ⟨b, 5, none⟩ (.int .i64 (F 4))).setCell ⟨b, 6, none⟩ (.int .i64 (F 5))).setCell ⟨b, 7, none⟩ (.int .i64 (F 6))).setCell ⟨b, 8, none⟩ (.int .i64 (F 7))) q cs t :=
  ((((((((h.farSQ b 0 _ hk).farSQ b 1 _ hk).farSQ b 2 _ hk).farSQ b 3 _ hk).farSQ b 4 _ hk).farSQ b 5 _ hk).farSQ b 6 _ hk).farSQ b 7 _ hk).farSQ b 8 _ hk
theorem Law.putQ {w0 w : World} {ts ts' : List Thing} {b : Nat} {v0 v1 v2 v3 v4 v5 v6 v7 v8 : Value} {t : TypeId} (h : Law w0 (ts ++ tHas b [v0, v1, v2, v3, v4, v5, v6, v7, v8] t :: ts') w) (c : Int) (F : Nat → Int) : Law w0 (ts ++ tHas b (ql c F) t :: ts') (((((((((w.setCell ⟨b, 0, none⟩ (.int .i64 c)).setCell ⟨b, 1, none⟩ (.int .i64 (F 0))).setCell ⟨b, 2, none⟩ (.int .i64 (F 1))).setCell ⟨b, 3, none⟩ (.int .i64 (F 2))).setCell ⟨b, 4, none⟩ (.int .i64 (F 3))).setCell ⟨b, 5, none⟩ (.int .i64 (F 4))).setCell ⟨b, 6, none⟩ (.int .i64 (F 5))).setCell ⟨b, 7, none⟩ (.int .i64 (F 6))).setCell ⟨b, 8, none⟩ (.int .i64 (F 7))) := by
  have h0 := Law.setHas h 0 (.int .i64 c)
  have h1 := Law.setHas h0 1 (.int .i64 (F 0))
  have h2 := Law.setHas h1 2 (.int .i64 (F 1))
  have h3 := Law.setHas h2 3 (.int .i64 (F 2))
  have h4 := Law.setHas h3 4 (.int .i64 (F 3))
  have h5 := Law.setHas h4 5 (.int .i64 (F 4))
  have h6 := Law.setHas h5 6 (.int .i64 (F 5))
  have h7 := Law.setHas h6 7 (.int .i64 (F 6))
  exact Law.setHas h7 8 (.int .i64 (F 7))
theorem below_putQ {lo : Nat} {w0 w : World} (h : Below lo w0 w) (b : Nat) (hb : lo ≤ b) (c : Int) (F : Nat → Int) : Below lo w0 (((((((((w.setCell ⟨b, 0, none⟩ (.int .i64 c)).setCell ⟨b, 1, none⟩ (.int .i64 (F 0))).setCell ⟨b, 2, none⟩ (.int .i64 (F 1))).setCell ⟨b, 3, none⟩ (.int .i64 (F 2))).setCell ⟨b, 4, none⟩ (.int .i64 (F 3))).setCell ⟨b, 5, none⟩ (.int .i64 (F 4))).setCell ⟨b, 6, none⟩ (.int .i64 (F 5))).setCell ⟨b, 7, none⟩ (.int .i64 (F 6))).setCell ⟨b, 8, none⟩ (.int .i64 (F 7))) :=
  ((((((((h.setCell hb _).setCell hb _).setCell hb _).setCell hb _).setCell hb _).setCell hb _).setCell hb _).setCell hb _).setCell hb _
theorem ql_held {W : World} {b : Nat} {c : Int} {F : Nat → Int} {t : TypeId} (h : Has W b (ql c F) t) :
    W.cell? ⟨b, 0, none⟩ = some (.int .i64 c) ∧ W.cell? ⟨b, 1, none⟩ = some (.int .i64 (F 0)) ∧ W.cell? ⟨b, 2, none⟩ = some (.int .i64 (F 1)) ∧ W.cell? ⟨b, 3, none⟩ = some (.int .i64 (F 2)) ∧ W.cell? ⟨b, 4, none⟩ = some (.int .i64 (F 3)) ∧ W.cell? ⟨b, 5, none⟩ = some (.int .i64 (F 4)) ∧ W.cell? ⟨b, 6, none⟩ = some (.int .i64 (F 5)) ∧ W.cell? ⟨b, 7, none⟩ = some (.int .i64 (F 6)) ∧ W.cell? ⟨b, 8, none⟩ = some (.int .i64 (F 7)) ∧ ∀ o, W.frozen? ⟨b, o, none⟩ = false :=
  ⟨h.cell 0, h.cell 1, h.cell 2, h.cell 3, h.cell 4, h.cell 5, h.cell 6, h.cell 7, h.cell 8, h.free⟩

theorem isQueenSide_any (n : Int) (w : World) : Calls Try.prog 55 #[.int .i64 n] w fun e w' => e = .returned (.bool (inB 1 n 8)) ∧ w = w' := by
  by_cases h1 : 1 ≤ n
  · by_cases h2 : n ≤ 8
    · rw [inB_yes h1 h2]
      go_enter Try.func55, Try.ntmps55
      go_wp2
      go_ret
      exact ⟨rfl, rfl⟩
    · rw [inB_no (by omega)]
      go_enter Try.func55, Try.ntmps55
      go_wp2
      go_ret
      exact ⟨ret_bool (by simp <;> omega), rfl⟩
  · rw [inB_no (by omega)]
    go_enter Try.func55, Try.ntmps55
    go_wp2
    go_ret
    exact ⟨ret_bool (by simp <;> omega), rfl⟩
/-- The place of a number in a list, or -1. -/
def idxL (xs : List Int) (n : Int) : Int := if n ∈ xs then (xs.idxOf n : Int) else -1
theorem idxL_pos (xs : List Int) (n : Int) : decide (0 ≤ idxL xs n) = hasL xs n := by
  unfold idxL hasL
  by_cases h : n ∈ xs
  · rw [if_pos h]; simp [h]
  · rw [if_neg h]; simp [h]
theorem idxL_at (xs : List Int) (n : Int) (k : Nat) (hk : k < xs.length) (h : ¬ n ∈ xs.take k) (hx : xs.getD k 0 = n) : idxL xs n = k := by
  have e : xs[k] = n := by rw [← hx]; simp [List.getD, hk]
  have hm : n ∈ xs := by rw [← e]; exact List.getElem_mem hk
  unfold idxL
  rw [if_pos hm]
  have e1 := List.take_append_drop k xs
  have : (xs.take k ++ xs.drop k).idxOf n = k := by
    rw [List.idxOf_append, if_neg h, List.drop_eq_getElem_cons hk, e, List.idxOf_cons_self, List.length_take]
    omega
  rw [e1] at this
  rw [this]
theorem idxL_no (xs : List Int) (n : Int) (h : ¬ n ∈ xs) : idxL xs n = -1 := by unfold idxL; rw [if_neg h]
set_option maxHeartbeats 800000 in
theorem index_any (a : Option Addr) (cap : Nat) (xs : List Int) (n : Int) (w : World) (hx : xs.length ≤ 1048576) (hr : Reads w a xs.length xs) :
    Calls Try.prog 79 #[.slice a xs.length cap, .int .i64 n] w fun e w' => e = .returned (.int .i64 (idxL xs n)) ∧ w = w' := by
  go_enter Try.func79, Try.ntmps79
  go_wp2
  go_loop [8] (fun i => ∃ k : Nat, k ≤ xs.length ∧ i = .int .i64 k ∧ Hid (¬ n ∈ xs.take k)) (fun i => xs.length - (intOf i).toNat)
  case atStart => exact ⟨0, Nat.zero_le _, rfl, Lib.hid (by simp)⟩
  case round =>
    obtain ⟨k, hk, rfl, HE⟩ := hrel
    by_cases hlt : k < xs.length
    · obtain ⟨b, off, rfl, hb, hc⟩ := reads_row hr (by omega)
      have hck := hc k hlt
      clear hc hr
      by_cases he : xs.getD k 0 = n
      · have t1 : (n == xs.getD k 0) = true := beq_iff_eq.2 he.symm
        have HD := Lib.hid (idxL_at xs n k hlt HE.out he)
        clear he
        generalize xs.getD k 0 = x at *
        go_wp2_with fail
        go_ret
        exact ⟨ret_int HD.out.symm, rfl⟩
      · have t1 : (n == xs.getD k 0) = false := beq_eq_false_iff_ne.2 (fun e => he e.symm)
        have HN := Lib.hid (hasL_take_step xs n k hlt HE.out he)
        clear he
        generalize xs.getD k 0 = x at *
        go_wp2_with fail
        go_round
        case rel => exact ⟨k + 1, by omega, by go_num, HN⟩
        case measure => simp [intOf]; omega
    · obtain rfl : k = xs.length := by omega
      have HD := Lib.hid (idxL_no xs n (by have := HE.out; rwa [List.take_length] at this))
      go_wp2_with fail
      go_ret
      exact ⟨ret_int HD.out.symm, rfl⟩
theorem contains_any (a : Option Addr) (cap : Nat) (xs : List Int) (n : Int) (w : World) (hx : xs.length ≤ 1048576) (hr : Reads w a xs.length xs) :
    Calls Try.prog 74 #[.slice a xs.length cap, .int .i64 n] w fun e w' => e = .returned (.bool (hasL xs n)) ∧ w = w' := by
  have HI := Lib.hid (index_any a cap xs n w hx hr)
  have HP := Lib.hid (idxL_pos xs n)
  clear hr
  generalize idxL xs n = i at *
  generalize xs.length = m at *
  go_enter Try.func74, Try.ntmps74
  go_wp2_with (go_at_call 79; ((with_reducible refine HI.out.mono ?_); rintro e w' ⟨rfl, rfl⟩))
  go_ret
  exact ⟨ret_bool (by rw [← HP.out]), rfl⟩

/-- What lineupOf answers. -/
def linV (n : Int) (xs : List Int) : Value := .tuple #[if linB n xs then qv xs.length (cF xs) else qv 0 (fun _ => 0), .bool (linB n xs)]
theorem linV_no {n : Int} {xs : List Int} (h : linB n xs = false) : linV n xs = .tuple #[qv 0 (fun _ => 0), .bool false] := by simp [linV, h]
theorem linV_yes {n : Int} {xs : List Int} (h : linB n xs = true) : linV n xs = .tuple #[qv xs.length (cF xs), .bool true] := by simp [linV, h]
theorem ret_v {u v : Value} (h : v = u) : Ending.returned u = Ending.returned v := by rw [h]
theorem cF_zero (xs : List Int) : cF (xs.take 0) = fun _ => 0 := by funext i; simp [cF]

set_option maxRecDepth 100000 in
set_option maxHeartbeats 6400000 in
theorem lineupOf_any (n : Int) (a : Option Addr) (cap : Nat) (xs : List Int) (w : World) (hx : xs.length ≤ 1048576) (hcap : xs.length ≤ cap) (hr : Reads w a xs.length xs) :
    Calls Try.prog 60 #[.slice a xs.length cap, .int .i64 n] w fun e w' => e = .returned (linV n xs) ∧ Below w.heap.size w w' := by

  have L0 := (Law.start w).has (ql 0 (fun _ => 0)) 46
  rw [show w.alloc (.cells (ql 0 (fun _ => 0)).toArray 46) = w.alloc (.cells #[.int .i64 0, .int .i64 0, .int .i64 0, .int .i64 0, .int .i64 0, .int .i64 0, .int .i64 0, .int .i64 0, .int .i64 0] 46) from rfl] at L0
  have HL := Lib.hid L0
  have HQ := Lib.hid (fun W => isQueenSide_any n W)
  clear L0
  by_cases hq : 1 ≤ n ∧ n ≤ 8
  · rw [inB_yes hq.1 hq.2] at HQ
    by_cases hle : (xs.length : Int) ≤ n
    · have HR := Lib.hid hr
      obtain ⟨q1, q2⟩ := hq
      clear hr
      go_enter Try.func60, Try.ntmps60
      go_upto_region 1 with fail
      generalize w.alloc _ = w1 at *
      go_wp2_with (go_at_call 55; ((with_reducible refine (HQ.out _).mono ?_); rintro e w' ⟨rfl, rfl⟩))
      have L1 := HL.out.has (ql xs.length (fun _ => 0)) 46
      rw [show w1.alloc (.cells (ql xs.length (fun _ => 0)).toArray 46) = w1.alloc (.cells #[.int .i64 xs.length, .int .i64 0, .int .i64 0, .int .i64 0, .int .i64 0, .int .i64 0, .int .i64 0, .int .i64 0, .int .i64 0] 46) from rfl] at L1
      replace HL := Lib.hid L1
      clear L1
      go_upto_region 4 with fail
      obtain ⟨b, hb⟩ : ∃ b, b = w1.heap.size := ⟨_, rfl⟩
      rw [← hb] at HL ⊢
      clear hb
      generalize w1.alloc _ = w2 at *
      go_wp2_with fail
      go_loopw [24] (fun i wr => ∃ k : Nat, k ≤ xs.length ∧ i = .int .i64 k ∧ Hid (inN n (xs.take k) = true) ∧ Hid (Law w [tHas b (ql xs.length (cF (xs.take k))) 46, tHas w.heap.size (ql 0 (fun _ => 0)) 46] wr)) (fun i _ => xs.length - (intOf i).toNat)
      case atStart => exact ⟨0, Nat.zero_le _, rfl, Lib.hid (inN_of (by simp) (by simp)), by rw [cF_zero]; exact HL⟩
      case round =>
        clear HL
        obtain ⟨k, hk, rfl, HE, HL⟩ := hrel
        by_cases hlt : k < xs.length
        · have hrl := HL.out.reads HR.out
          have hrt := hrl.takeO k hk
          have hkl : (xs.take k).length = k := by simp; omega
          obtain ⟨ba, off, rfl, hb, hc⟩ := reads_row hrl (by omega)
          have hck := hc k hlt
          have hkc : k ≤ cap := by omega
          have HCT := Lib.hid (fun x => contains_any (some ⟨ba, off, none⟩) cap (xs.take k) x wr (by omega) hrt)
          rw [hkl] at HCT
          have HNO := Lib.hid (inN_no n xs k hlt)
          have HTW := Lib.hid (inN_twice n xs k hlt)
          have HST := Lib.hid (inN_step n xs k hlt HE.out)
          have HCF := Lib.hid (cF_take xs k hlt)
          have HLV := Lib.hid (fun (h : inN n xs = false) => linV_no (n := n) (xs := xs) (by simp [linB, h]))
          have hk8 : k < 8 := by omega
          clear hc hrl hrt hkl hb HE
          generalize xs.getD k 0 = x at *
          by_cases hx0 : x < 0
          · have HD := Lib.hid (HLV.out (HNO.out (by omega)))
            obtain ⟨f0, f1, f2, f3, f4, f5, f6, f7, f8, ff⟩ := HL.out.tl.ownHas.nineQ
            have HB := Lib.hid (And.intro HL.out.below HL.out.ownHas.lt)
            clear HL HCT HNO HTW HST HCF HLV
            go_wp2_with fail
            refine bodyPost_ret (v := .tuple #[qv 0 (fun _ => 0), .bool false]) (by simp [results, Try.results60, go_sem, f0, f1, f2, f3, f4, f5, f6, f7, f8]) rfl ⟨ret_v HD.out, ?_⟩
            exact below_putQ HB.out.1 _ (Nat.le_refl _) 0 (fun _ => 0)
          · by_cases hxn : n ≤ x
            · have HD := Lib.hid (HLV.out (HNO.out (by omega)))
              obtain ⟨f0, f1, f2, f3, f4, f5, f6, f7, f8, ff⟩ := HL.out.tl.ownHas.nineQ
              have HB := Lib.hid (And.intro HL.out.below HL.out.ownHas.lt)
              clear HL HCT HNO HTW HST HCF HLV
              go_wp2_with fail
              refine bodyPost_ret (v := .tuple #[qv 0 (fun _ => 0), .bool false]) (by simp [results, Try.results60, go_sem, f0, f1, f2, f3, f4, f5, f6, f7, f8]) rfl ⟨ret_v HD.out, ?_⟩
              exact below_putQ HB.out.1 _ (Nat.le_refl _) 0 (fun _ => 0)
            · cases hm : hasL (xs.take k) x
              · have hn : ¬ x ∈ xs.take k := by unfold hasL at hm; rwa [decide_eq_false_iff_not] at hm
                have HC := Lib.hid (at_boolV (HCT.out x) hm)
                have HN := Lib.hid (HST.out (by omega) (by omega) hn)
                have hcs := HL.out.ownHas.cell (1 + k)
                rw [ql_get _ _ k hk8] at hcs
                have hfs := HL.out.ownHas.free (1 + k)
                have hS := Law.setHas (ts := []) HL.out (1 + k) (.int .i64 x)
                rw [ql_set _ (cF (xs.take k)) (cF (xs.take (k + 1))) k hk8 x HCF.out.1 HCF.out.2] at hS
                have HS := Lib.hid hS
                generalize cF (xs.take k) k = z at *
                clear hS HL HCT HNO HTW HST HCF HLV hm hn
                go_wp2_with (go_at_call 74; ((with_reducible refine HC.out.mono ?_); rintro e w' ⟨rfl, rfl⟩))
                go_roundw
                case rel => exact ⟨k + 1, by omega, by go_num, HN, HS⟩
                case measure => simp [intOf]; omega
              · have HC := Lib.hid (at_boolV (HCT.out x) hm)
                have HD := Lib.hid (HLV.out (HTW.out (by unfold hasL at hm; rwa [decide_eq_true_eq] at hm)))
                obtain ⟨f0, f1, f2, f3, f4, f5, f6, f7, f8, ff⟩ := HL.out.tl.ownHas.nineQ
                have HB := Lib.hid (And.intro HL.out.below HL.out.ownHas.lt)
                clear HL HCT HNO HTW HST HCF HLV hm
                go_wp2_with (go_at_call 74; ((with_reducible refine HC.out.mono ?_); rintro e w' ⟨rfl, rfl⟩))
                refine bodyPost_ret (v := .tuple #[qv 0 (fun _ => 0), .bool false]) (by simp [results, Try.results60, go_sem, f0, f1, f2, f3, f4, f5, f6, f7, f8]) rfl ⟨ret_v HD.out, ?_⟩
                exact below_putQ HB.out.1 _ (Nat.le_refl _) 0 (fun _ => 0)
        · obtain rfl : k = xs.length := by omega
          have hE := HE.out
          rw [List.take_length] at hE
          have HD := Lib.hid (linV_yes (n := n) (xs := xs) (by simp [linB, hE, hle, q1, q2]))
          have hL := HL.out
          rw [List.take_length] at hL
          obtain ⟨f0, f1, f2, f3, f4, f5, f6, f7, f8, ff⟩ := hL.tl.ownHas.nineQ
          obtain ⟨g0, g1, g2, g3, g4, g5, g6, g7, g8, gf⟩ := ql_held hL.ownHas
          have hp := hL.tl.ownHas.putQ xs.length (cF xs)
          have HB := Lib.hid (And.intro hL.below hL.tl.ownHas.lt)
          clear HL hL HE hE
          generalize cF xs = F at *
          go_wp2_with fail
          clear f0 f1 f2 f3 f4 f5 f6 f7 f8 ff g0 g1 g2 g3 g4 g5 g6 g7 g8 gf
          obtain ⟨f0, f1, f2, f3, f4, f5, f6, f7, f8, ff⟩ := ql_held hp
          clear hp
          refine bodyPost_ret (v := .tuple #[qv xs.length F, .bool true]) (by simp [results, Try.results60, go_sem, f0, f1, f2, f3, f4, f5, f6, f7, f8]) rfl ⟨ret_v HD.out, ?_⟩
          exact below_putQ HB.out.1 _ (Nat.le_refl _) _ F
    · have HD := Lib.hid (linV_no (n := n) (xs := xs) (by simp [linB, hle]))
      have hgt : n < (xs.length : Int) := by omega
      clear hq hle hr
      go_enter Try.func60, Try.ntmps60
      go_upto_region 1 with fail
      generalize w.alloc _ = w1 at *
      obtain ⟨f0, f1, f2, f3, f4, f5, f6, f7, f8, ff⟩ := HL.out.ownHas.nineQ
      have HB := Lib.hid (And.intro HL.out.below HL.out.ownHas.lt)
      clear HL
      go_wp2_with (go_at_call 55; ((with_reducible refine (HQ.out _).mono ?_); rintro e w' ⟨rfl, rfl⟩))
      refine bodyPost_ret (v := .tuple #[qv 0 (fun _ => 0), .bool false]) (by simp [results, Try.results60, go_sem, f0, f1, f2, f3, f4, f5, f6, f7, f8]) rfl ⟨ret_v HD.out, ?_⟩
      exact below_putQ HB.out.1 _ (Nat.le_refl _) 0 (fun _ => 0)
  · rw [inB_no hq] at HQ
    have HD := Lib.hid (linV_no (n := n) (xs := xs) (by simp [linB, hq]))
    clear hq hr
    go_enter Try.func60, Try.ntmps60
    go_upto_region 1 with fail
    generalize w.alloc _ = w1 at *
    obtain ⟨f0, f1, f2, f3, f4, f5, f6, f7, f8, ff⟩ := HL.out.ownHas.nineQ
    have HB := Lib.hid (And.intro HL.out.below HL.out.ownHas.lt)
    clear HL
    go_wp2_with (go_at_call 55; ((with_reducible refine (HQ.out _).mono ?_); rintro e w' ⟨rfl, rfl⟩))
    refine bodyPost_ret (v := .tuple #[qv 0 (fun _ => 0), .bool false]) (by simp [results, Try.results60, go_sem, f0, f1, f2, f3, f4, f5, f6, f7, f8]) rfl ⟨ret_v HD.out, ?_⟩
    exact below_putQ HB.out.1 _ (Nat.le_refl _) 0 (fun _ => 0)

end Go.Proofs.Ytmhlpaenfknofaa
