/- The order of rows: the program's comparison and its sort. No condition but the sizes. -/
import Derived.Test.YtdimbnkgomfojaaFo
import Derived.Test.YtdimbnkgomfojaaFl
import Derived.Test.YtdimbnkgomfojaaO3
namespace Go.Proofs.Ytdimbnkgomfojaa
open Go.RowKit Go.WideShapes

/-- What a comparison tells. -/
def cmpI (x y : Int) : Int := if x < y then -1 else if y < x then 1 else 0
theorem cmpI_neg (x y : Int) : decide (cmpI x y < 0) = decide (x < y) := by
  unfold cmpI
  by_cases h : x < y
  · simp [h]
  · by_cases h2 : y < x
    · simp [h, h2]
    · simp [h, h2]

set_option maxRecDepth 100000 in
theorem compare_any (x y : Int) (w : World) : Calls Try.prog 83 #[.int .i64 x, .int .i64 y] w fun e w' => e = .returned (.int .i64 (cmpI x y)) ∧ w' = w := by
  by_cases h : x < y
  · rw [show cmpI x y = -1 by simp [cmpI, h]]
    go_enter Try.func83, Try.ntmps83
    go_wp2_with (go_at_call 114; refine (isNaN_any _ _).mono ?_; rintro e w' ⟨rfl, rfl⟩)
    go_ret
    exact ⟨rfl, rfl⟩
  · by_cases h2 : y < x
    · rw [show cmpI x y = 1 by simp [cmpI, h, h2]]
      go_enter Try.func83, Try.ntmps83
      go_wp2_with (go_at_call 114; refine (isNaN_any _ _).mono ?_; rintro e w' ⟨rfl, rfl⟩)
      go_ret
      exact ⟨rfl, rfl⟩
    · rw [show cmpI x y = 0 by simp [cmpI, h, h2]]
      go_enter Try.func83, Try.ntmps83
      go_wp2_with (go_at_call 114; refine (isNaN_any _ _).mono ?_; rintro e w' ⟨rfl, rfl⟩)
      go_ret
      exact ⟨rfl, rfl⟩

set_option maxRecDepth 100000 in
set_option maxHeartbeats 800000 in
theorem order1_any (r c : Int) (M : Nat → Int) (bg i j : Nat) (w : World) (hi : i < 6) (hj : j < 6) (hH : Has w bg (gl r c M) 59) :
    Calls Try.prog 82 (#[] ++ (#[.int .i64 i, .int .i64 j] ++ #[.pointer (some ⟨bg, 0, none⟩)])) w fun e w' => e = .returned (.int .i64 (cmpI (M i) (M j))) ∧ ∃ m, w' = w.drewN m := by
  have c1 := hH.cell (2 + i)
  rw [gl_get _ _ _ i hi] at c1
  have c2 := hH.cell (2 + j)
  rw [gl_get _ _ _ j hj] at c2
  have hi0 : (0 : Int) ≤ i := by omega
  have hj0 : (0 : Int) ≤ j := by omega
  have hi6 : (i : Int) < 6 := by omega
  have hj6 : (j : Int) < 6 := by omega
  clear hH
  generalize M i = x at *
  generalize M j = y at *
  have HC := Lib.hid (fun W => compare_any x y W)
  generalize cmpI x y = z at *
  simp only [Array.empty_append]
  go_enter Try.func82, Try.ntmps82
  go_wp2_with fail
  go_quiet ((go_at_call 83; with_reducible exact Calls.quiet_of_same (HC.out _)))
  go_wp2_with fail
  go_ret
  exact ⟨rfl, _, rfl⟩

set_option maxRecDepth 100000 in
set_option maxHeartbeats 3200000 in
theorem insSortK_any (w0 : World) (ts : List Thing) (g n p bg : Nat) (r c : Int) (M : Nat → Int) (L0 : List Int) (w : World) (h1 : 1 ≤ n) (h6 : n ≤ 6) (hn : L0.length = n) (hL : ∀ x ∈ L0, 0 ≤ x ∧ x < 6)
    (L : Law w0 (tOwn (.slice (some ⟨g, 0, none⟩) n p) L0 :: tHas bg (gl r c M) 59 :: ts) w) :
    Calls Try.prog 133 #[.slice (some ⟨g, 0, none⟩) n p, .int .i64 0, .int .i64 n, .func (.func 82) #[] #[.pointer (some ⟨bg, 0, none⟩)]] w fun e w' => (∃ v, e = .returned v) ∧ Law w0 (tOwn (.slice (some ⟨g, 0, none⟩) n p) (sortK (fun x => M x.toNat) L0) :: tHas bg (gl r c M) 59 :: ts) w' := by
  have hcall : ∀ (args : Array Value) (w : World), (callFunc 82 args).run Try.prog w = .ok (.enter 82 args) w := fun _ _ => by kernel_rfl
  have HN := Lib.hid hn.symm
  have HLB := Lib.hid hL
  have HL0 := Lib.hid L
  obtain ⟨f, hf⟩ : ∃ f : Int → Int, f = fun x => M x.toNat := ⟨_, rfl⟩
  rw [← hf]
  have HF := Lib.hid hf
  clear hn hL L hf
  go_enter Try.func133, Try.ntmps133
  go_wp2_with fail
  go_loopw [8] (fun i wr => ∃ k : Nat, 1 ≤ k ∧ k ≤ n ∧ i = .int .i64 k ∧ Law w0 (tOwn (.slice (some ⟨g, 0, none⟩) n p) (sortK f (L0.take k) ++ L0.drop k) :: tHas bg (gl r c M) 59 :: ts) wr) (fun i _ => n - (intOf i).toNat)
  case atStart => exact ⟨1, Nat.le_refl _, h1, rfl, by rw [sortK_one, List.take_append_drop]; exact HL0.out⟩
  case round =>
    clear HL0
    obtain ⟨k, hk1, hk, rfl, L⟩ := hrel
    by_cases hlt : k < n
    · have hkl : k < L0.length := by have := HN.out; omega
      rw [curK_start f L0 k hkl] at L
      obtain ⟨P, hp⟩ : ∃ P, P = sortK f (L0.take k) := ⟨_, rfl⟩
      have hpl : P.length = k := by rw [hp, sortK_len, List.length_take]; omega
      have hpm : ∀ x ∈ P, 0 ≤ x ∧ x < 6 := fun x hx => by
        rw [hp, sortK_mem] at hx
        exact HLB.out x (List.mem_of_mem_take hx)
      have hxm : 0 ≤ L0.getD k 0 ∧ L0.getD k 0 < 6 := HLB.out _ (by simp [List.getD, hkl])
      have hdone := fun j hj => curK_done f L0 k j hkl hj
      rw [← hp] at L hdone
      obtain ⟨x, hxx⟩ := Int.eq_ofNat_of_zero_le hxm.1
      have hx6 : x < 6 := by omega
      rw [hxx] at L hdone
      obtain ⟨rest, hrest⟩ : ∃ rest, rest = L0.drop (k + 1) := ⟨_, rfl⟩
      rw [← hrest] at L hdone
      have hrl : rest.length + k + 1 = n := by rw [hrest, List.length_drop]; have := HN.out; omega
      have HR := Lib.hid hrest
      have HL := Lib.hid L
      have HD := Lib.hid hdone
      have HP := Lib.hid hpl
      have HPM := Lib.hid hpm
      have HRL := Lib.hid hrl
      clear hrest L hdone hpl hp hkl hpm hxm hxx hrl
      go_wp2_with fail
      go_loopw [9] (fun jv wr => ∃ j : Nat, j ≤ k ∧ jv = .int .i64 j ∧ Hid (∀ q, j ≤ q → q < k → f (x : Int) < f (P.getD q 0)) ∧ Law w0 (tOwn (.slice (some ⟨g, 0, none⟩) n p) (cur P x rest j) :: tHas bg (gl r c M) 59 :: ts) wr) (fun i _ => (intOf i).toNat)
      case atStart => exact ⟨k, Nat.le_refl _, rfl, (fun q h1 h2 => by omega : ∀ q, k ≤ q → q < k → f (x : Int) < f (P.getD q 0)), HL.out⟩
      case round =>
        clear HL
        obtain ⟨j, hj, rfl, HQ, L⟩ := hrel
        by_cases hj0 : j = 0
        · subst hj0
          have hd := HD.out 0 (Nat.zero_le _) (fun q h1 h2 => HQ.out q h1 h2) (fun h => by omega)
          rw [hd, HR.out] at L
          have HL := Lib.hid L
          clear L hd HQ HD hcall
          simp only [show ((0 : Nat) : Int) = 0 from rfl]
          go_wp2_with fail
          go_quiet (fail)
          go_wp2_with fail
          go_roundw
          case rel => exact ⟨k + 1, by omega, by omega, by go_num, HL.out.kept (below_drewN (Below.refl _ _) _)⟩
          case measure => simp [intOf]; omega
        · obtain ⟨i, rfl⟩ : ∃ i, j = i + 1 := ⟨j - 1, by omega⟩
          obtain ⟨f1, f2, f3, f4, f5⟩ := cur_facts P x rest i (by have := HP.out; omega)
          have hlen : (cur P x rest (i + 1)).length = n := by
            unfold cur
            rw [List.length_append, List.length_cons, List.length_append, List.length_take, List.length_drop]
            have := HP.out
            have := HRL.out
            omega
          have o := L.ownInts
          have c1 := Own.cell (by rw [hlen]; exact o) (i + 1) (by omega)
          have c2 := Own.cell (by rw [hlen]; exact o) i (by omega)
          have hfr := Own.free (by rw [hlen]; exact o)
          rw [f1] at c1
          rw [f2] at c2
          have hym : 0 ≤ P.getD i 0 ∧ P.getD i 0 < 6 := HPM.out _ (by simp [List.getD, show i < P.length by have := HP.out; omega])
          obtain ⟨y, hyy⟩ := Int.eq_ofNat_of_zero_le hym.1
          have hy6 : y < 6 := by omega
          have hk0 : (0 : Int) < ((i + 1 : Nat) : Int) := by omega
          have hk1 : (0 : Int) ≤ ((i + 1 : Nat) : Int) - 1 := by omega
          have hk2 : (((i + 1 : Nat) : Int) - 1).toNat = i := by omega
          have hk3 : ((i + 1 : Nat) : Int) - 1 < n := by omega
          have hk4 : IntKind.i64.wrap (((i + 1 : Nat) : Int) - 1) = ((i + 1 : Nat) : Int) - 1 := IntWalk.i64_in _ (by omega)
          have hk5 : ((i + 1 : Nat) : Int) < n := by omega
          have hfx : f (x : Int) = M x := by rw [HF.out]; simp
          have hfy : f (P.getD i 0) = M y := by rw [hyy, HF.out]; simp
          have hcm := fun (W : World) (hH : Has W bg (gl r c M) 59) => order1_any r c M bg x y W hx6 hy6 hH
          have hneg := cmpI_neg (M x) (M y)
          simp only [List.append_toArray, List.cons_append, List.nil_append] at hcm
          by_cases hxy : M x < M y
          · have HQ2 := Lib.hid (show ∀ q, i ≤ q → q < k → f (x : Int) < f (P.getD q 0) from fun q h1 h2 => by
              by_cases e : q = i
              · subst e; rw [hfx, hfy]; exact hxy
              · exact HQ.out q (by omega) h2)
            rw [decide_eq_true hxy, decide_eq_true_eq] at hneg
            have HH := Lib.hid (fun m => (L.kept (below_drewN (Below.refl wr.heap.size wr) m)).tl.ownHas)
            have HS := Lib.hid (show ∀ m, Law w0 (tOwn (.slice (some ⟨g, 0, none⟩) n p) (cur P x rest i) :: tHas bg (gl r c M) 59 :: ts) (((wr.drewN m).setCell ⟨g, i + 1, none⟩ (.int .i64 y)).setCell ⟨g, i, none⟩ (.int .i64 x)) from fun m => by
              have g1 := Law.store (ts := []) (L.kept (below_drewN (Below.refl wr.heap.size wr) m)) hlen (i + 1) y
              have g2 := Law.store (ts := []) g1 (by rw [List.length_set]; exact hlen) i x
              have e : ((cur P x rest (i + 1)).set (i + 1) (y : Int)).set i (x : Int) = cur P x rest i := by
                have hl2 : (cur P x rest i).length = n := by
                  unfold cur
                  rw [List.length_append, List.length_cons, List.length_append, List.length_take, List.length_drop]
                  have := HP.out
                  have := HRL.out
                  omega
                refine List.ext_getElem (by simp [hlen, hl2]) (fun q q1 q2 => ?_)
                have q3 : q < n := by rw [hl2] at q2; exact q2
                have e5 := f5 q
                simp only [List.getElem_set]
                by_cases a1 : i = q
                · subst a1
                  rw [if_pos rfl]
                  simpa [List.getD, q2] using f3.symm
                · rw [if_neg a1]
                  by_cases a2 : i + 1 = q
                  · subst a2
                    rw [if_pos rfl]
                    have h := hyy.symm.trans f4.symm
                    simpa [List.getD, q2] using h
                  · rw [if_neg a2]
                    have := e5 (fun e => a1 e.symm) (fun e => a2 e.symm)
                    simpa [List.getD, q2, show q < (cur P x rest (i + 1)).length by rw [hlen]; exact q3] using this.symm
              rw [e] at g2
              exact g2)
            have HCM := Lib.hid hcm
            rw [hyy] at c2
            generalize cmpI (M x) (M y) = z at *
            clear L f1 f2 f3 f4 f5 HQ hxy hj0 hcm hfx hfy hyy hym o hlen
            go_wp2_with fail
            go_quiet ((go_at_call 82; exact Calls.quiet_of (HCM.out _ (HH.out _))))
            go_wp2_with fail
            go_region
            go_wp2_with fail
            go_roundw
            case rel => exact ⟨i, by omega, rfl, HQ2.out, (HS.out _)⟩
            case measure => simp [intOf]
          · rw [decide_eq_false hxy, decide_eq_false_iff_not] at hneg
            have hd := HD.out (i + 1) hj (fun q h1 h2 => HQ.out q h1 h2) (fun _ => by rw [Nat.add_sub_cancel, hfx, hfy]; omega)
            have HH := Lib.hid (fun m => (L.kept (below_drewN (Below.refl wr.heap.size wr) m)).tl.ownHas)
            rw [hd, HR.out] at L
            have HL := Lib.hid L
            have HCM := Lib.hid hcm
            rw [hyy] at c2
            generalize cmpI (M x) (M y) = z at *
            clear L f1 f2 f3 f4 f5 HQ hxy hj0 hcm hfx hfy hyy hym o hlen hd HD
            go_wp2_with fail
            go_quiet ((go_at_call 82; exact Calls.quiet_of (HCM.out _ (HH.out _))))
            go_wp2_with fail
            go_roundw
            case rel => exact ⟨k + 1, by omega, by omega, by go_num, HL.out.kept (below_drewN (Below.refl _ _) _)⟩
            case measure => simp [intOf]; omega
    · obtain rfl : k = n := by omega
      have hl := HN.out
      have e : sortK f (L0.take k) ++ L0.drop k = sortK f L0 := by rw [hl, List.take_length, List.drop_length, List.append_nil]
      rw [e] at L
      clear hl e
      go_wp2_with fail
      refine bodyPost_end (results_none rfl _ _ _) rfl ?_
      exact ⟨⟨_, rfl⟩, L⟩

set_option maxRecDepth 100000 in
set_option maxHeartbeats 1600000 in
theorem stable_any (w0 : World) (ts : List Thing) (g n p bg : Nat) (r c : Int) (M : Nat → Int) (L0 : List Int) (w : World) (h1 : 1 ≤ n) (h6 : n ≤ 6) (hn : L0.length = n) (hL : ∀ x ∈ L0, 0 ≤ x ∧ x < 6)
    (L : Law w0 (tOwn (.slice (some ⟨g, 0, none⟩) n p) L0 :: tHas bg (gl r c M) 59 :: ts) w) :
    Calls Try.prog 113 #[.slice (some ⟨g, 0, none⟩) n p, .int .i64 n, .func (.func 82) #[] #[.pointer (some ⟨bg, 0, none⟩)]] w fun e w' => (∃ v, e = .returned v) ∧ Law w0 (tOwn (.slice (some ⟨g, 0, none⟩) n p) (sortK (fun x => M x.toNat) L0) :: tHas bg (gl r c M) 59 :: ts) w' := by
  have HC := Lib.hid (fun W (L : Law w0 (tOwn (.slice (some ⟨g, 0, none⟩) n p) L0 :: tHas bg (gl r c M) 59 :: ts) W) => insSortK_any w0 ts g n p bg r c M L0 W h1 h6 hn hL L)
  have hlt : ¬ (20 : Int) ≤ n := by omega
  have hlt2 : ¬ (20 : Int) < n := by omega
  have HL := Lib.hid L
  generalize sortK (fun x => M x.toNat) L0 = RR at *
  clear L hL hn
  go_enter Try.func113, Try.ntmps113
  go_wp2_with fail
  go_loopw [7, 8] (fun a b wr => a = .int .i64 0 ∧ b = .int .i64 20 ∧ Law w0 (tOwn (.slice (some ⟨g, 0, none⟩) n p) L0 :: tHas bg (gl r c M) 59 :: ts) wr) (fun _ _ _ => 0)
  case atStart => exact ⟨rfl, rfl, HL.out⟩
  case round =>
    clear HL
    obtain ⟨rfl, rfl, L⟩ := hrel
    have hc := HC.out _ L
    have HC2 := Lib.hid hc
    clear hc L
    go_wp2_with fail
    refine HC2.out.mono ?_
    rintro e w2 ⟨⟨v, rfl⟩, L2⟩
    have HL2 := Lib.hid L2
    clear L2 HC2
    go_wp2_with fail
    go_loopw [6] (fun b wr => b = .int .i64 20 ∧ Law w0 (tOwn (.slice (some ⟨g, 0, none⟩) n p) RR :: tHas bg (gl r c M) 59 :: ts) wr) (fun _ _ => 0)
    case atStart => exact ⟨rfl, HL2.out⟩
    case round =>
      clear HL2
      obtain ⟨rfl, L⟩ := hrel
      have HL := Lib.hid L
      clear L
      go_wp2_with fail
      refine bodyPost_end (results_none rfl _ _ _) rfl ?_
      exact ⟨⟨_, rfl⟩, HL.out⟩
set_option maxRecDepth 100000 in
theorem sortStable_any (w0 : World) (ts : List Thing) (g n p bg : Nat) (r c : Int) (M : Nat → Int) (L0 : List Int) (w : World) (h1 : 1 ≤ n) (h6 : n ≤ 6) (hn : L0.length = n) (hL : ∀ x ∈ L0, 0 ≤ x ∧ x < 6)
    (L : Law w0 (tOwn (.slice (some ⟨g, 0, none⟩) n p) L0 :: tHas bg (gl r c M) 59 :: ts) w) :
    Calls Try.prog 81 #[.slice (some ⟨g, 0, none⟩) n p, .func (.func 82) #[] #[.pointer (some ⟨bg, 0, none⟩)]] w fun e w' => (∃ v, e = .returned v) ∧ Law w0 (tOwn (.slice (some ⟨g, 0, none⟩) n p) (sortK (fun x => M x.toNat) L0) :: tHas bg (gl r c M) 59 :: ts) w' := by
  have HC := Lib.hid (stable_any w0 ts g n p bg r c M L0 w h1 h6 hn hL L)
  generalize sortK (fun x => M x.toNat) L0 = RR at *
  clear L hL hn
  go_enter Try.func81, Try.ntmps81
  go_wp2_with fail
  refine HC.out.mono ?_
  rintro e w2 ⟨⟨v, rfl⟩, L2⟩
  have HL2 := Lib.hid L2
  clear L2 HC
  go_wp2_with fail
  refine bodyPost_end (results_none rfl _ _ _) rfl ?_
  exact ⟨⟨_, rfl⟩, HL2.out⟩

end Go.Proofs.Ytdimbnkgomfojaa
