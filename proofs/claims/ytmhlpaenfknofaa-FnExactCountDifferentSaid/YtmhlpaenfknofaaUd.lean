/- Pairs of rows that attack each other, in both texts. No condition but the sizes. -/
import Derived.Test.YtmhlpaenfknofaaUc
import Derived.Test.YtmhlpaenfknofaaMf
import Derived.Test.YtmhlpaenfknofaaSa
namespace Go.Proofs.Ytmhlpaenfknofaa
open Go.RowKit Go.WideShapes

theorem own_twoQ (w : World) (x y : Int) : Own (w.alloc (.cells #[.int .i64 x, .int .i64 y] 3)) w.heap.size (.slice (some ⟨w.heap.size, 0, none⟩) 2 2) [x, y] :=
  own_of_has (n := 2) (xs := [x, y]) (Has.new w [.int .i64 x, .int .i64 y] 3) (Nat.le_refl _) rfl (by unfold maxLen; omega)
theorem meets_eight (P : Nat → Nat → Bool) (c k : Nat) (hc : c ≤ 8) (hk : k ≤ 8) : (meets P c k).length ≤ 64 :=
  Nat.le_trans (meets_len P c k) (Nat.le_trans (Nat.mul_le_mul hk hc) (Nat.le_refl _))

set_option maxRecDepth 100000 in
set_option maxHeartbeats 6400000 in
theorem meetings_any (c : Nat) (F : Nat → Int) (hc : c ≤ 8) (hF : ∀ k, k < 8 → 0 ≤ F k ∧ F k < 8) (M : FuncId) (cap : Array Value) (I : World → Prop) (D : Int → Int → Bool) (hM : MoveV M cap I D) (w : World) (hI : I w) :
    Calls Try.prog 49 #[qv c F, .func (.func M) #[] cap] w fun e w' => ∃ v vs, e = .returned v ∧ OwnM w' w.heap.size v vs (meets (fun r s => D ((s : Int) - r) (F s - F r)) c c) ∧ Below w.heap.size w w' := by
  have L0 := (Law.start w).has (ql c F) 46
  rw [show w.alloc (.cells (ql c F).toArray 46) = w.alloc (.cells #[.int .i64 c, .int .i64 (F 0), .int .i64 (F 1), .int .i64 (F 2), .int .i64 (F 3), .int .i64 (F 4), .int .i64 (F 5), .int .i64 (F 6), .int .i64 (F 7)] 46) from rfl] at L0
  have HMT := Lib.hid (fun (r s : Nat) W (h : Below w.heap.size w W) (hr : r < 8) (hs : s < 8) => meet_any c F r s M cap I D hM W (hM.kept w W hI h) hr hs hF)
  have HL := Lib.hid L0
  clear L0 hM hI hF
  obtain ⟨P, hP⟩ : ∃ P : Nat → Nat → Bool, P = fun (r s : Nat) => D ((s : Int) - r) (F s - F r) := ⟨_, rfl⟩
  have HP := Lib.hid (fun r s => congrFun (congrFun hP r) s)
  rw [← hP]
  clear hP
  go_enter Try.func49, Try.ntmps49
  go_upto_region 1 with fail
  generalize w.alloc _ = w1 at *
  have HL2 := Lib.hid (HL.out.nilM)
  clear HL
  obtain ⟨f0, _⟩ := ql_held HL2.out.tl.ownHas
  go_wp2_with fail
  clear f0
  go_loopw [5, 6, 7, 10] (fun v _ _ i wr => ∃ (r : Nat) (vs : List Value), r ≤ c ∧ i = .int .i64 r ∧ Hid (Law w [tM v vs (meets P c r), tHas w.heap.size (ql c F) 46] wr)) (fun _ _ _ i _ => c - (intOf i).toNat)
  case atStart => exact ⟨0, [], Nat.zero_le _, rfl, HL2⟩
  case round =>
    clear HL2
    obtain ⟨r, vs, hr, rfl, HL⟩ := hrel
    obtain ⟨wo, rfl⟩ : ∃ wo : World, wo = wr := ⟨_, rfl⟩
    by_cases hrc : r < c
    · have hr8 : r < 8 := by omega
      go_wp2_with fail
      go_loopw [5, 7] (fun v i wr => ∃ (s : Nat) (vs : List Value), r + 1 ≤ s ∧ s ≤ c ∧ i = .int .i64 s ∧ Hid (Law w [tM v vs (meets P c r ++ rowP P r s), tHas w.heap.size (ql c F) 46] wr)) (fun _ i _ => c - (intOf i).toNat)
      case atStart => exact ⟨r + 1, vs, Nat.le_refl _, by omega, by go_num, by rw [rowP_first P r (r + 1) (Nat.le_refl _), List.append_nil]; exact HL⟩
      case round =>
        clear HL
        obtain ⟨s, vs, hs1, hs2, rfl, HL⟩ := hrel
        obtain ⟨w4, rfl⟩ : ∃ w4 : World, w4 = wr := ⟨_, rfl⟩
        obtain ⟨f0, f1, f2, f3, f4, f5, f6, f7, f8, ff⟩ := ql_held HL.out.tl.ownHas
        by_cases hsc : s < c
        · have HC := Lib.hid (HMT.out r s w4 HL.out.below hr8 (by omega))
          rw [← HP.out r s] at HC
          have hln : vs.length + 1 ≤ 1048576 := by
            have h1 := HL.out.ownM.len
            have h2 := meets_eight P c r hc (by omega)
            have h3 := rowP_len P r s
            rw [List.length_append] at h1
            omega
          cases hp : P r s
          · have HN := Lib.hid (show rowP P r (s + 1) = rowP P r s by rw [rowP_succ P r s (by omega), if_neg (by rw [hp]; decide), List.append_nil])
            rw [hp] at HC
            clear hp
            go_wp2_with (go_at_call 71; ((with_reducible refine HC.out.mono ?_); rintro e w2 ⟨rfl, hb⟩; have HL2 := Lib.hid (HL.out.kept hb); clear hb f0 f1 f2 f3 f4 f5 f6 f7 f8 ff HC HL))
            go_roundw
            case rel => exact ⟨s + 1, vs, by omega, by omega, by go_num, by rw [HN.out]; exact HL2⟩
            case measure => simp [intOf]; omega
          · have HN := Lib.hid (show rowP P r (s + 1) = rowP P r s ++ [[(r : Int), (s : Int)]] by rw [rowP_succ P r s (by omega), if_pos hp])
            rw [hp] at HC
            clear hp
            go_wp2_with fail
            refine HC.out.mono ?_
            rintro e w2 ⟨rfl, hb⟩
            have HL2 := Lib.hid (((HL.out.kept hb).own (below_new _) (own_twoQ w2 r s)).kept (below_new (.cells #[.slice (some ⟨w2.heap.size, 0, none⟩) 2 2] 22)))
            clear hb f0 f1 f2 f3 f4 f5 f6 f7 f8 ff HC HL
            go_wp2_with (at_builtin; refine wp_appendM rfl _ _ rfl HL2.out (w2.heap.size + 1) rfl rfl ?c1 rfl hln ?_)
            case c1 => simp
            intro g cp w3 L3
            have HL3 := Lib.hid L3
            clear L3 HL2
            go_wp2_with fail
            go_roundw
            case rel => exact ⟨s + 1, _, by omega, by omega, by go_num, by rw [HN.out]; first | exact HL3 | (rw [← List.append_assoc]; exact HL3)⟩
            case measure => simp [intOf]; omega
        · obtain rfl : s = c := by omega
          go_wp2_with fail
          clear f0 f1 f2 f3 f4 f5 f6 f7 f8 ff
          go_roundw
          case rel => exact ⟨r + 1, vs, by omega, by go_num, by rw [meets_succ]; exact HL⟩
          case measure => simp [intOf]; omega
    · obtain rfl : r = c := by omega
      go_wp2_with fail
      go_ret
      exact ⟨_, vs, rfl, HL.out.ownMLo, HL.out.below⟩
theorem l1AbsQ_any (x : Int) (w : World) (hx : -100 ≤ x ∧ x ≤ 100) : Calls Try.prog 70 #[.int .i64 x] w fun e w' => e = .returned (.int .i64 (absQ x)) ∧ w = w' := by
  have hn : wrap64 (-x) = -x := IntWalk.wrap64_in _ (by omega)
  have HM : Hid (∀ W, Calls Try.prog 78 #[.int .i64 x, .int .i64 (-x)] W fun e w' => e = .returned (.int .i64 (absQ x)) ∧ w' = W) := Lib.hid (fun W => by
    unfold absQ
    by_cases h : x > -x
    · rw [if_pos h]
      go_enter Try.func78, Try.ntmps78
      go_wp2_with fail
      go_ret
      exact ⟨rfl, rfl⟩
    · rw [if_neg h]
      go_enter Try.func78, Try.ntmps78
      go_wp2_with fail
      go_ret
      exact ⟨rfl, rfl⟩)
  generalize absQ x = y at *
  go_enter Try.func70, Try.ntmps70
  go_wp2_with fail
  refine (HM.out _).mono ?_
  rintro e w' ⟨rfl, hw⟩
  subst hw
  go_wp2_with fail
  go_ret
  exact ⟨rfl, rfl⟩
set_option maxRecDepth 100000 in
set_option maxHeartbeats 6400000 in
theorem quAttacks_any (a : Option Addr) (cap : Nat) (xs : List Int) (w : World) (hc : xs.length ≤ 8) (hF : ∀ x ∈ xs, 0 ≤ x ∧ x < 8) (hr : Reads w a xs.length xs) :
    Calls Try.prog 47 #[.slice a xs.length cap] w fun e w' => ∃ v vs, e = .returned v ∧ OwnM w' w.heap.size v vs (meets (absP xs) xs.length xs.length) ∧ Below w.heap.size w w' := by
  have HL2 := Lib.hid ((Law.start w).nilM)
  have HF := Lib.hid (fun k (hk : k < xs.length) => hF _ (getD_mem' hk))
  have HR := Lib.hid hr
  have HP := Lib.hid (fun r s => show absP xs r s = (absQ (xs.getD r 0 - xs.getD s 0) == (s : Int) - r) from rfl)
  clear hF hr
  generalize absP xs = P at *
  obtain ⟨c, hcl⟩ : ∃ c, c = xs.length := ⟨_, rfl⟩
  have HCL := Lib.hid hcl
  rw [← hcl] at hc HR HF ⊢
  clear hcl
  go_enter Try.func47, Try.ntmps47
  go_wp2_with fail
  go_loopw [3, 4, 5, 6, 9] (fun v _ _ _ i wr => ∃ (r : Nat) (vs : List Value), r ≤ c ∧ i = .int .i64 r ∧ Hid (Law w [tM v vs (meets P c r)] wr)) (fun _ _ _ _ i _ => c - (intOf i).toNat)
  case atStart => exact ⟨0, [], Nat.zero_le _, rfl, HL2⟩
  case round =>
    clear HL2
    obtain ⟨r, vs, hr, rfl, HL⟩ := hrel
    obtain ⟨wo, rfl⟩ : ∃ wo : World, wo = wr := ⟨_, rfl⟩
    by_cases hrc : r < c
    · obtain ⟨b, off, rfl, hb, hcx⟩ := reads_row (HL.out.reads HR.out) (by omega)
      have hck := hcx r hrc
      clear hcx hb
      have hfr := HF.out r hrc
      have HPR := Lib.hid (HP.out r)
      generalize xs.getD r 0 = x at *
      go_wp2_with fail
      clear hck
      go_loopw [3, 6] (fun v i wr => ∃ (s : Nat) (vs : List Value), r + 1 ≤ s ∧ s ≤ c ∧ i = .int .i64 s ∧ Hid (Law w [tM v vs (meets P c r ++ rowP P r s)] wr)) (fun _ i _ => c - (intOf i).toNat)
      case atStart => exact ⟨r + 1, vs, Nat.le_refl _, by omega, by go_num, by rw [rowP_first P r (r + 1) (Nat.le_refl _), List.append_nil]; exact HL⟩
      case round =>
        clear HL
        obtain ⟨s, vs, hs1, hs2, rfl, HL⟩ := hrel
        obtain ⟨w4, rfl⟩ : ∃ w4 : World, w4 = wr := ⟨_, rfl⟩
        by_cases hsc : s < c
        · obtain ⟨b', off', he, hb, hcx⟩ := reads_row (HL.out.reads HR.out) (by omega)
          injection he with he
          injection he with he1 he2
          subst he1
          subst he2
          have hcs := hcx s hsc
          clear hcx hb
          have hfs := HF.out s hsc
          have HPS := Lib.hid (HPR.out s)
          generalize xs.getD s 0 = y at *
          have HA := Lib.hid (l1AbsQ_any (x - y) w4 (by omega))
          have hw1 : wrap64 (x - y) = x - y := IntWalk.wrap64_in _ (by omega)
          have hw2 : wrap64 ((s : Int) - r) = (s : Int) - r := IntWalk.wrap64_in _ (by omega)
          have hln : vs.length + 1 ≤ 1048576 := by
            have h1 := HL.out.ownM.len
            have h2 := meets_eight P c r hc (by omega)
            have h3 := rowP_len P r s
            rw [List.length_append] at h1
            omega
          generalize absQ (x - y) = z at *
          cases hp : P r s
          · have hz : (z == (s : Int) - r) = false := by rw [← HPS.out]; exact hp
            have HN := Lib.hid (show rowP P r (s + 1) = rowP P r s by rw [rowP_succ P r s (by omega), if_neg (by rw [hp]; decide), List.append_nil])
            clear hp
            go_wp2_with (go_at_call 70; ((with_reducible refine HA.out.mono ?_); rintro e w' ⟨rfl, rfl⟩))
            clear hcs
            go_roundw
            case rel => exact ⟨s + 1, vs, by omega, by omega, by go_num, by rw [HN.out]; exact HL⟩
            case measure => simp [intOf]; omega
          · have hz : (z == (s : Int) - r) = true := by rw [← HPS.out]; exact hp
            have HN := Lib.hid (show rowP P r (s + 1) = rowP P r s ++ [[(r : Int), (s : Int)]] by rw [rowP_succ P r s (by omega), if_pos hp])
            clear hp
            have HL2 := Lib.hid ((HL.out.own (below_new _) (own_twoQ w4 r s)).kept (below_new (.cells #[.slice (some ⟨w4.heap.size, 0, none⟩) 2 2] 22)))
            go_wp2_with (first | (go_at_call 70; ((with_reducible refine HA.out.mono ?_); rintro e w' ⟨rfl, rfl⟩)) | (at_builtin; refine wp_appendM rfl _ _ rfl HL2.out (w4.heap.size + 1) rfl rfl ?c1 rfl hln ?_))
            case c1 => simp
            intro g cp w3 L3
            have HL3 := Lib.hid L3
            clear L3 HL2 hcs HL
            go_wp2_with fail
            go_roundw
            case rel => exact ⟨s + 1, _, by omega, by omega, by go_num, by rw [HN.out]; first | exact HL3 | (rw [← List.append_assoc]; exact HL3)⟩
            case measure => simp [intOf]; omega
        · obtain rfl : s = c := by omega
          go_wp2_with fail
          go_roundw
          case rel => exact ⟨r + 1, vs, by omega, by go_num, by rw [meets_succ]; exact HL⟩
          case measure => simp [intOf]; omega
    · obtain rfl : r = c := by omega
      go_wp2_with fail
      go_ret
      exact ⟨_, vs, rfl, HL.out.ownMLo, HL.out.below⟩

end Go.Proofs.Ytmhlpaenfknofaa
