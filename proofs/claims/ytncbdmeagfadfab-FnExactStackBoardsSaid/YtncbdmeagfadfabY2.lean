/- One board below another, in the specification. No condition but the sizes. -/
import Derived.Test.YtncbdmeagfadfabY
import Derived.IntWalk
namespace Go.Proofs.Ytncbdmeagfadfab
open Go.RowKit Go.WideShapes

/-- What is there behind k rounds. -/
def stacc (xs ys : List Int) (m k : Nat) : List Int := xs ++ (ys.take k).map (fun y => shv y m)
theorem stacc_zero (xs ys : List Int) (m : Nat) : stacc xs ys m 0 = xs := by simp [stacc]
theorem stacc_len (xs ys : List Int) (m k : Nat) (h : k ≤ ys.length) : (stacc xs ys m k).length = xs.length + k := by simp [stacc]; omega
theorem stacc_next (xs ys : List Int) (m k : Nat) (h : k < ys.length) : stacc xs ys m k ++ [shv (ys.getD k 0) m] = stacc xs ys m (k + 1) := by
  unfold stacc
  rw [List.take_succ_eq_append_getElem h, List.map_append, List.append_assoc]
  simp [List.getD, h]
theorem stacc_end (xs ys : List Int) (m : Nat) : stacc xs ys m ys.length = xs ++ ys.map (fun y => shv y m) := by simp [stacc]

set_option maxRecDepth 100000 in
set_option maxHeartbeats 6400000 in
theorem specStack_any (r c : Int) (xs : List Int) (r2 c2 : Int) (ys : List Int) (w : World) (hx : xs.length ≤ 1048576) (hy : ys.length ≤ 1048576) (lo : Nat) (s : Value) (lo2 : Nat) (s2 : Value) (hO : Own w lo s xs) (hO2 : Own w lo2 s2 ys) :
    Calls Try.prog 21 #[.agg #[.int .i64 r, .int .i64 c, s], .agg #[.int .i64 r2, .int .i64 c2, s2]] w fun e w' => AnsB (stackB r c xs r2 c2 ys) w e w' := by
  have L0 := (((Law.start w).box (.int .i64 r) (.int .i64 c) s 26).box (.int .i64 r2) (.int .i64 c2) s2 26).box (.int .i64 0) (.int .i64 0) (.slice none 0 0) 26
  simp only [World.size_alloc] at L0
  have hsrc := hO.src
  obtain ⟨a, cap, rfl, hr⟩ := hO.reads
  obtain ⟨a2, cap2, rfl, hr2⟩ := hO2.reads
  have hr0 := L0.reads hr
  clear hO hO2
  cases hp : goodB r c xs
  · rw [show stackB r c xs r2 c2 ys = BR.zero by simp [stackB, hp]]
    have HC := Lib.hid (at_boolB (boGood_any r c a cap xs _ hx hr0) hp)
    clear hp hr0 hsrc
    go_enter Try.func21, Try.ntmps21
    go_wp2_with fail
    refine HC.out.mono ?_
    rintro e w1 ⟨rfl, hb⟩
    have L1 := L0.kept hb
    have ⟨_, n0, n1, n2, nf⟩ := L1.ownBox
    have HB := Lib.hid L1.below
    clear L0 L1 hb HC
    go_wp2_with fail
    refine bodyPost_ret (v := .tuple #[.agg #[.int .i64 0, .int .i64 0, .slice none 0 0], .bool false]) (by simp [results, Try.results21, go_sem, n0, n1, n2]) rfl (ansB_zero _ _ ?_)
    exact ((HB.out.setCell (by simp <;> omega) _).setCell (by simp <;> omega) _).setCell (by simp <;> omega) _
  · cases hq : goodB r2 c2 ys
    · rw [show stackB r c xs r2 c2 ys = BR.zero by simp [stackB, hq]]
      have HC := Lib.hid (at_boolB (boGood_any r c a cap xs _ hx hr0) hp)
      have HQ := Lib.hid hq
      clear hp hr0 hq hsrc
      go_enter Try.func21, Try.ntmps21
      go_wp2_with fail
      refine HC.out.mono ?_
      rintro e w1 ⟨rfl, hb⟩
      have L1 := L0.kept hb
      have ⟨_, k0, k1, k2, _⟩ := L1.tl.ownBox
      have hr1 := L1.reads hr2
      clear hb L0 HC
      go_wp2_with fail
      refine (at_boolB (boGood_any r2 c2 a2 cap2 ys _ hy hr1) HQ.out).mono ?_
      rintro e w2 ⟨rfl, hb⟩
      have L2 := L1.kept hb
      have ⟨_, n0, n1, n2, nf⟩ := L2.ownBox
      have HB := Lib.hid L2.below
      clear hb L1 L2 k0 k1 k2
      go_wp2_with fail
      refine bodyPost_ret (v := .tuple #[.agg #[.int .i64 0, .int .i64 0, .slice none 0 0], .bool false]) (by simp [results, Try.results21, go_sem, n0, n1, n2]) rfl (ansB_zero _ _ ?_)
      exact ((HB.out.setCell (by simp <;> omega) _).setCell (by simp <;> omega) _).setCell (by simp <;> omega) _
    · have HP := Lib.hid hp; have HQ := Lib.hid hq
      obtain ⟨⟨a1l, a1h⟩, ⟨b1l, b1h⟩, g3, _⟩ := good_facts hp
      obtain ⟨⟨a2l, a2h⟩, ⟨b2l, b2h⟩, g4, _⟩ := good_facts hq
      subst g3 g4
      obtain ⟨m, rfl⟩ := Int.eq_ofNat_of_zero_le (show 0 ≤ c by omega)
      obtain ⟨q, rfl⟩ := Int.eq_ofNat_of_zero_le (show 0 ≤ c2 by omega)
      cases hz : (inB 1 ((xs.length : Int) + ys.length) 6 && inB 1 ((m : Int) + q) 6)
      · rw [show stackB xs.length m xs ys.length q ys = BR.zero by simp only [stackB, hz, Bool.and_false]; rfl]
        clear hp hq hsrc
        cases h1 : inB 1 ((xs.length : Int) + ys.length) 6
        all_goals
          have C1 := Lib.hid (at_boolW (boSide_any ((xs.length : Int) + ys.length)) h1)
          have h2 : inB 1 ((xs.length : Int) + ys.length) 6 = true → inB 1 ((m : Int) + q) 6 = false := fun h => by rw [h, Bool.true_and] at hz; exact hz
          have C2 : Hid (inB 1 ((xs.length : Int) + ys.length) 6 = true → ∀ w, Calls Try.prog 47 #[.int .i64 ((m : Int) + q)] w fun e w' => e = .returned (.bool false) ∧ w = w') := Lib.hid (fun h => at_boolW (boSide_any ((m : Int) + q)) (h2 h))
          have H1 := Lib.hid h1
          clear h1 h2 hz
          go_enter Try.func21, Try.ntmps21
          go_wp2_with fail
          refine (at_boolB (boGood_any _ _ a cap xs _ hx hr0) HP.out).mono ?_
          rintro e w1 ⟨rfl, hb⟩
          have L1 := L0.kept hb
          have ⟨_, k0, k1, k2, _⟩ := L1.tl.ownBox
          have hr1 := L1.reads hr2
          clear hb L0 hr0
          go_wp2_with fail
          refine (at_boolB (boGood_any _ _ a2 cap2 ys _ hy hr1) HQ.out).mono ?_
          rintro e w2 ⟨rfl, hb⟩
          have L2 := L1.kept hb
          have ⟨_, n0, n1, n2, nf⟩ := L2.ownBox
          have ⟨_, m0, m1, m2, _⟩ := L2.tl.ownBox
          have ⟨_, o0, o1, o2, _⟩ := L2.tl.tl.ownBox
          have HB := Lib.hid L2.below
          clear hb L1 L2 k0 k1 k2 hr1
          go_wp2_with (first | (go_at_call 47; ((with_reducible refine (C1.out _).mono ?_); rintro e w' ⟨rfl, rfl⟩)) | (go_at_call 47; ((with_reducible refine (C2.out H1.out _).mono ?_); rintro e w' ⟨rfl, rfl⟩)))
          refine bodyPost_ret (v := .tuple #[.agg #[.int .i64 0, .int .i64 0, .slice none 0 0], .bool false]) (by simp [results, Try.results21, go_sem, n0, n1, n2]) rfl (ansB_zero _ _ ?_)
          exact ((HB.out.setCell (by simp <;> omega) _).setCell (by simp <;> omega) _).setCell (by simp <;> omega) _
      · rw [show stackB xs.length m xs ys.length q ys = ⟨(xs.length : Int) + ys.length, (m : Int) + q, xs ++ ys.map (fun y => shv y m), true⟩ by simp only [stackB, hz, hp, hq, Bool.and_self, if_true, Int.toNat_natCast]]
        rw [Bool.and_eq_true] at hz
        obtain ⟨h1, h2⟩ := hz
        have C1 := Lib.hid (at_boolW (boSide_any ((xs.length : Int) + ys.length)) h1)
        have C2 := Lib.hid (at_boolW (boSide_any ((m : Int) + q)) h2)
        have f1 := (inB_iff.1 h1).2; have f2 := (inB_iff.1 h2).2
        clear hp hq h1 h2
        go_enter Try.func21, Try.ntmps21
        go_wp2_with fail
        refine (at_boolB (boGood_any _ _ a cap xs _ hx hr0) HP.out).mono ?_
        rintro e w1 ⟨rfl, hb⟩
        have L1 := L0.kept hb
        have ⟨_, k0, k1, k2, _⟩ := L1.tl.ownBox
        have hr1 := L1.reads hr2
        clear hb L0 hr0
        go_wp2_with fail
        refine (at_boolB (boGood_any _ _ a2 cap2 ys _ hy hr1) HQ.out).mono ?_
        rintro e w2 ⟨rfl, hb⟩
        have L2 := L1.kept hb
        have ⟨_, m0, m1, m2, _⟩ := L2.tl.ownBox
        have ⟨_, o0, o1, o2, _⟩ := L2.tl.tl.ownBox
        clear hb L1 k0 k1 k2 hr1
        have HS := Lib.hid (hsrc.kept L2.below)
        have HL := Lib.hid L2
        clear L2 hsrc
        go_upto_region 3 with (first | (go_at_call 47; ((with_reducible refine (C1.out _).mono ?_); rintro e w' ⟨rfl, rfl⟩)) | (go_at_call 47; ((with_reducible refine (C2.out _).mono ?_); rintro e w' ⟨rfl, rfl⟩)))
        have D0 := (Law.start w2).drew
        have k0 := cell_later D0.below o0; have k1 := cell_later D0.below o1; have k2 := cell_later D0.below o2; have k3 := cell_later D0.below m0; have k4 := cell_later D0.below m1
        have s1 : IntKind.i64.wrap ((xs.length : Int) + ys.length) = (xs.length : Int) + ys.length := IntWalk.i64_in _ (by omega)
        have s2 : IntKind.i64.wrap ((m : Int) + q) = (m : Int) + q := IntWalk.i64_in _ (by omega)
        go_cut [6] (fun t6 w' => ∃ nn aa pp, t6 = .pointer (some ⟨nn, 0, none⟩) ∧ Law w2 [tOwn (.slice aa xs.length pp) xs, tBox nn (.int .i64 ((xs.length : Int) + ys.length)) (.int .i64 ((m : Int) + q)) (.slice aa xs.length pp)] w')
        case first =>
          go_region_held3 (fun w' => w'.cell? ⟨w.heap.size, 0, none⟩ = some (.int .i64 xs.length) ∧ w'.cell? ⟨w.heap.size, 1, none⟩ = some (.int .i64 m) ∧ w'.cell? ⟨w.heap.size, 2, none⟩ = some (.slice a xs.length cap) ∧ w'.cell? ⟨w.heap.size + 1, 0, none⟩ = some (.int .i64 ys.length) ∧ w'.cell? ⟨w.heap.size + 1, 1, none⟩ = some (.int .i64 q)) (first | (repeat' apply And.intro) <;> first | with_reducible assumption | (refine cell_later (below_new _) ?_; with_reducible assumption) | (refine cell_later (below_new _).drew ?_; with_reducible assumption) | assumption | (refine cell_later (below_new _) ?_; assumption) | (refine cell_later (below_new _).drew ?_; assumption)) ((go_at_call 48; first | ((with_reducible change Calls _ _ _ (World.drew w2) _); refine (l1Own_any xs _ hx _ (HS.out.kept D0.below)).mono ?_; rintro e wd1 ⟨vd, rfl, OD, hbD⟩; obtain ⟨ad, pd, rfl, _⟩ := OD.reads; have D1 := D0.own hbD OD; have i0 := cell_later D1.below o0; have i1 := cell_later D1.below o1; have i2 := cell_later D1.below o2; have i3 := cell_later D1.below m0; have i4 := cell_later D1.below m1) | ((with_reducible change Calls _ _ _ (World.drew (World.alloc w2 _)) _); have Dz := D0.box (.int .i64 0) (.int .i64 0) (.slice none 0 0) 26; refine (l1Own_any xs _ hx _ (HS.out.kept Dz.below)).mono ?_; rintro e wd1 ⟨vd, rfl, OD, hbD⟩; obtain ⟨ad, pd, rfl, _⟩ := OD.reads; have D1_0 := Dz.own hbD OD; have i0 := cell_later D1_0.below o0; have i1 := cell_later D1_0.below o1; have i2 := cell_later D1_0.below o2; have i3 := cell_later D1_0.below m0; have i4 := cell_later D1_0.below m1; have ⟨zl, z0, z1, z2, zf⟩ := D1_0.boxOf (n := w2.heap.size) (x := .int .i64 0) (y := .int .i64 0) (z := .slice none 0 0) (by simp); have Ds := Law.setBox (ts := [_]) D1_0 (.int .i64 ((xs.length : Int) + ys.length)) (.int .i64 ((m : Int) + q)) (.slice ad xs.length pd); have q0 := cell_later Ds.below o0; have q1 := cell_later Ds.below o1; have q2 := cell_later Ds.below o2; have q3 := cell_later Ds.below m0; have q4 := cell_later Ds.below m1)))
          all_goals
            go_wp2_with fail
            go_meet
            first
              | exact ⟨_, _, _, rfl, Ds.sub (by repeat (first | exact List.Sublist.refl _ | apply List.Sublist.cons_cons | apply List.Sublist.cons))⟩
              | exact ⟨_, _, _, rfl, (Law.swap (D1.box _ _ _ _)).sub (by repeat (first | exact List.Sublist.refl _ | apply List.Sublist.cons_cons | apply List.Sublist.cons))⟩
        obtain ⟨nn, aa, pp, rfl, LC⟩ := hcut
        generalize wc = w3 at *
        have L3 := HL.out.join LC
        clear s1 s2 LC HL D0 k0 k1 k2 k3 k4 m0 m1 m2 o0 o1 o2
        simp only [List.cons_append, List.nil_append] at L3
        have ⟨_, m0, m1, m2, _⟩ := L3.tl.tl.tl.ownBox
        rcases L3.ownInts.cases with ⟨_, e⟩ | ⟨g, cp, hv, _⟩
        · rw [e] at a1l
          simp at a1l
        · obtain rfl : aa = some ⟨g, 0, none⟩ := by injection hv
          have HL := Lib.hid L3
          clear L3
          go_wp2_with fail
          clear m0 m1 m2
          go_loopw [53] (fun i wr => ∃ (k g cp : Nat), k ≤ ys.length ∧ i = .int .i64 k ∧ Law w [tOwn (.slice (some ⟨g, 0, none⟩) (xs.length + k) cp) (stacc xs ys m k), tBox nn (.int .i64 ((xs.length : Int) + ys.length)) (.int .i64 ((m : Int) + q)) (.slice (some ⟨g, 0, none⟩) (xs.length + k) cp), tBox (w.heap.size + 1 + 1) (.int .i64 0) (.int .i64 0) (.slice none 0 0), tBox (w.heap.size + 1) (.int .i64 ys.length) (.int .i64 q) (.slice a2 ys.length cap2), tBox w.heap.size (.int .i64 xs.length) (.int .i64 m) (.slice a xs.length cap)] wr) (fun i _ => ys.length - (intOf i).toNat)
          case atStart => exact ⟨0, g, pp, by omega, rfl, by rw [stacc_zero]; exact HL.out⟩
          case round =>
            clear HL
            obtain ⟨k, g1, cp1, hk, rfl, L⟩ := hrel
            by_cases hlt : k < ys.length
            · have ⟨_, m0, m1, m2, mf⟩ := L.tl.ownBox
              have ⟨_, o0, o1, o2, _⟩ := L.tl.tl.tl.tl.ownBox
              obtain ⟨b0, of0, rfl, hb0, hc0⟩ := reads_row (L.reads hr2) (by omega)
              have hcy := hc0 k hlt
              have HN := Lib.hid (stacc_next xs ys m k hlt)
              have HT := Lib.hid (stacc_len xs ys m k hk)
              have HL := Lib.hid L
              clear hc0 L
              generalize ys.getD k 0 = y at *
              go_wp2_with fail
              go_region_law (refine step_app rfl (.tmp 58) (.tmp 63) rfl 0 (.slice (some ⟨g1, 0, none⟩) (xs.length + k) cp1) (stacc xs ys m k) (xs.length + k) (shv y m) wr.heap.size (by simp [Act.eval]) (by simp [Act.eval]) ((HL.out.kept (below_new _)).drew.ownInts) HT.out (by simp [shv, IntWalk.i64_left]) (by omega) (Nat.zero_le _) _ rfl ?_; intro g2 cp2 w5 hO5 hg5 hx5 hlt5; have L5 := Law.grow (ts := []) (HL.out.kept (below_new _)).drew hg5 hO5 (fun kk hkk => by (have e : g2 = kk := by simpa [Value.ownBlock] using hkk); subst e; exact hx5.imp id (fun e => e.trans (by simp))); have ⟨zl, z0, z1, z2, zf⟩ := L5.tl.ownBox; have HS5 := Lib.hid (Law.set2 (ts := [_]) L5 (.slice (some ⟨g2, 0, none⟩) (xs.length + k + 1) cp2)); clear L5 hO5 hg5 hx5)
              all_goals
                have HS := HS5.out
                rw [HN.out] at HS
                have HS6 := Lib.hid HS
                clear HS HS5
                go_wp2_with fail
                go_roundw
                case rel => exact ⟨k + 1, g2, cp2, by omega, by go_num, HS6.out⟩
                case measure => simp [intOf]; omega
            · obtain rfl : k = ys.length := by omega
              have ⟨_, m0, m1, m2, mf⟩ := L.tl.ownBox
              have ⟨_, n0, n1, n2, nf⟩ := L.tl.tl.ownBox
              have hfin := L.fin3 (n := w.heap.size + 1 + 1) (x := .int .i64 0) (y := .int .i64 0) (z := .slice none 0 0) (by simp) (.int .i64 ((xs.length : Int) + ys.length)) (.int .i64 ((m : Int) + q)) (.slice (some ⟨g1, 0, none⟩) (xs.length + ys.length) cp1)
              rw [stacc_end] at hfin
              have HF := Lib.hid hfin
              clear L hfin
              go_wp2_with fail
              exact bodyPost_ret (v := .tuple #[.agg #[.int .i64 ((xs.length : Int) + ys.length), .int .i64 ((m : Int) + q), .slice (some ⟨g1, 0, none⟩) (xs.length + ys.length) cp1], .bool true]) (by simp [results, Try.results21, go_sem, n0, n1, n2]) rfl ⟨_, rfl, HF.out.1, HF.out.2⟩

end Go.Proofs.Ytncbdmeagfadfab
