/- A cell put or taken, in both texts. No condition but the sizes. -/
import Derived.Test.YtncbdmeagfadfaaQ
namespace Go.Proofs.Ytncbdmeagfadfaa
open Go.RowKit Go.WideShapes

def putM (x : Int) (j : Nat) (on : Bool) : Int := if on then ((x.toNat ||| 2 ^ j : Nat) : Int) else ((x.toNat ||| 2 ^ j : Nat) : Int) - 2 ^ j
theorem put_or (x : Int) (j : Nat) (h : 0 ≤ x ∧ x < 64) (hj : j < 6) : bits .or .i64 x (wrap64 (2 ^ j)) = putM x j true := by
  obtain ⟨n, rfl⟩ := Int.eq_ofNat_of_zero_le h.1
  have key : ∀ n : Fin 64, ∀ j : Fin 6, bits .or .i64 ((n : Nat) : Int) (wrap64 (2 ^ (j : Nat))) = putM ((n : Nat) : Int) j true := by decide +kernel
  exact key ⟨n, by omega⟩ ⟨j, hj⟩
theorem put_and (x : Int) (j : Nat) (h : 0 ≤ x ∧ x < 64) (hj : j < 6) : bits .andNot .i64 x (wrap64 (2 ^ j)) = putM x j false := by
  obtain ⟨n, rfl⟩ := Int.eq_ofNat_of_zero_le h.1
  have key : ∀ n : Fin 64, ∀ j : Fin 6, bits .andNot .i64 ((n : Nat) : Int) (wrap64 (2 ^ (j : Nat))) = putM ((n : Nat) : Int) j false := by decide +kernel
  exact key ⟨n, by omega⟩ ⟨j, hj⟩
theorem put_sub (x : Int) (j : Nat) (h : 0 ≤ x ∧ x < 64) (hj : j < 6) : wrap64 (putM x j true - wrap64 (2 ^ j)) = putM x j false := by
  obtain ⟨n, rfl⟩ := Int.eq_ofNat_of_zero_le h.1
  have key : ∀ n : Fin 64, ∀ j : Fin 6, wrap64 (putM ((n : Nat) : Int) j true - wrap64 (2 ^ (j : Nat))) = putM ((n : Nat) : Int) j false := by decide +kernel
  exact key ⟨n, by omega⟩ ⟨j, hj⟩

def putB (r c : Int) (xs : List Int) (i j : Int) (on : Bool) : BR := if placeB r c xs i j then ⟨r, c, xs.set i.toNat (putM (xs.getD i.toNat 0) j.toNat on), true⟩ else BR.zero
theorem putB_len (r c : Int) (xs : List Int) (i j : Int) (on : Bool) : (putB r c xs i j on).xs.length ≤ 1048576 := by
  unfold putB
  split
  · rename_i h
    rw [placeB, Bool.and_eq_true] at h
    have := good_facts h.1
    simp; omega
  · simp [BR.zero]

set_option maxHeartbeats 1600000 in
theorem implPut_any (r c : Int) (xs : List Int) (i j : Int) (on : Bool) (w : World) (hx : xs.length ≤ 1048576) (lo : Nat) (s : Value) (hO : Own w lo s xs) :
    Calls Try.prog 38 #[.agg #[.int .i64 r, .int .i64 c, s], .int .i64 i, .int .i64 j, .bool on] w fun e w' => AnsB (putB r c xs i j on) w e w' := by
  have L0 := ((Law.start w).box (.int .i64 r) (.int .i64 c) s 27).box (.int .i64 0) (.int .i64 0) (.slice none 0 0) 27
  simp only [World.size_alloc] at L0
  obtain ⟨a, cap, rfl, hr⟩ := hO.reads
  have hr0 := L0.reads hr
  clear hO
  cases hg : goodB r c xs
  · rw [show putB r c xs i j on = BR.zero by simp [putB, placeB, hg]]
    go_enter Try.func38, Try.ntmps38
    go_wp2_with fail
    refine (gridOf_no r c a cap xs _ hx hr0 hg).mono ?_
    rintro e w1 ⟨rfl, hb⟩
    have L1 := (L0.kept hb).kept (below_new (.cells #[.int .i64 0, .int .i64 0, .int .i64 0, .int .i64 0, .int .i64 0, .int .i64 0, .int .i64 0, .int .i64 0] 63))
    have ⟨_, n0, n1, n2, nf⟩ := L1.ownBox
    have HB := Lib.hid L1.below
    clear L0 L1 hb hg hr0
    go_wp2_with fail
    refine bodyPost_ret (v := .tuple #[.agg #[.int .i64 0, .int .i64 0, .slice none 0 0], .bool false]) (by simp [results, Try.results38, go_sem, n0, n1, n2]) rfl (ansB_zero _ _ ?_)
    have h2 := HB.out
    repeat (refine Below.setCell ?_ (by simp <;> omega) _)
    exact h2
  · cases hi : insB r c i j
    · rw [show putB r c xs i j on = BR.zero by simp [putB, placeB, hi]]
      have HI := Lib.hid hi; clear hi
      go_enter Try.func38, Try.ntmps38
      go_wp2_with fail
      refine (gridOf_yes r c a cap xs _ hx hr0 hg).mono ?_
      rintro e w1 ⟨rfl, hb⟩
      have L1 := (L0.kept hb).kept (below_new (.cells #[.int .i64 r, .int .i64 c, .int .i64 (xs.getD 0 0), .int .i64 (xs.getD 1 0), .int .i64 (xs.getD 2 0), .int .i64 (xs.getD 3 0), .int .i64 (xs.getD 4 0), .int .i64 (xs.getD 5 0)] 63))
      clear L0 hb hg hr0
      go_wp2_with fail
      refine (inside_any r c i j (fun k => xs.getD k 0) _).mono ?_
      rintro e w2 ⟨rfl, hb⟩
      rw [HI.out]
      have L2 := L1.kept hb
      have ⟨_, n0, n1, n2, nf⟩ := L2.ownBox
      have HB := Lib.hid L2.below
      clear L1 L2 hb
      go_wp2_with fail
      refine bodyPost_ret (v := .tuple #[.agg #[.int .i64 0, .int .i64 0, .slice none 0 0], .bool false]) (by simp [results, Try.results38, go_sem, n0, n1, n2]) rfl (ansB_zero _ _ ?_)
      have h2 := HB.out
      repeat (refine Below.setCell ?_ (by simp <;> omega) _)
      exact h2
    · rw [show putB r c xs i j on = ⟨r, c, xs.set i.toNat (putM (xs.getD i.toNat 0) j.toNat on), true⟩ by simp [putB, placeB, hg, hi]]
      obtain ⟨h1, h2, h3, h4⟩ := insB_iff.1 hi
      obtain ⟨g1, g2, g3, _⟩ := good_facts hg
      obtain ⟨k, rfl⟩ := Int.eq_ofNat_of_zero_le h1
      obtain ⟨l, rfl⟩ := Int.eq_ofNat_of_zero_le h3
      obtain ⟨n, rfl⟩ := Int.eq_ofNat_of_zero_le (show 0 ≤ r by omega)
      rw [Int.toNat_natCast, Int.toNat_natCast]
      have hcell := good_cell hg k
      have hor := put_or (xs.getD k 0) l hcell (by omega)
      have hand := put_and (xs.getD k 0) l hcell (by omega)
      obtain ⟨f', hf1, hf2, hcs⟩ : ∃ f' : Nat → Int, f' k = putM (xs.getD k 0) l on ∧ (∀ q, q ≠ k → f' q = xs.getD q 0) ∧ [f' 0, f' 1, f' 2, f' 3, f' 4, f' 5].take n = xs.set k (putM (xs.getD k 0) l on) := by
        refine ⟨fun q => if q = k then putM (xs.getD k 0) l on else xs.getD q 0, by simp, fun q hq => by simp [hq], ?_⟩
        have := cells_n n (fun q => if q = k then putM (xs.getD k 0) l on else xs.getD q 0) (xs.set k (putM (xs.getD k 0) l on)) (by simp; omega) (by omega) (fun q hq => by
          by_cases e : q = k
          · subst e; simp [List.getD, show q < xs.length by omega]
          · have e' : ¬ k = q := fun h => e h.symm
            simp [List.getD, e, e'])
        rw [← this, List.map_take]
        rfl
      have HCS := Lib.hid hcs; clear hcs
      have HF1 := Lib.hid hf1; clear hf1
      have HF2 := Lib.hid hf2; clear hf2
      have HI := Lib.hid hi; clear hi
      go_enter Try.func38, Try.ntmps38
      go_wp2_with fail
      refine (gridOf_yes n c a cap xs _ hx hr0 hg).mono ?_
      rintro e w1 ⟨rfl, hb⟩
      have L1 := (L0.kept hb).has (gl n c (fun q => xs.getD q 0)) 63
      clear L0 hb hg hr0
      go_wp2_with fail
      refine (inside_any n c k l (fun q => xs.getD q 0) _).mono ?_
      rintro e w2 ⟨rfl, hb⟩
      rw [HI.out]
      have L2 := L1.kept hb
      have hce := L2.ownHas.cell (2 + k)
      rw [gl_get _ _ _ k (by omega)] at hce
      have hfe := L2.ownHas.free (2 + k)
      clear L1 hb
      have LM : Law w [tHas w1.heap.size (gl n c f') 63, tBox (w.heap.size + 1) (.int .i64 0) (.int .i64 0) (.slice none 0 0), tBox w.heap.size (.int .i64 n) (.int .i64 c) (.slice a xs.length cap)] ((w2.setCell ⟨w1.heap.size, 2 + k, none⟩ (.int .i64 (putM (xs.getD k 0) l on))).drew) := by
        have := Law.setHas (ts := []) L2 (2 + k) (.int .i64 (putM (xs.getD k 0) l on))
        rw [gl_set n c (fun q => xs.getD q 0) f' k (by omega) _ HF1.out (fun q hq => HF2.out q hq)] at this
        exact this.drew
      clear L2
      have HLM := Lib.hid LM; clear LM
      have HC := Lib.hid hcell; clear hcell
      generalize hpo : putM (xs.getD k 0) l on = v at *
      generalize hxk : xs.getD k 0 = x at *
      have HPO := Lib.hid hpo; clear hpo
      have HXK := Lib.hid hxk; clear hxk
      cases on
      all_goals
        first | rw [HPO.out] at hor | rw [HPO.out] at hand
        go_wp2_with fail
        go_region
        have LM := HLM.out
        generalize (w2.setCell ⟨w1.heap.size, 2 + k, none⟩ (.int .i64 v)).drew = w3 at *
        obtain ⟨e0, e1, e2, e3, e4, e5, e6, e7, _⟩ := LM.ownHas.eight
        have LT := LM.tl
        clear HLM LM hce hfe
        go_wp2_with fail
        refine (board_any n c _ _ _ _ _ _ _ (by omega)).mono ?_
        rintro e w4 ⟨s4, rfl, hO, hb⟩
        rw [HCS.out] at hO
        have L4 := LT.own hb hO
        obtain ⟨a1, p1, hv, _⟩ := hO.reads
        subst hv
        have ⟨_, n0, n1, n2, nf⟩ := L4.tl.ownBox
        have hfin := L4.fin3 (n := w.heap.size + 1) (x := .int .i64 0) (y := .int .i64 0) (z := .slice none 0 0) (by simp) (.int .i64 n) (.int .i64 c) (.slice a1 (xs.set k v).length p1)
        have HF := Lib.hid hfin
        rw [List.length_set] at HF ⊢
        clear LT L4 hO hb hfin e0 e1 e2 e3 e4 e5 e6 e7
        go_wp2_with fail
        exact bodyPost_ret (v := .tuple #[.agg #[.int .i64 n, .int .i64 c, .slice a1 xs.length p1], .bool true]) (by simp [results, Try.results38, go_sem, n0, n1, n2]) rfl ⟨_, rfl, by rw [HXK.out, HPO.out]; exact HF.out.1, HF.out.2⟩

set_option maxHeartbeats 1600000 in
theorem specPut_any (r c : Int) (xs : List Int) (i j : Int) (on : Bool) (w : World) (hx : xs.length ≤ 1048576) (lo : Nat) (s : Value) (hO : Own w lo s xs) :
    Calls Try.prog 37 #[.agg #[.int .i64 r, .int .i64 c, s], .int .i64 i, .int .i64 j, .bool on] w fun e w' => AnsB (putB r c xs i j on) w e w' := by
  have L0 := ((Law.start w).box (.int .i64 r) (.int .i64 c) s 27).box (.int .i64 0) (.int .i64 0) (.slice none 0 0) 27
  have hO0 := hO.kept L0.below
  simp only [World.size_alloc] at L0
  obtain ⟨a, cap, rfl, hr⟩ := hO.reads
  clear hO
  cases hp : placeB r c xs i j
  · rw [show putB r c xs i j on = BR.zero by simp [putB, hp]]
    go_enter Try.func37, Try.ntmps37
    go_wp2_with fail
    refine (at_boolB (boPlace_any r c xs i j _ hx lo _ hO0) hp).mono ?_
    rintro e w1 ⟨rfl, hb⟩
    have L1 := L0.kept hb
    have ⟨_, n0, n1, n2, nf⟩ := L1.ownBox
    have HB := Lib.hid L1.below
    clear L0 L1 hb hO0 hp
    go_wp2_with fail
    refine bodyPost_ret (v := .tuple #[.agg #[.int .i64 0, .int .i64 0, .slice none 0 0], .bool false]) (by simp [results, Try.results37, go_sem, n0, n1, n2]) rfl (ansB_zero _ _ ?_)
    have h2 := HB.out
    repeat (refine Below.setCell ?_ (by simp <;> omega) _)
    exact h2
  · rw [show putB r c xs i j on = ⟨r, c, xs.set i.toNat (putM (xs.getD i.toNat 0) j.toNat on), true⟩ by simp [putB, hp]]
    have hp' := hp
    rw [placeB, Bool.and_eq_true, insB_iff] at hp'
    obtain ⟨hg, h1, h2, h3, h4⟩ := hp'
    obtain ⟨g1, g2, g3, _⟩ := good_facts hg
    obtain ⟨k, rfl⟩ := Int.eq_ofNat_of_zero_le h1
    obtain ⟨l, rfl⟩ := Int.eq_ofNat_of_zero_le h3
    rw [Int.toNat_natCast, Int.toNat_natCast]
    have hcell := good_cell hg k
    have hor := put_or (xs.getD k 0) l hcell (by omega)
    have hsub := put_sub (xs.getD k 0) l hcell (by omega)
    have hklt : k < xs.length := by omega
    clear hg g3
    go_enter Try.func37, Try.ntmps37
    go_wp2_with fail
    refine (at_boolB (boPlace_any r c xs k l _ hx lo _ hO0) hp).mono ?_
    rintro e w1 ⟨rfl, hb⟩
    have L1 := L0.kept hb
    have hO1 := hO0.kept hb
    have ⟨_, k0, k1, k2, _⟩ := L1.tl.ownBox
    clear L0 hb hO0 hp
    go_wp2_with fail
    refine (boOwn_any r c xs _ hx lo _ hO1).mono ?_
    rintro e w2 ⟨v, rfl, hO, hb⟩
    rcases hO.cases with ⟨_, rfl⟩ | ⟨g, p1, rfl, q1, q2, q3, q4⟩
    · simp at hklt
    · have L2 := (L1.own hb hO).box (.int .i64 r) (.int .i64 c) (.slice (some ⟨g, 0, none⟩) xs.length p1) 27
      clear L1 hO hO1 hb k0 k1 k2
      go_wp2_with fail
      generalize w2.alloc (.cells #[.int .i64 r, .int .i64 c, .slice (some ⟨g, 0, none⟩) xs.length p1] 27) = w5 at *
      have hOk := L2.tl.ownInts
      have hcy := Own.cell hOk k hklt
      have hfy := Own.free hOk k
      have ⟨_, k0, k1, k2, _⟩ := L2.ownBox
      have HLA := Lib.hid ((Law.store (ts := [_]) L2 rfl k (putM (xs.getD k 0) l true)).drew)
      have hgs : ∀ v : Int, (xs.set k v).getD k 0 = v := fun v => by simp [List.getD, hklt]
      have HGS := Lib.hid hgs; clear hgs
      clear L2 hOk
      generalize hxk : xs.getD k 0 = x at *
      have HXK := Lib.hid hxk; clear hxk
      generalize hvt : putM x l true = vt at *
      generalize hvf : putM x l false = vf at *
      have HVT := Lib.hid hvt; clear hvt
      have HVF := Lib.hid hvf; clear hvf
      go_region
      have LA := HLA.out
      generalize (w5.setCell ⟨g, k, none⟩ (.int .i64 vt)).drew = w3 at *
      clear HLA hcy hfy k0 k1 k2
      have ⟨_, k0, k1, k2, _⟩ := LA.ownBox
      have ⟨_, n0, n1, n2, nf⟩ := LA.tl.tl.ownBox
      cases on
      · have hOk := LA.tl.ownInts
        have hcy := Own.cell (xs := xs.set k vt) (by simpa using hOk) k (by simpa using hklt)
        rw [HGS.out] at hcy
        have hfy := Own.free (xs := xs.set k vt) (by simpa using hOk) k
        have HLB := Lib.hid ((Law.store (ts := [_]) LA (by simp) k vf).drew)
        rw [List.set_set] at HLB
        clear LA hOk n0 n1 n2 nf
        go_wp2_with fail
        go_region
        have LB := HLB.out
        generalize (w3.setCell ⟨g, k, none⟩ (.int .i64 vf)).drew = w4 at *
        clear HLB hcy hfy k0 k1 k2
        have ⟨_, k0, k1, k2, _⟩ := LB.ownBox
        have ⟨_, n0, n1, n2, nf⟩ := LB.tl.tl.ownBox
        have hfin := LB.tl.fin3 (n := w.heap.size + 1) (x := .int .i64 0) (y := .int .i64 0) (z := .slice none 0 0) (by simp) (.int .i64 r) (.int .i64 c) (.slice (some ⟨g, 0, none⟩) xs.length p1)
        have HF := Lib.hid hfin
        clear LB hfin
        go_wp2_with fail
        exact bodyPost_ret (v := .tuple #[.agg #[.int .i64 r, .int .i64 c, .slice (some ⟨g, 0, none⟩) xs.length p1], .bool true]) (by simp [results, Try.results37, go_sem, n0, n1, n2]) rfl ⟨_, rfl, by rw [HXK.out, HVF.out]; exact HF.out.1, HF.out.2⟩
      · have hfin := LA.tl.fin3 (n := w.heap.size + 1) (x := .int .i64 0) (y := .int .i64 0) (z := .slice none 0 0) (by simp) (.int .i64 r) (.int .i64 c) (.slice (some ⟨g, 0, none⟩) xs.length p1)
        have HF := Lib.hid hfin
        clear LA hfin
        go_wp2_with fail
        exact bodyPost_ret (v := .tuple #[.agg #[.int .i64 r, .int .i64 c, .slice (some ⟨g, 0, none⟩) xs.length p1], .bool true]) (by simp [results, Try.results37, go_sem, n0, n1, n2]) rfl ⟨_, rfl, by rw [HXK.out, HVT.out]; exact HF.out.1, HF.out.2⟩

end Go.Proofs.Ytncbdmeagfadfaa
