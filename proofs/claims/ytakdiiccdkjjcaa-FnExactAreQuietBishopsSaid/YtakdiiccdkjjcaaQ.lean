/- The model's copy of a board, and complements, in both texts. No condition but the sizes. -/
import Derived.Test.YtakdiiccdkjjcaaP
import Derived.Test.YtakdiiccdkjjcaaF
import Derived.Test.YtakdiiccdkjjcaaH
import Derived.Deep.RegionWith
import Derived.Deep.RegionHeld3
import Derived.Deep.DeepCutAuto
namespace Go.Proofs.Ytakdiiccdkjjcaa
open Go.RowKit Go.WideShapes

set_option maxHeartbeats 1600000 in
theorem boOwn_any (r c : Int) (xs : List Int) (w : World) (hx : xs.length ≤ 1048576) (lo : Nat) (s : Value) (hO : Own w lo s xs) :
    Calls Try.prog 117 #[.agg #[.int .i64 r, .int .i64 c, s]] w fun e w' => ∃ v, e = .returned (.agg #[.int .i64 r, .int .i64 c, v]) ∧ Own w' w.heap.size v xs ∧ Below w.heap.size w w' := by
  have L0 := ((Law.start w).box (.int .i64 r) (.int .i64 c) s 28).box (.int .i64 0) (.int .i64 0) (.slice none 0 0) 28
  have hs := hO.src.kept L0.below
  obtain ⟨a, cap, rfl, _⟩ := hO.reads
  clear hO
  have hd := (Below.refl ((w.alloc (.cells #[.int .i64 r, .int .i64 c, .slice a xs.length cap] 28)).alloc (.cells #[.int .i64 0, .int .i64 0, .slice none 0 0] 28)).heap.size ((w.alloc (.cells #[.int .i64 r, .int .i64 c, .slice a xs.length cap] 28)).alloc (.cells #[.int .i64 0, .int .i64 0, .slice none 0 0] 28))).drew
  have Ld := L0.kept hd
  have hsd := hs.kept hd
  have ⟨_, k0, k1, k2, _⟩ := Ld.tl.ownBox
  have HS := Lib.hid hsd
  clear hs hsd L0
  go_enter Try.func117, Try.ntmps117
  go_wp2_with fail
  go_region_held3 (fun w' => w'.cell? ⟨w.heap.size, 0, none⟩ = some (.int .i64 r) ∧ w'.cell? ⟨w.heap.size, 1, none⟩ = some (.int .i64 c) ∧ w'.cell? ⟨w.heap.size, 2, none⟩ = some (.slice a xs.length cap)) (first | exact ⟨k0, k1, k2⟩ | exact ⟨m0, m1, m2⟩ | (refine ⟨?_, ?_, ?_⟩ <;> simp [World.cell?_setCell_far, m0, m1, m2])) (((go_at_call 126; refine (l1Own_any xs _ hx _ HS.out).mono ?_; rintro e w1 ⟨v, rfl, hO, hb⟩; obtain ⟨a1, p1, hv, _⟩ := hO.reads; subst hv; have L1 := Ld.own hb hO; have ⟨_, m0, m1, m2, _⟩ := L1.tl.tl.ownBox; have ⟨_, n0, n1, n2, nf⟩ := L1.tl.ownBox; simp only [World.size_alloc] at n0 n1 n2 nf)))
  have hfin := L1.fin3 (n := w.heap.size + 1) (x := .int .i64 0) (y := .int .i64 0) (z := .slice none 0 0) (by simp) (.int .i64 r) (.int .i64 c) (.slice a1 xs.length p1)
  have HF := Lib.hid hfin
  clear L1 Ld hd hb hO hfin
  go_wp2_with fail
  exact bodyPost_ret (v := .agg #[.int .i64 r, .int .i64 c, .slice a1 xs.length p1]) (by simp [results, Try.results117, go_sem, n0, n1, n2]) rfl ⟨_, rfl, HF.out.1, HF.out.2⟩

/-- A zero board, and false: a call that fails. -/
theorem ansB_zero (w w' : World) (h : Below w.heap.size w w') : AnsB BR.zero w (.returned (.tuple #[.agg #[.int .i64 0, .int .i64 0, .slice none 0 0], .bool false])) w' := ⟨_, rfl, Own.nil _ _, h⟩

theorem cells_n (n : Nat) (f : Nat → Int) (xs : List Int) (hl : xs.length = n) (hn : n ≤ 6) (hf : ∀ k, k < n → f k = xs.getD k 0) : (([0, 1, 2, 3, 4, 5].take n).map f) = xs := by
  apply List.ext_getElem?
  intro j
  by_cases hj : j < n
  · have h6 : ([0, 1, 2, 3, 4, 5] : List Nat)[j]? = some j := by
      have : j = 0 ∨ j = 1 ∨ j = 2 ∨ j = 3 ∨ j = 4 ∨ j = 5 := by omega
      rcases this with rfl | rfl | rfl | rfl | rfl | rfl <;> rfl
    rw [List.getElem?_map, List.getElem?_take, if_pos hj, h6, Option.map_some, hf j hj]
    simp [List.getD, show j < xs.length by omega]
  · rw [List.getElem?_eq_none (by simp; omega), List.getElem?_eq_none (by omega)]

theorem other_mask (x : Int) (m : Nat) (hm : m ≤ 6) (h : 0 ≤ x ∧ x < pw m) : pw m - 1 - x = (rowM (fun c => !x.toNat.testBit c) m : Int) := by
  obtain ⟨n, rfl⟩ := Int.eq_ofNat_of_zero_le h.1
  have key : ∀ m : Fin 7, ∀ n : Fin 64, ((n : Nat) : Int) < pw (m : Nat) → pw ((m : Nat) : Int) - 1 - ((n : Nat) : Int) = (rowM (fun c => !((n : Nat) : Int).toNat.testBit c) m : Int) := by decide +kernel
  have h6 := (pw_bd (c := (m : Int)) (by omega)).2.1
  exact key ⟨m, by omega⟩ ⟨n, by omega⟩ h.2

/-- The complement. -/
def otherB (r c : Int) (xs : List Int) : BR := if goodB r c xs then ⟨r, c, xs.map fun x => pw c - 1 - x, true⟩ else BR.zero

set_option maxHeartbeats 1600000 in
theorem boOther_any (r c : Int) (xs : List Int) (w : World) (hx : xs.length ≤ 1048576) (hg : goodB r c xs = true) (lo : Nat) (s : Value) (hO : Own w lo s xs) :
    Calls Try.prog 90 #[.agg #[.int .i64 r, .int .i64 c, s]] w fun e w' => ∃ v, e = .returned (.agg #[.int .i64 r, .int .i64 c, v]) ∧ Own w' w.heap.size v (xs.map fun x => pw c - 1 - x) ∧ Below w.heap.size w w' := by
  obtain ⟨g1, g2, g3, g4⟩ := good_facts hg
  obtain ⟨hp1, hp2, hp3, hp4⟩ := pw_bd (c := c) (by omega)
  have L0 := ((Law.start w).box (.int .i64 r) (.int .i64 c) s 28).box (.int .i64 0) (.int .i64 0) (.slice none 0 0) 28
  have hO0 := hO.kept L0.below
  have hrd := hO.reads
  obtain ⟨a, cap, hs, hr⟩ := hrd
  subst hs
  clear hO
  have ⟨_, k0, k1, k2, _⟩ := L0.tl.ownBox
  go_enter Try.func90, Try.ntmps90
  go_wp2_with fail
  refine (boOwn_any r c xs _ hx lo _ hO0).mono ?_
  rintro e w1 ⟨v, rfl, hO, hb⟩
  rcases hO.cases with ⟨_, rfl⟩ | ⟨g, p1, rfl, h1, h2, h3, h4⟩
  · simp at g3; omega
  · have hly : (xs.map fun x => pw c - 1 - x).length = xs.length := by simp
    have hyk : ∀ k, k < xs.length → (xs.map fun x => pw c - 1 - x).getD k 0 = pw c - 1 - xs.getD k 0 := fun k hk => by simp [List.getD, hk]
    have HYK := Lib.hid hyk; clear hyk
    generalize hys : (xs.map fun x => pw c - 1 - x) = ys at *
    have HYS := Lib.hid hys; clear hys
    have HLY := Lib.hid hly; clear hly
    have HG4 := Lib.hid g4; clear g4
    have L2 := (L0.own' hb hO (over_zero ys xs)).box (.int .i64 r) (.int .i64 c) (.slice (some ⟨g, 0, none⟩) xs.length p1) 28
    simp only [World.size_alloc] at L2
    clear hO hO0 hb k0 k1 k2 L0
    have ⟨_, m0, m1, m2, _⟩ := L2.ownBox
    go_wp2_with fail
    go_loopw [10] (fun i wr => ∃ k : Nat, k ≤ xs.length ∧ i = .int .i64 k ∧ Law w [tBox w1.heap.size (.int .i64 r) (.int .i64 c) (.slice (some ⟨g, 0, none⟩) xs.length p1), tOwn (.slice (some ⟨g, 0, none⟩) xs.length p1) (over ys xs k), tBox (w.heap.size + 1) (.int .i64 0) (.int .i64 0) (.slice none 0 0), tBox w.heap.size (.int .i64 r) (.int .i64 c) (.slice a xs.length cap)] wr) (fun i _ => xs.length - (intOf i).toNat)
    case atStart => exact ⟨0, Nat.zero_le _, rfl, L2⟩
    case round =>
      clear L2 m0 m1 m2
      obtain ⟨k, hk, rfl, L⟩ := hrel
      have ⟨_, m0, m1, m2, _⟩ := L.ownBox
      by_cases hlt : k < xs.length
      · have ⟨_, k0, k1, k2, _⟩ := L.tl.tl.tl.ownBox
        have hOk := L.tl.ownInts
        have hol := over_len ys xs k xs.length HLY.out rfl hk
        have hcy := Own.cell (by rw [hol]; exact hOk) k (by omega)
        have hfy := Own.free (by rw [hol]; exact hOk) k
        obtain ⟨b0, o0, rfl, hb0, hc0⟩ := reads_row (L.reads hr) (by omega)
        have hcx := hc0 k hlt
        have hg4 := HG4.out k hlt
        have hyv := HYK.out k hlt
        have hwr : IntKind.i64.wrap (pw c - 1 - xs.getD k 0) = pw c - 1 - xs.getD k 0 := by rw [IntKind.wrap_i64]; omega
        generalize xs.getD k 0 = x at *
        have HS := Lib.hid ((Law.store (ts := [_]) L hol k (pw c - 1 - x)).drew)
        rw [over_set ys xs k xs.length HLY.out rfl hlt _ hyv] at HS
        clear hOk hol hc0 L hyv
        go_wp2_with fail
        go_region
        go_wp2_with fail
        go_roundw
        case rel => exact ⟨k + 1, by omega, by go_num, HS.out⟩
        case measure => simp [intOf]; omega
      · obtain rfl : k = xs.length := by omega
        have ⟨_, n0, n1, n2, nf⟩ := L.tl.tl.ownBox
        have hfin := L.tl.fin3 (n := w.heap.size + 1) (x := .int .i64 0) (y := .int .i64 0) (z := .slice none 0 0) (by simp) (.int .i64 r) (.int .i64 c) (.slice (some ⟨g, 0, none⟩) xs.length p1)
        rw [over_full ys xs xs.length HLY.out rfl] at hfin
        have HF := Lib.hid hfin
        clear L hfin
        go_wp2_with fail
        exact bodyPost_ret (v := .agg #[.int .i64 r, .int .i64 c, .slice (some ⟨g, 0, none⟩) xs.length p1]) (by simp [results, Try.results90, go_sem, n0, n1, n2]) rfl ⟨_, rfl, by rw [HYS.out]; exact HF.out.1, HF.out.2⟩

set_option maxHeartbeats 1600000 in
theorem specOther_any (r c : Int) (xs : List Int) (w : World) (hx : xs.length ≤ 1048576) (lo : Nat) (s : Value) (hO : Own w lo s xs) :
    Calls Try.prog 49 #[.agg #[.int .i64 r, .int .i64 c, s]] w fun e w' => AnsB (otherB r c xs) w e w' := by
  have L0 := ((Law.start w).box (.int .i64 r) (.int .i64 c) s 28).box (.int .i64 0) (.int .i64 0) (.slice none 0 0) 28
  have hO0 := hO.kept L0.below
  simp only [World.size_alloc] at L0
  obtain ⟨a, cap, rfl, hr⟩ := hO.reads
  have hr0 := L0.reads hr
  clear hO
  cases hg : goodB r c xs
  · rw [show otherB r c xs = BR.zero by simp [otherB, hg]]
    go_enter Try.func49, Try.ntmps49
    go_wp2_with fail
    refine (at_boolB (boGood_any r c a cap xs _ hx hr0) hg).mono ?_
    rintro e w1 ⟨rfl, hb⟩
    have L1 := L0.kept hb
    have ⟨_, n0, n1, n2, nf⟩ := L1.ownBox
    have HB := Lib.hid L1.below
    clear L0 L1 hb hg hO0 hr0
    go_wp2_with fail
    refine bodyPost_ret (v := .tuple #[.agg #[.int .i64 0, .int .i64 0, .slice none 0 0], .bool false]) (by simp [results, Try.results49, go_sem, n0, n1, n2]) rfl (ansB_zero _ _ ?_)
    have h2 := HB.out
    repeat (refine Below.setCell ?_ (by simp <;> omega) _)
    exact h2
  · rw [show otherB r c xs = ⟨r, c, xs.map fun x => pw c - 1 - x, true⟩ by simp [otherB, hg]]
    have HG := Lib.hid hg
    go_enter Try.func49, Try.ntmps49
    go_wp2_with fail
    refine (at_boolB (boGood_any r c a cap xs _ hx hr0) hg).mono ?_
    rintro e w1 ⟨rfl, hb⟩
    have L1 := L0.kept hb
    have hO1 := hO0.kept hb
    have ⟨_, k0, k1, k2, _⟩ := L1.tl.ownBox
    clear L0 hb hg hO0 hr0
    go_wp2_with fail
    refine (boOther_any r c xs _ hx HG.out lo _ hO1).mono ?_
    rintro e w2 ⟨v, rfl, hO, hb⟩
    have L2 := L1.own hb hO
    obtain ⟨a1, p1, hv, _⟩ := hO.reads
    subst hv
    have ⟨_, n0, n1, n2, nf⟩ := L2.tl.ownBox
    have hfin := L2.fin3 (n := w.heap.size + 1) (x := .int .i64 0) (y := .int .i64 0) (z := .slice none 0 0) (by simp) (.int .i64 r) (.int .i64 c) (.slice a1 (xs.map fun x => pw c - 1 - x).length p1)
    have HF := Lib.hid hfin
    rw [List.length_map] at HF ⊢
    clear L1 L2 hO hb hfin hO1 k0 k1 k2
    go_wp2_with fail
    exact bodyPost_ret (v := .tuple #[.agg #[.int .i64 r, .int .i64 c, .slice a1 xs.length p1], .bool true]) (by simp [results, Try.results49, go_sem, n0, n1, n2]) rfl ⟨_, rfl, HF.out.1, HF.out.2⟩

set_option maxHeartbeats 1600000 in
theorem missing_any (r c : Int) (m : Nat → Int) (k j : Nat) (w : World) (hk : k < 6) (hj : j < 6) (hm : 0 ≤ m k ∧ m k < 64) :
    Calls Try.prog 91 #[gv r c m, .int .i64 k, .int .i64 j] w fun e w' => e = .returned (.bool (!(m k).toNat.testBit j)) ∧ Below w.heap.size w w' := by
  have HB := Lib.hid (below_new (w := w) (.cells (gl r c m).toArray 66))
  go_enter Try.func91, Try.ntmps91
  go_wp2_with fail
  refine (at_any r c m k j _ hk hj hm).mono ?_
  rintro e w1 ⟨rfl, hb⟩
  have HB2 := Lib.hid (below_on HB.out hb)
  clear hb
  go_wp2_with fail
  go_ret
  exact ⟨rfl, HB2.out⟩

set_option maxHeartbeats 1600000 in
theorem implOther_any (r c : Int) (xs : List Int) (w : World) (hx : xs.length ≤ 1048576) (lo : Nat) (s : Value) (hO : Own w lo s xs) :
    Calls Try.prog 50 #[.agg #[.int .i64 r, .int .i64 c, s]] w fun e w' => AnsB (otherB r c xs) w e w' := by
  have L0 := ((Law.start w).box (.int .i64 r) (.int .i64 c) s 28).box (.int .i64 0) (.int .i64 0) (.slice none 0 0) 28
  simp only [World.size_alloc] at L0
  obtain ⟨a, cap, rfl, hr⟩ := hO.reads
  have hr0 := L0.reads hr
  clear hO
  cases hg : goodB r c xs
  · rw [show otherB r c xs = BR.zero by simp [otherB, hg]]
    go_enter Try.func50, Try.ntmps50
    go_wp2_with fail
    refine (gridOf_no r c a cap xs _ hx hr0 hg).mono ?_
    rintro e w1 ⟨rfl, hb⟩
    have L1 := (L0.kept hb).kept (below_new (.cells #[.int .i64 0, .int .i64 0, .int .i64 0, .int .i64 0, .int .i64 0, .int .i64 0, .int .i64 0, .int .i64 0] 66))
    have ⟨_, n0, n1, n2, nf⟩ := L1.ownBox
    have HB := Lib.hid L1.below
    clear L0 L1 hb hg hr0
    go_wp2_with fail
    refine bodyPost_ret (v := .tuple #[.agg #[.int .i64 0, .int .i64 0, .slice none 0 0], .bool false]) (by simp [results, Try.results50, go_sem, n0, n1, n2]) rfl (ansB_zero _ _ ?_)
    have h2 := HB.out
    repeat (refine Below.setCell ?_ (by simp <;> omega) _)
    exact h2
  · rw [show otherB r c xs = ⟨r, c, xs.map fun x => pw c - 1 - x, true⟩ by simp [otherB, hg]]
    have hgc := good_cell hg
    obtain ⟨g1, g2, g3, g4⟩ := good_facts hg
    obtain ⟨n, rfl⟩ := Int.eq_ofNat_of_zero_le (show 0 ≤ r by omega)
    obtain ⟨m, rfl⟩ := Int.eq_ofNat_of_zero_le (show 0 ≤ c by omega)
    have hcs : (([0, 1, 2, 3, 4, 5].take n).map fun k => (rowM ((fun i j => !(xs.getD i 0).toNat.testBit j : Nat → Nat → Bool) k) m : Int)) = xs.map fun x => pw m - 1 - x :=
      cells_n n _ _ (by simp; omega) (by omega) (fun k hk => by
        rw [← other_mask (xs.getD k 0) m (by omega) (g4 k (by omega))]
        simp [List.getD, show k < xs.length by omega])
    have HCS := Lib.hid hcs; clear hcs
    clear g4
    go_enter Try.func50, Try.ntmps50
    go_wp2_with fail
    refine (gridOf_yes n m a cap xs _ hx hr0 hg).mono ?_
    rintro e w1 ⟨rfl, hb⟩
    have L1 := (L0.kept hb).kept (below_new (.cells #[.int .i64 n, .int .i64 m, .int .i64 (xs.getD 0 0), .int .i64 (xs.getD 1 0), .int .i64 (xs.getD 2 0), .int .i64 (xs.getD 3 0), .int .i64 (xs.getD 4 0), .int .i64 (xs.getD 5 0)] 66))
    clear L0 hb hg hr0
    go_wp2_with fail
    refine (drawBoard_any n m 91 #[gv n m (fun k => xs.getD k 0)] #[] (fun i j => !(xs.getD i 0).toNat.testBit j) _ (by omega) (by omega) (fun _ _ => by kernel_rfl) (fun i j w' hi hj _ => missing_any n m (fun k => xs.getD k 0) i j w' (by omega) (by omega) (hgc i))).mono ?_
    rintro e w2 ⟨v, rfl, hO, hb⟩
    rw [HCS.out] at hO
    have L2 := L1.own hb hO
    obtain ⟨a1, p1, hv, _⟩ := hO.reads
    subst hv
    have ⟨_, n0, n1, n2, nf⟩ := L2.tl.ownBox
    have hfin := L2.fin3 (n := w.heap.size + 1) (x := .int .i64 0) (y := .int .i64 0) (z := .slice none 0 0) (by simp) (.int .i64 n) (.int .i64 m) (.slice a1 (xs.map fun x => pw m - 1 - x).length p1)
    have HF := Lib.hid hfin
    rw [List.length_map] at HF ⊢
    clear L1 L2 hO hb hfin
    go_wp2_with fail
    exact bodyPost_ret (v := .tuple #[.agg #[.int .i64 n, .int .i64 m, .slice a1 xs.length p1], .bool true]) (by simp [results, Try.results50, go_sem, n0, n1, n2]) rfl ⟨_, rfl, HF.out.1, HF.out.2⟩

theorem otherB_len (r c : Int) (xs : List Int) : (otherB r c xs).xs.length ≤ 1048576 := by
  unfold otherB
  split
  · rename_i h
    have := good_facts h
    simp; omega
  · simp [BR.zero]

end Go.Proofs.Ytakdiiccdkjjcaa
