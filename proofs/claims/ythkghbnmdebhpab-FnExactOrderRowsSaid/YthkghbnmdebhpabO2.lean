/- Rows brought into an order, in both texts. No condition but the sizes. -/
import Derived.Test.YthkghbnmdebhpabO
namespace Go.Proofs.Ythkghbnmdebhpab
open Go.RowKit Go.WideShapes

def orderB (r c : Int) (xs : List Int) (ord : List Int) : BR := if goodB r c xs && ordOk ord r then ⟨r, c, ord.map (fun x => xs.getD x.toNat 0), true⟩ else BR.zero
theorem map_getD (f : Int → Int) (l : List Int) (k : Nat) (hk : k < l.length) : (l.map f).getD k 0 = f (l.getD k 0) := by simp [List.getD, hk]
theorem ordOk_facts {ord : List Int} {n : Int} (h : ordOk ord n = true) : (ord.length : Int) = n ∧ ∀ k, k < ord.length → 0 ≤ ord.getD k 0 ∧ ord.getD k 0 < n := by
  simp only [ordOk, Bool.and_eq_true, decide_eq_true_eq] at h
  refine ⟨h.1, fun k hk => ?_⟩
  have h2 := h.2.1
  simp only [within, List.all_eq_true, decide_eq_true_eq] at h2
  have := h2 ord[k] (List.getElem_mem hk)
  have e : ord.getD k 0 = ord[k] := by simp [List.getD, hk]
  rw [e]
  omega
theorem orderB_len (r c : Int) (xs ord : List Int) : (orderB r c xs ord).xs.length ≤ 1048576 := by
  unfold orderB
  split
  · rename_i h
    rw [Bool.and_eq_true] at h
    have := good_facts h.1
    have := (ordOk_facts h.2).1
    simp; omega
  · simp [BR.zero]
/-- The masks behind k rounds. -/
def ordm (M : Nat → Int) (ord : List Int) (k : Nat) : Nat → Int := fun q => if q < k then M (ord.getD q 0).toNat else M q
theorem ordm_zero (M : Nat → Int) (ord : List Int) : ordm M ord 0 = M := by funext q; simp [ordm]
theorem ordm_put (M : Nat → Int) (ord : List Int) (k y : Nat) (h : ord.getD k 0 = y) : ordm M ord (k + 1) k = M y := by
  unfold ordm
  rw [if_pos (by omega), h, Int.toNat_natCast]
theorem ordm_off (M : Nat → Int) (ord : List Int) (k q : Nat) (h : q ≠ k) : ordm M ord (k + 1) q = ordm M ord k q := by
  unfold ordm
  by_cases h1 : q < k
  · rw [if_pos h1, if_pos (by omega)]
  · rw [if_neg h1, if_neg (by omega)]
theorem ordm_end (M : Nat → Int) (xs ord : List Int) (n : Nat) (hl : ord.length = n) (hn : n ≤ 6) (hM : ∀ k, M k = xs.getD k 0) :
    [ordm M ord n 0, ordm M ord n 1, ordm M ord n 2, ordm M ord n 3, ordm M ord n 4, ordm M ord n 5].take n = ord.map (fun x => xs.getD x.toNat 0) := by
  have := cells_n n (ordm M ord n) (ord.map (fun x => xs.getD x.toNat 0)) (by simp; omega) hn (fun k hk => by
    unfold ordm
    rw [if_pos hk, hM, map_getD _ _ _ (by omega)])
  rw [← this, List.map_take]
  rfl

set_option maxRecDepth 100000 in
set_option maxHeartbeats 3200000 in
theorem inOrder_any (n : Nat) (c : Int) (M : Nat → Int) (a2 : Option Addr) (cap2 : Nat) (ord : List Int) (w : World) (h6 : n ≤ 6) (hln : ord.length = n) (hr2 : Reads w a2 ord.length ord) (hq : ∀ k, k < n → 0 ≤ ord.getD k 0 ∧ ord.getD k 0 < n) :
    Calls Try.prog 45 #[gv n c M, .slice a2 ord.length cap2] w fun e w' => e = .returned (gv n c (ordm M ord n)) ∧ Below w.heap.size w w' := by
  have L0 := ((Law.start w).has (gl n c M) 58).has [.int .i64 0, .int .i64 0, .int .i64 0, .int .i64 0, .int .i64 0, .int .i64 0, .int .i64 0, .int .i64 0] 58
  simp only [World.size_alloc] at L0
  rw [show w.alloc (.cells (gl n c M).toArray 58) = w.alloc (.cells #[.int .i64 n, .int .i64 c, .int .i64 (M 0), .int .i64 (M 1), .int .i64 (M 2), .int .i64 (M 3), .int .i64 (M 4), .int .i64 (M 5)] 58) from rfl] at L0
  subst hln
  obtain ⟨N, hN⟩ : ∃ N, N = ordm M ord ord.length := ⟨_, rfl⟩
  rw [← hN]
  have HN := Lib.hid hN
  have HL0 := Lib.hid L0
  have HQ := Lib.hid hq
  clear L0 hq hN
  go_enter Try.func45, Try.ntmps45
  go_upto_region 1 with fail
  generalize hW : ((w.alloc _).alloc _) = w5 at *
  clear hW
  have L1 := HL0.out.has (gl ord.length c (ordm M ord 0)) 58
  rw [ordm_zero] at L1
  rw [show w5.alloc (.cells (gl ord.length c M).toArray 58) = w5.alloc (.cells #[.int .i64 ord.length, .int .i64 c, .int .i64 (M 0), .int .i64 (M 1), .int .i64 (M 2), .int .i64 (M 3), .int .i64 (M 4), .int .i64 (M 5)] 58) from rfl] at L1
  obtain ⟨e0, e1, e2, e3, e4, e5, e6, e7, _⟩ := HL0.out.tl.ownHas.eight
  have HL1 := Lib.hid L1
  clear L1 HL0
  go_upto_region 2 with fail
  clear e0 e1 e2 e3 e4 e5 e6 e7
  generalize hW : w5.alloc _ = w6 at *
  clear hW
  go_wp2_with fail
  go_loopw [11] (fun i wr => ∃ k : Nat, k ≤ ord.length ∧ i = .int .i64 k ∧ Law w [tHas w5.heap.size (gl ord.length c (ordm M ord k)) 58, tHas (w.heap.size + 1) [.int .i64 0, .int .i64 0, .int .i64 0, .int .i64 0, .int .i64 0, .int .i64 0, .int .i64 0, .int .i64 0] 58, tHas w.heap.size (gl ord.length c M) 58] wr) (fun i _ => ord.length - (intOf i).toNat)
  case atStart => exact ⟨0, by omega, rfl, by rw [ordm_zero]; exact HL1.out⟩
  case round =>
    clear HL1
    obtain ⟨k, hk, rfl, L⟩ := hrel
    by_cases hlt : k < ord.length
    · obtain ⟨b, off, rfl, hb, hc⟩ := reads_row (L.reads hr2) (by omega)
      have hck := hc k hlt
      obtain ⟨i1, i2⟩ := HQ.out k hlt
      obtain ⟨y, hy'⟩ := Int.eq_ofNat_of_zero_le i1
      rw [hy'] at hck
      have hyl : (y : Int) < 6 := by omega
      have hyn : y < 6 := by omega
      have hcx := L.tl.tl.ownHas.cell (2 + y)
      rw [gl_get _ _ _ y (by omega)] at hcx
      have hcz := L.ownHas.cell (2 + k)
      rw [gl_get _ _ _ k (by omega)] at hcz
      have hfz := L.ownHas.free (2 + k)
      have hk6 : (k : Int) < 6 := by omega
      have hS := (Law.setHas (ts := []) L (2 + k) (.int .i64 (M y)))
      rw [gl_set _ _ (ordm M ord k) (ordm M ord (k + 1)) k (by omega) _ (ordm_put M ord k y hy') (fun q hq => ordm_off M ord k q hq)] at hS
      have HS := Lib.hid hS
      clear L hS hc i1 i2 hy'
      generalize M y = x at *
      generalize ordm M ord k k = z at *
      go_wp2_with fail
      go_roundw
      case rel => exact ⟨k + 1, by omega, by go_num, HS.out⟩
      case measure => simp [intOf]; omega
    · obtain rfl : k = ord.length := by omega
      rw [← HN.out] at L
      obtain ⟨c0, c1, c2, c3, c4, c5, c6, c7, _⟩ := L.ownHas.eight
      obtain ⟨d0, d1, d2, d3, d4, d5, d6, d7, _⟩ := L.tl.ownHas.eight
      have HB := Lib.hid L.below
      clear L hlt
      go_wp2_with fail
      refine bodyPost_ret (v := gv ord.length c N) (by simp [results, Try.results45, go_sem, d0, d1, d2, d3, d4, d5, d6, d7]) rfl ⟨rfl, ?_⟩
      have h2 := HB.out
      repeat (refine Below.setCell ?_ (by simp <;> omega) _)
      exact h2

set_option maxRecDepth 100000 in
set_option maxHeartbeats 6400000 in
theorem implOrder_any (r c : Int) (xs ord : List Int) (w : World) (hx : xs.length ≤ 1048576) (hy : ord.length ≤ 1048576) (lo : Nat) (s : Value) (lo2 : Nat) (s2 : Value) (hO : Own w lo s xs) (hO2 : Own w lo2 s2 ord) :
    Calls Try.prog 15 #[.agg #[.int .i64 r, .int .i64 c, s], s2] w fun e w' => AnsB (orderB r c xs ord) w e w' := by
  have L0 := ((Law.start w).box (.int .i64 r) (.int .i64 c) s 26).box (.int .i64 0) (.int .i64 0) (.slice none 0 0) 26
  have hP0 := hO2.kept L0.below
  simp only [World.size_alloc] at L0
  obtain ⟨a, cap, rfl, hr⟩ := hO.reads
  obtain ⟨a2, cap2, hv2, hr2⟩ := hO2.reads
  subst hv2
  have hr0 := L0.reads hr
  clear hO hO2
  cases hg : goodB r c xs
  · rw [show orderB r c xs ord = BR.zero by simp [orderB, hg]]
    go_enter Try.func15, Try.ntmps15
    go_wp2_with fail
    refine (gridOf_no r c a cap xs _ hx hr0 hg).mono ?_
    rintro e w1 ⟨rfl, hb⟩
    have L1 := (L0.kept hb).kept (below_new (.cells #[.int .i64 0, .int .i64 0, .int .i64 0, .int .i64 0, .int .i64 0, .int .i64 0, .int .i64 0, .int .i64 0] 58))
    have ⟨_, n0, n1, n2, nf⟩ := L1.ownBox
    have HB := Lib.hid L1.below
    clear L0 L1 hb hg hr0 hP0
    go_wp2_with fail
    refine bodyPost_ret (v := .tuple #[.agg #[.int .i64 0, .int .i64 0, .slice none 0 0], .bool false]) (by simp [results, Try.results15, go_sem, n0, n1, n2]) rfl (ansB_zero _ _ ?_)
    exact ((HB.out.setCell (by simp <;> omega) _).setCell (by simp <;> omega) _).setCell (by simp <;> omega) _
  · obtain ⟨⟨g1l, g1h⟩, ⟨g2l, g2h⟩, g3, _⟩ := good_facts hg
    obtain ⟨M, hM, hc⟩ := gridOf_good r c a cap xs _ hx hr0 hg
    have HC := Lib.hid hc; clear hc
    obtain ⟨n, rfl⟩ := Int.eq_ofNat_of_zero_le (show 0 ≤ r by omega)
    cases hk : ordOk ord n
    · rw [show orderB n c xs ord = BR.zero by simp [orderB, hk]]
      have HK := Lib.hid hk
      clear hk hg hM hr0
      go_enter Try.func15, Try.ntmps15
      go_wp2_with fail
      refine HC.out.mono ?_
      rintro e w1 ⟨rfl, hb⟩
      have L1 := (L0.kept hb).has (gl n c M) 58
      have hP1 := (hP0.kept hb).kept (below_new (.cells (gl n c M).toArray 58))
      rw [show w1.alloc (.cells (gl n c M).toArray 58) = w1.alloc (.cells #[.int .i64 n, .int .i64 c, .int .i64 (M 0), .int .i64 (M 1), .int .i64 (M 2), .int .i64 (M 3), .int .i64 (M 4), .int .i64 (M 5)] 58) from rfl] at L1 hP1
      have HL := Lib.hid L1; have HP := Lib.hid hP1
      clear L0 hb L1 hP0 hP1
      go_upto_region 2 with fail
      generalize w1.alloc (.cells #[.int .i64 n, .int .i64 c, .int .i64 (M 0), .int .i64 (M 1), .int .i64 (M 2), .int .i64 (M 3), .int .i64 (M 4), .int .i64 (M 5)] 58) = w5 at *
      have ⟨e0, e1, _⟩ := HL.out.ownHas.eight
      go_wp2_with fail
      refine (at_boolB (hasEach_any ord n _ hy (by omega) lo2 _ HP.out) HK.out).mono ?_
      rintro e w2 ⟨rfl, hb⟩
      have L2 := HL.out.kept hb
      have ⟨_, n0, n1, n2, nf⟩ := L2.tl.ownBox
      have HB := Lib.hid L2.below
      clear L2 HL HP hb e0 e1
      go_wp2_with fail
      refine bodyPost_ret (v := .tuple #[.agg #[.int .i64 0, .int .i64 0, .slice none 0 0], .bool false]) (by simp [results, Try.results15, go_sem, n0, n1, n2]) rfl (ansB_zero _ _ ?_)
      exact ((HB.out.setCell (by simp <;> omega) _).setCell (by simp <;> omega) _).setCell (by simp <;> omega) _
    · rw [show orderB n c xs ord = ⟨n, c, ord.map (fun x => xs.getD x.toNat 0), true⟩ by simp [orderB, hk, hg]]
      obtain ⟨k1, k2⟩ := ordOk_facts hk
      have hln : ord.length = n := by omega
      have HK := Lib.hid hk
      have HJ := Lib.hid (ordm_end M xs ord n hln (by omega) hM)
      have HZ := Lib.hid (show (ord.map (fun x => xs.getD x.toNat 0)).length = n by simp; omega)
      have HIO := Lib.hid (fun W (h : Reads W a2 ord.length ord) => inOrder_any ord.length c M a2 cap2 ord W (by omega) rfl h (by rw [hln]; exact fun k hk => k2 k (by omega)))
      subst hln
      clear hk hg hM hr0 k1 k2
      go_enter Try.func15, Try.ntmps15
      go_wp2_with fail
      refine HC.out.mono ?_
      rintro e w1 ⟨rfl, hb⟩
      have L1 := (L0.kept hb).has (gl ord.length c M) 58
      have hP1 := (hP0.kept hb).kept (below_new (.cells (gl ord.length c M).toArray 58))
      rw [show w1.alloc (.cells (gl ord.length c M).toArray 58) = w1.alloc (.cells #[.int .i64 ord.length, .int .i64 c, .int .i64 (M 0), .int .i64 (M 1), .int .i64 (M 2), .int .i64 (M 3), .int .i64 (M 4), .int .i64 (M 5)] 58) from rfl] at L1 hP1
      have HL := Lib.hid L1; have HP := Lib.hid hP1
      clear L0 hb L1 hP0 hP1
      go_upto_region 2 with fail
      generalize w1.alloc (.cells #[.int .i64 ord.length, .int .i64 c, .int .i64 (M 0), .int .i64 (M 1), .int .i64 (M 2), .int .i64 (M 3), .int .i64 (M 4), .int .i64 (M 5)] 58) = w5 at *
      have ⟨e0, e1, _⟩ := HL.out.ownHas.eight
      go_wp2_with fail
      refine (at_boolB (hasEach_any ord ord.length _ hy (by omega) lo2 _ HP.out) HK.out).mono ?_
      rintro e w2 ⟨rfl, hb⟩
      have L2 := HL.out.kept hb
      have hO3 := HIO.out w2 (L2.reads hr2)
      have HIN := Lib.hid hO3
      clear HL HP hb e0 e1 hO3
      obtain ⟨e0, e1, e2, e3, e4, e5, e6, e7, _⟩ := L2.ownHas.eight
      have HL := Lib.hid L2
      clear L2
      generalize ordm M ord ord.length = N at *
      go_wp2_with fail
      refine HIN.out.mono ?_
      rintro e w3 ⟨rfl, hb⟩
      have L3 := HL.out.kept hb
      have HL3 := Lib.hid L3
      clear HL L3 hb HIN e0 e1 e2 e3 e4 e5 e6 e7
      go_wp2_with fail
      refine (board_any ord.length c _ _ _ _ _ _ _ (by omega)).mono ?_
      rintro e w4 ⟨s4, rfl, hO, hb⟩
      rw [HJ.out] at hO
      have L4 := HL3.out.tl.own hb hO
      obtain ⟨a1, p1, hv, _⟩ := hO.reads
      subst hv
      have ⟨_, n0, n1, n2, nf⟩ := L4.tl.ownBox
      have hfin := L4.fin3 (n := w.heap.size + 1) (x := .int .i64 0) (y := .int .i64 0) (z := .slice none 0 0) (by simp) (.int .i64 ord.length) (.int .i64 c) (.slice a1 (ord.map (fun x => xs.getD x.toNat 0)).length p1)
      have HF := Lib.hid hfin
      rw [HZ.out] at HF ⊢
      clear HL3 L4 hO hb hfin
      go_wp2_with fail
      exact bodyPost_ret (v := .tuple #[.agg #[.int .i64 ord.length, .int .i64 c, .slice a1 ord.length p1], .bool true]) (by simp [results, Try.results15, go_sem, n0, n1, n2]) rfl ⟨_, rfl, HF.out.1, HF.out.2⟩

set_option maxRecDepth 100000 in
set_option maxHeartbeats 6400000 in
theorem specOrder_any (r c : Int) (xs ord : List Int) (w : World) (hx : xs.length ≤ 1048576) (hy : ord.length ≤ 1048576) (lo : Nat) (s : Value) (lo2 : Nat) (s2 : Value) (hO : Own w lo s xs) (hO2 : Own w lo2 s2 ord) :
    Calls Try.prog 12 #[.agg #[.int .i64 r, .int .i64 c, s], s2] w fun e w' => AnsB (orderB r c xs ord) w e w' := by
  have L0 := ((Law.start w).box (.int .i64 r) (.int .i64 c) s 26).box (.int .i64 0) (.int .i64 0) (.slice none 0 0) 26
  have hO0 := hO.kept L0.below
  have hP0 := hO2.kept L0.below
  simp only [World.size_alloc] at L0
  obtain ⟨a, cap, rfl, hr⟩ := hO.reads
  obtain ⟨a2, cap2, hv2, hr2⟩ := hO2.reads
  subst hv2
  have hr0 := L0.reads hr
  clear hO hO2
  cases hg : goodB r c xs
  · rw [show orderB r c xs ord = BR.zero by simp [orderB, hg]]
    go_enter Try.func12, Try.ntmps12
    go_wp2_with fail
    refine (at_boolB (boGood_any r c a cap xs _ hx hr0) hg).mono ?_
    rintro e w1 ⟨rfl, hb⟩
    have L1 := L0.kept hb
    have ⟨_, n0, n1, n2, nf⟩ := L1.ownBox
    have HB := Lib.hid L1.below
    clear L0 L1 hb hg hr0 hP0 hO0
    go_wp2_with fail
    refine bodyPost_ret (v := .tuple #[.agg #[.int .i64 0, .int .i64 0, .slice none 0 0], .bool false]) (by simp [results, Try.results12, go_sem, n0, n1, n2]) rfl (ansB_zero _ _ ?_)
    exact ((HB.out.setCell (by simp <;> omega) _).setCell (by simp <;> omega) _).setCell (by simp <;> omega) _
  · obtain ⟨⟨g1l, g1h⟩, ⟨g2l, g2h⟩, g3, _⟩ := good_facts hg
    have HC := Lib.hid (at_boolB (boGood_any r c a cap xs _ hx hr0) hg)
    cases hk : ordOk ord r
    · rw [show orderB r c xs ord = BR.zero by simp [orderB, hk]]
      have HK := Lib.hid hk
      clear hk hg hr0 hO0
      go_enter Try.func12, Try.ntmps12
      go_wp2_with fail
      refine HC.out.mono ?_
      rintro e w1 ⟨rfl, hb⟩
      have L1 := L0.kept hb
      have hP1 := hP0.kept hb
      have ⟨_, k0, k1, k2, _⟩ := L1.tl.ownBox
      have ⟨_, n0, n1, n2, nf⟩ := L1.ownBox
      have HB := Lib.hid L1.below
      clear L0 L1 hb hP0 HC
      go_wp2_with fail
      refine (at_boolV (boOrder_any ord r _ hy (by omega) lo2 _ hP1) HK.out).mono ?_
      rintro e w2 ⟨rfl, rfl⟩
      clear hP1
      go_wp2_with fail
      refine bodyPost_ret (v := .tuple #[.agg #[.int .i64 0, .int .i64 0, .slice none 0 0], .bool false]) (by simp [results, Try.results12, go_sem, n0, n1, n2]) rfl (ansB_zero _ _ ?_)
      exact ((HB.out.setCell (by simp <;> omega) _).setCell (by simp <;> omega) _).setCell (by simp <;> omega) _
    · rw [show orderB r c xs ord = ⟨r, c, ord.map (fun x => xs.getD x.toNat 0), true⟩ by simp [orderB, hk, hg]]
      obtain ⟨k1, k2⟩ := ordOk_facts hk
      have hln : ord.length = xs.length := by omega
      have HK := Lib.hid hk
      have H2 := Lib.hid k2
      have HLN := Lib.hid hln
      have hpos : 0 < xs.length := by omega
      have G3 := Lib.hid g3
      clear hk hg hr0 k1 k2 g3
      go_enter Try.func12, Try.ntmps12
      go_wp2_with fail
      refine HC.out.mono ?_
      rintro e w1 ⟨rfl, hb⟩
      have L1 := L0.kept hb
      have hP1 := hP0.kept hb
      have hO1 := hO0.kept hb
      have ⟨_, k0, k1, k2, _⟩ := L1.tl.ownBox
      clear L0 hb hP0 hO0 HC hln
      go_wp2_with fail
      refine (at_boolV (boOrder_any ord r _ hy (by omega) lo2 _ hP1) HK.out).mono ?_
      rintro e w2 ⟨rfl, rfl⟩
      clear hP1
      go_wp2_with fail
      refine (boOwn_any r c xs _ hx lo _ hO1).mono ?_
      rintro e w2 ⟨v, rfl, hO, hb⟩
      rcases hO.cases with ⟨_, rfl⟩ | ⟨g, p1, rfl, q1, q2, q3, q4⟩
      · simp at hpos
      · have hly : (ord.map (fun x => xs.getD x.toNat 0)).length = xs.length := by have := HLN.out; simp; omega
        have hyk : ∀ k (y : Nat), k < xs.length → ord.getD k 0 = y → (ord.map (fun x => xs.getD x.toNat 0)).getD k 0 = xs.getD y 0 := fun k y hk he => by
          have := HLN.out
          rw [map_getD _ _ _ (by omega), he, Int.toNat_natCast]
        have HYK := Lib.hid hyk; clear hyk
        generalize hys : ord.map (fun x => xs.getD x.toNat 0) = zs at *
        have HYS := Lib.hid hys; clear hys
        have HLY := Lib.hid hly; clear hly
        have L2 := (L1.own' hb hO (over_zero zs xs)).box (.int .i64 r) (.int .i64 c) (.slice (some ⟨g, 0, none⟩) xs.length p1) 26
        clear hO hO1 hb k0 k1 k2 L1
        have HL := Lib.hid L2
        clear L2
        go_wp2_with fail
        go_loopw [24] (fun i wr => ∃ k : Nat, k ≤ ord.length ∧ i = .int .i64 k ∧ Law w [tBox w2.heap.size (.int .i64 r) (.int .i64 c) (.slice (some ⟨g, 0, none⟩) xs.length p1), tOwn (.slice (some ⟨g, 0, none⟩) xs.length p1) (over zs xs k), tBox (w.heap.size + 1) (.int .i64 0) (.int .i64 0) (.slice none 0 0), tBox w.heap.size (.int .i64 r) (.int .i64 c) (.slice a xs.length cap)] wr) (fun i _ => ord.length - (intOf i).toNat)
        case atStart => exact ⟨0, Nat.zero_le _, rfl, HL.out⟩
        case round =>
          clear HL
          obtain ⟨k, hk, rfl, L⟩ := hrel
          have ⟨_, m0, m1, m2, _⟩ := L.ownBox
          by_cases hlt : k < ord.length
          · have ⟨_, k0, k1, k2, _⟩ := L.tl.tl.tl.ownBox
            have hLN := HLN.out
            have hltx : k < xs.length := by omega
            have hOk := L.tl.ownInts
            have hol := over_len zs xs k xs.length HLY.out rfl (by omega)
            have hcz := Own.cell (by rw [hol]; exact hOk) k (by omega)
            rw [over_get zs xs k xs.length HLY.out rfl hltx] at hcz
            have hfz := Own.free (by rw [hol]; exact hOk) k
            obtain ⟨b2, of2, rfl, _, hc2⟩ := reads_row (L.reads hr2) (by omega)
            have hck := hc2 k hlt
            obtain ⟨i1, i2⟩ := H2.out k hlt
            obtain ⟨y, hy'⟩ := Int.eq_ofNat_of_zero_le i1
            rw [hy'] at hck
            have hyl : (y : Int) < xs.length := by have := G3.out; omega
            have hyn : y < xs.length := by omega
            obtain ⟨b0, o0, rfl, _, hc0⟩ := reads_row (L.reads hr) (by omega)
            have hcy := hc0 y hyn
            have hyv := HYK.out k y hltx hy'
            generalize xs.getD k 0 = x at *
            generalize xs.getD y 0 = z at *
            have HS := Lib.hid ((Law.store (ts := [_]) L hol k z).drew)
            rw [over_set zs xs k xs.length HLY.out rfl hltx _ hyv] at HS
            have hlx : (k : Int) < xs.length := by omega
            clear hOk hol hc0 hc2 L hyv i1 i2 hy' hLN
            go_wp2_with fail
            go_region
            go_wp2_with fail
            go_roundw
            case rel => exact ⟨k + 1, by omega, by go_num, HS.out⟩
            case measure => simp [intOf]; omega
          · obtain rfl : k = xs.length := by have := HLN.out; omega
            have ⟨_, n0, n1, n2, nf⟩ := L.tl.tl.ownBox
            have hfin := L.tl.fin3 (n := w.heap.size + 1) (x := .int .i64 0) (y := .int .i64 0) (z := .slice none 0 0) (by simp) (.int .i64 r) (.int .i64 c) (.slice (some ⟨g, 0, none⟩) xs.length p1)
            rw [over_full zs xs xs.length HLY.out rfl] at hfin
            have HF := Lib.hid hfin
            clear L hfin
            go_wp2_with fail
            exact bodyPost_ret (v := .tuple #[.agg #[.int .i64 r, .int .i64 c, .slice (some ⟨g, 0, none⟩) xs.length p1], .bool true]) (by simp [results, Try.results12, go_sem, n0, n1, n2]) rfl ⟨_, rfl, by (show Own _ _ _ (ord.map (fun x => xs.getD x.toNat 0))); rw [HYS.out]; exact HF.out.1, HF.out.2⟩

end Go.Proofs.Ythkghbnmdebhpab
