/- The board of lengths, in both texts. No condition but the sizes. -/
import Derived.Test.YtdgkcfpfldaopaaKg
namespace Go.Proofs.Ytdgkcfpfldaopaa
open Go.RowKit Go.WideShapes

def bolB (xs : List Int) : BR := if lenB xs then ⟨xs.length, xs.length, xs.map (fun x => pw x - 1), true⟩ else BR.zero
theorem bolB_len (xs : List Int) : (bolB xs).xs.length ≤ 1048576 := by
  unfold bolB
  split
  · rename_i h
    have := len_facts h
    show (xs.map _).length ≤ _
    rw [List.length_map]
    omega
  · simp [BR.zero]
theorem pwmap_get (xs : List Int) (k : Nat) (h : k < xs.length) : (xs.map (fun x => pw x - 1)).getD k 0 = pw (xs.getD k 0) - 1 := by simp [List.getD, h]

set_option maxRecDepth 100000 in
set_option maxHeartbeats 3200000 in
theorem implBol_any (xs : List Int) (w : World) (hx : xs.length ≤ 1048576) (lo : Nat) (s : Value) (hO : Own w lo s xs) :
    Calls Try.prog 17 #[s] w fun e w' => AnsB (bolB xs) w e w' := by
  have L0 := (Law.start w).box (.int .i64 0) (.int .i64 0) (.slice none 0 0) 24
  obtain ⟨a, p, rfl, hr⟩ := hO.reads
  have hr0 := L0.reads hr
  clear hO
  cases hg : lenB xs
  · rw [show bolB xs = BR.zero by simp [bolB, hg]]
    have HC := Lib.hid (lengthsOf_no a p xs _ hx hr0 hg)
    clear hg hr0
    go_enter Try.func17, Try.ntmps17
    go_wp2_with fail
    refine HC.out.mono ?_
    rintro e w2 ⟨rfl, hb⟩
    have L1 := (L0.kept hb).kept (below_new (.cells #[.int .i64 0, .int .i64 0, .int .i64 0, .int .i64 0, .int .i64 0, .int .i64 0, .int .i64 0] 59))
    have ⟨_, n0, n1, n2, nf⟩ := L1.ownBox
    have HB := Lib.hid L1.below
    clear L0 L1 hb HC
    go_wp2_with fail
    refine bodyPost_ret (v := .tuple #[.agg #[.int .i64 0, .int .i64 0, .slice none 0 0], .bool false]) (by simp [results, Try.results17, go_sem, n0, n1, n2]) rfl (ansB_zero _ _ ?_)
    exact ((HB.out.setCell (by simp <;> omega) _).setCell (by simp <;> omega) _).setCell (by simp <;> omega) _
  · obtain ⟨l1, l2, l3, _⟩ := len_facts hg
    have hc := lengthsOf_yes a p xs _ hx hr0 hg
    obtain ⟨n, hn⟩ : ∃ n, n = xs.length := ⟨_, rfl⟩
    rw [show bolB xs = ⟨n, n, xs.map (fun x => pw x - 1), true⟩ by rw [hn]; simp [bolB, hg]]
    rw [← hn] at l1 l2 hc hr ⊢
    obtain ⟨M, hM⟩ : ∃ M : Nat → Int, M = fun k => xs.getD k 0 := ⟨_, rfl⟩
    rw [← hM] at hc
    have hJ : [mskG M n 0, mskG M n 1, mskG M n 2, mskG M n 3, mskG M n 4, mskG M n 5].take n = xs.map (fun x => pw x - 1) := by
      have := cells_n n (mskG M n) (xs.map (fun x => pw x - 1)) (by rw [List.length_map, hn]) l2 (fun q hq => by
        unfold mskG
        rw [if_pos hq, pwmap_get _ _ (by omega), hM])
      rw [← this, List.map_take]
      rfl
    have hM6 : ∀ k, 0 ≤ M k ∧ M k ≤ 6 := fun k => by rw [hM]; exact l3 k
    have HG := Lib.hid (fun W => serGrid_any n M W l2 hM6)
    have HC := Lib.hid hc
    have HJ := Lib.hid hJ
    have HZ := Lib.hid (show (xs.map (fun x => pw x - 1)).length = n by rw [List.length_map, hn])
    generalize mskG M n = u at *
    clear hg hr0 hM hc l3 hn hr hJ hM6
    go_enter Try.func17, Try.ntmps17
    go_wp2_with fail
    refine HC.out.mono ?_
    rintro e w2 ⟨rfl, hb⟩
    have L2 := (L0.kept hb).has (sl n M) 59
    rw [show w2.alloc (.cells (sl n M).toArray 59) = w2.alloc (.cells #[.int .i64 n, .int .i64 (M 0), .int .i64 (M 1), .int .i64 (M 2), .int .i64 (M 3), .int .i64 (M 4), .int .i64 (M 5)] 59) from rfl] at L2
    have HL2 := Lib.hid L2
    clear hb L2 HC L0
    go_upto_region 2 with fail
    generalize w2.alloc _ = w5 at *
    have ⟨e0, e1, e2, e3, e4, e5, e6, _⟩ := HL2.out.ownHas.seven
    go_wp2_with fail
    refine (HG.out _).mono ?_
    rintro e w6 ⟨rfl, hb⟩
    have HL6 := Lib.hid (HL2.out.kept hb)
    clear hb e0 e1 e2 e3 e4 e5 e6 HL2
    go_wp2_with fail
    refine (board_any n n _ _ _ _ _ _ _ l2).mono ?_
    rintro e w4 ⟨s4, rfl, hO, hb⟩
    rw [HJ.out] at hO
    have L4 := HL6.out.tl.own hb hO
    obtain ⟨a1, p1, hv, _⟩ := hO.reads
    subst hv
    have ⟨_, n0, n1, n2, nf⟩ := L4.tl.ownBox
    have hfin := L4.fin3 (n := w.heap.size) (x := .int .i64 0) (y := .int .i64 0) (z := .slice none 0 0) (by simp) (.int .i64 n) (.int .i64 n) (.slice a1 (xs.map (fun x => pw x - 1)).length p1)
    have HF := Lib.hid hfin
    rw [HZ.out] at HF ⊢
    clear L4 hO hb hfin HL6
    go_wp2_with fail
    exact bodyPost_ret (v := .tuple #[.agg #[.int .i64 n, .int .i64 n, .slice a1 n p1], .bool true]) (by simp [results, Try.results17, go_sem, n0, n1, n2]) rfl ⟨_, rfl, HF.out.1, HF.out.2⟩

set_option maxRecDepth 100000 in
set_option maxHeartbeats 3200000 in
theorem feBoard_any (a : Option Addr) (p : Nat) (xs : List Int) (w : World) (hr : Reads w a xs.length xs) (h1 : 1 ≤ xs.length) (h6 : xs.length ≤ 6) (hbd : ∀ k, 0 ≤ xs.getD k 0 ∧ xs.getD k 0 ≤ 6) :
    Calls Try.prog 54 #[.slice a xs.length p] w fun e w' => ∃ s, e = .returned (.agg #[.int .i64 xs.length, .int .i64 xs.length, s]) ∧ Own w' w.heap.size s (xs.map (fun x => pw x - 1)) ∧ Below w.heap.size w w' := by
  have L0 := (Law.start w).box (.int .i64 0) (.int .i64 0) (.slice none 0 0) 24
  have hly : (xs.map (fun x => pw x - 1)).length = xs.length := by rw [List.length_map]
  have hyk := pwmap_get xs
  obtain ⟨n, hn⟩ : ∃ n, n = xs.length := ⟨_, rfl⟩
  rw [← hn] at h1 h6 hr hly hyk ⊢
  obtain ⟨ys, hys⟩ : ∃ ys, ys = xs.map (fun x => pw x - 1) := ⟨_, rfl⟩
  rw [← hys] at hly hyk ⊢
  have HLY := Lib.hid hly
  have HYK := Lib.hid hyk
  have HY := Lib.hid hbd
  clear hn hys hly hyk hbd
  go_enter Try.func54, Try.ntmps54
  go_wp2_with fail
  refine (boEmpty_any n n _ h6).mono ?_
  rintro e w1 ⟨s, rfl, hO, hb⟩
  rcases hO.cases with ⟨rfl, h0⟩ | ⟨g, cap, rfl, _, _, _, _⟩
  · have := congrArg List.length h0
    simp at this
    omega
  rw [List.length_replicate] at hO ⊢
  have L1 := (L0.own hb hO).box (.int .i64 n) (.int .i64 n) (.slice (some ⟨g, 0, none⟩) n cap) 24
  have hlx : (List.replicate n (0 : Int)).length = n := by simp
  rw [← over_zero ys (List.replicate n 0)] at L1
  generalize List.replicate n (0 : Int) = zs at *
  have HLX := Lib.hid hlx
  have HL1 := Lib.hid L1
  clear L0 hO hb L1 hlx
  go_upto_region 2 with fail
  generalize w1.alloc _ = w6 at *
  go_wp2_with fail
  go_loopw [13] (fun i wr => ∃ k : Nat, k ≤ n ∧ i = .int .i64 k ∧ Law w [tBox w1.heap.size (.int .i64 n) (.int .i64 n) (.slice (some ⟨g, 0, none⟩) n cap), tOwn (.slice (some ⟨g, 0, none⟩) n cap) (over ys zs k), tBox w.heap.size (.int .i64 0) (.int .i64 0) (.slice none 0 0)] wr) (fun i _ => n - (intOf i).toNat)
  case atStart => exact ⟨0, Nat.zero_le _, rfl, HL1.out⟩
  case round =>
    clear HL1
    obtain ⟨k, hk, rfl, L⟩ := hrel
    obtain ⟨wo, rfl⟩ : ∃ wo : World, wo = wr := ⟨_, rfl⟩
    have ⟨_, k0, k1, k2, _⟩ := L.ownBox
    by_cases hlt : k < n
    · obtain ⟨b, off, rfl, hbl, hc⟩ := reads_row (L.reads hr) (by omega)
      have hck := hc k hlt
      have hy := HY.out k
      obtain ⟨hp1, hp2, hp3, hp4⟩ := pw_bd hy
      have o := L.tl.ownInts
      have hol := over_len ys zs k n HLY.out HLX.out hk
      have d1 := Own.cell (by rw [hol]; exact o) k (by rw [hol]; exact hlt)
      have d2 := Own.free (by rw [hol]; exact o) k
      have hS := (Law.store (ts := [_]) L hol k (pw (xs.getD k 0) - 1)).drew
      rw [over_set ys zs k n HLY.out HLX.out hlt _ (HYK.out k hlt)] at hS
      have HS := Lib.hid hS
      generalize (over ys zs k).getD k 0 = u at *
      generalize xs.getD k 0 = x at *
      have hx0 : 0 ≤ x := hy.1
      have hx1 : x < 64 := by omega
      clear L hS o hol hc hbl hy
      go_wp2_with fail
      go_region
      go_wp2_with fail
      go_roundw
      case rel => exact ⟨k + 1, by omega, by go_num, HS.out⟩
      case measure => simp [intOf]; omega
    · obtain rfl : k = n := by omega
      rw [over_full ys zs k HLY.out HLX.out] at L
      have ⟨_, m0, m1, m2, mf⟩ := L.tl.tl.ownBox
      have hfin := L.tl.fin3 (n := w.heap.size) (x := .int .i64 0) (y := .int .i64 0) (z := .slice none 0 0) (by simp) (.int .i64 k) (.int .i64 k) (.slice (some ⟨g, 0, none⟩) k cap)
      have HF := Lib.hid hfin
      clear L hfin hlt
      go_wp2_with fail
      exact bodyPost_ret (v := .agg #[.int .i64 k, .int .i64 k, .slice (some ⟨g, 0, none⟩) k cap]) (by simp [results, Try.results54, go_sem, m0, m1, m2]) rfl ⟨_, rfl, HF.out.1, HF.out.2⟩

set_option maxRecDepth 100000 in
set_option maxHeartbeats 3200000 in
theorem specBol_any (xs : List Int) (w : World) (hx : xs.length ≤ 1048576) (lo : Nat) (s : Value) (hO : Own w lo s xs) :
    Calls Try.prog 15 #[s] w fun e w' => AnsB (bolB xs) w e w' := by
  have L0 := (Law.start w).box (.int .i64 0) (.int .i64 0) (.slice none 0 0) 24
  obtain ⟨a, p, rfl, hr⟩ := hO.reads
  have hr0 := L0.reads hr
  clear hO
  cases hg : lenB xs
  · rw [show bolB xs = BR.zero by simp [bolB, hg]]
    have HC := Lib.hid (at_boolB (feGood_any a p xs _ hx hr0) hg)
    clear hg hr0
    go_enter Try.func15, Try.ntmps15
    go_wp2_with fail
    refine HC.out.mono ?_
    rintro e w2 ⟨rfl, hb⟩
    have L1 := L0.kept hb
    have ⟨_, n0, n1, n2, nf⟩ := L1.ownBox
    have HB := Lib.hid L1.below
    clear L0 L1 hb HC
    go_wp2_with fail
    refine bodyPost_ret (v := .tuple #[.agg #[.int .i64 0, .int .i64 0, .slice none 0 0], .bool false]) (by simp [results, Try.results15, go_sem, n0, n1, n2]) rfl (ansB_zero _ _ ?_)
    exact ((HB.out.setCell (by simp <;> omega) _).setCell (by simp <;> omega) _).setCell (by simp <;> omega) _
  · obtain ⟨l1, l2, l3, _⟩ := len_facts hg
    rw [show bolB xs = ⟨xs.length, xs.length, xs.map (fun x => pw x - 1), true⟩ by simp [bolB, hg]]
    have HC := Lib.hid (at_boolB (feGood_any a p xs _ hx hr0) hg)
    have HF := Lib.hid (fun (W : World) (h : Reads W a xs.length xs) => feBoard_any a p xs W h l1 l2 l3)
    have HZ := Lib.hid (show (xs.map (fun x => pw x - 1)).length = xs.length by rw [List.length_map])
    clear hg hr0 l3
    go_enter Try.func15, Try.ntmps15
    go_wp2_with fail
    refine HC.out.mono ?_
    rintro e w2 ⟨rfl, hb⟩
    have L1 := L0.kept hb
    have HL1 := Lib.hid L1
    clear L0 L1 hb HC
    go_wp2_with fail
    refine (HF.out _ (HL1.out.reads hr)).mono ?_
    rintro e w4 ⟨s4, rfl, hO, hb⟩
    have L4 := HL1.out.own hb hO
    obtain ⟨a1, p1, hv, _⟩ := hO.reads
    subst hv
    have ⟨_, n0, n1, n2, nf⟩ := L4.tl.ownBox
    have hfin := L4.fin3 (n := w.heap.size) (x := .int .i64 0) (y := .int .i64 0) (z := .slice none 0 0) (by simp) (.int .i64 xs.length) (.int .i64 xs.length) (.slice a1 (xs.map (fun x => pw x - 1)).length p1)
    have HFF := Lib.hid hfin
    rw [HZ.out] at HFF ⊢
    clear L4 hO hb hfin HL1 HF
    go_wp2_with fail
    exact bodyPost_ret (v := .tuple #[.agg #[.int .i64 xs.length, .int .i64 xs.length, .slice a1 xs.length p1], .bool true]) (by simp [results, Try.results15, go_sem, n0, n1, n2]) rfl ⟨_, rfl, HFF.out.1, HFF.out.2⟩
end Go.Proofs.Ytdgkcfpfldaopaa
