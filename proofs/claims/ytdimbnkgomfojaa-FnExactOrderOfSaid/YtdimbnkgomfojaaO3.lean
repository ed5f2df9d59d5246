/- Rows brought into an order: the masks, and the program's grid. No condition but the sizes. -/
import Derived.Test.YtdimbnkgomfojaaQ
namespace Go.Proofs.Ytdimbnkgomfojaa
open Go.RowKit Go.WideShapes

theorem map_getD (f : Int → Int) (l : List Int) (k : Nat) (hk : k < l.length) : (l.map f).getD k 0 = f (l.getD k 0) := by simp [List.getD, hk]
/-- The masks behind k rounds. -/
def ordm (M : Nat → Int) (ord : List Int) (k : Nat) : Nat → Int := fun q => if q < k then M (ord.getD q 0).toNat else M q
theorem ordm_zero (M : Nat → Int) (ord : List Int) : ordm M ord 0 = M := by funext q; simp [ordm]
theorem ordm_put (M : Nat → Int) (ord : List Int) (k y : Nat) (h : ord.getD k 0 = y) : ordm M ord (k + 1) k = M y := by
  unfold ordm
  rw [if_pos (by omega), h, Int.toNat_natCast]
theorem ordm_off (M : Nat → Int) (ord : List Int) (k q : Nat) (h : q ≠ k) : ordm M ord (k + 1) q = ordm M ord k q := by
  unfold ordm
  by_cases h1 : q < k
  · rw [if_pos h1, if_pos (by omega)]
  · rw [if_neg h1, if_neg (by omega)]
theorem ordm_end (M : Nat → Int) (xs ord : List Int) (n : Nat) (hl : ord.length = n) (hn : n ≤ 6) (hM : ∀ k, M k = xs.getD k 0) :
    [ordm M ord n 0, ordm M ord n 1, ordm M ord n 2, ordm M ord n 3, ordm M ord n 4, ordm M ord n 5].take n = ord.map (fun x => xs.getD x.toNat 0) := by
  have := cells_n n (ordm M ord n) (ord.map (fun x => xs.getD x.toNat 0)) (by simp; omega) hn (fun k hk => by
    unfold ordm
    rw [if_pos hk, hM, map_getD _ _ _ (by omega)])
  rw [← this, List.map_take]
  rfl

set_option maxRecDepth 100000 in
set_option maxHeartbeats 3200000 in
theorem inOrder_any (n : Nat) (c : Int) (M : Nat → Int) (a2 : Option Addr) (cap2 : Nat) (ord : List Int) (w : World) (h6 : n ≤ 6) (hln : ord.length = n) (hr2 : Reads w a2 ord.length ord) (hq : ∀ k, k < n → 0 ≤ ord.getD k 0 ∧ ord.getD k 0 < n) :
    Calls Try.prog 85 #[gv n c M, .slice a2 ord.length cap2] w fun e w' => e = .returned (gv n c (ordm M ord n)) ∧ Below w.heap.size w w' := by
  have L0 := ((Law.start w).has (gl n c M) 59).has [.int .i64 0, .int .i64 0, .int .i64 0, .int .i64 0, .int .i64 0, .int .i64 0, .int .i64 0, .int .i64 0] 59
  simp only [World.size_alloc] at L0
  rw [show w.alloc (.cells (gl n c M).toArray 59) = w.alloc (.cells #[.int .i64 n, .int .i64 c, .int .i64 (M 0), .int .i64 (M 1), .int .i64 (M 2), .int .i64 (M 3), .int .i64 (M 4), .int .i64 (M 5)] 59) from rfl] at L0
  subst hln
  obtain ⟨N, hN⟩ : ∃ N, N = ordm M ord ord.length := ⟨_, rfl⟩
  rw [← hN]
  have HN := Lib.hid hN
  have HL0 := Lib.hid L0
  have HQ := Lib.hid hq
  clear L0 hq hN
  go_enter Try.func85, Try.ntmps85
  go_upto_region 1 with fail
  generalize hW : ((w.alloc _).alloc _) = w5 at *
  clear hW
  have L1 := HL0.out.has (gl ord.length c (ordm M ord 0)) 59
  rw [ordm_zero] at L1
  rw [show w5.alloc (.cells (gl ord.length c M).toArray 59) = w5.alloc (.cells #[.int .i64 ord.length, .int .i64 c, .int .i64 (M 0), .int .i64 (M 1), .int .i64 (M 2), .int .i64 (M 3), .int .i64 (M 4), .int .i64 (M 5)] 59) from rfl] at L1
  obtain ⟨e0, e1, e2, e3, e4, e5, e6, e7, _⟩ := HL0.out.tl.ownHas.eight
  have HL1 := Lib.hid L1
  clear L1 HL0
  go_upto_region 2 with fail
  clear e0 e1 e2 e3 e4 e5 e6 e7
  generalize hW : w5.alloc _ = w6 at *
  clear hW
  go_wp2_with fail
  go_loopw [11] (fun i wr => ∃ k : Nat, k ≤ ord.length ∧ i = .int .i64 k ∧ Law w [tHas w5.heap.size (gl ord.length c (ordm M ord k)) 59, tHas (w.heap.size + 1) [.int .i64 0, .int .i64 0, .int .i64 0, .int .i64 0, .int .i64 0, .int .i64 0, .int .i64 0, .int .i64 0] 59, tHas w.heap.size (gl ord.length c M) 59] wr) (fun i _ => ord.length - (intOf i).toNat)
  case atStart => exact ⟨0, by omega, rfl, by rw [ordm_zero]; exact HL1.out⟩
  case round =>
    clear HL1
    obtain ⟨k, hk, rfl, L⟩ := hrel
    by_cases hlt : k < ord.length
    · obtain ⟨b, off, rfl, hb, hc⟩ := reads_row (L.reads hr2) (by omega)
      have hck := hc k hlt
      obtain ⟨i1, i2⟩ := HQ.out k hlt
      obtain ⟨y, hy'⟩ := Int.eq_ofNat_of_zero_le i1
      rw [hy'] at hck
      have hyl : (y : Int) < 6 := by omega
      have hyn : y < 6 := by omega
      have hcx := L.tl.tl.ownHas.cell (2 + y)
      rw [gl_get _ _ _ y (by omega)] at hcx
      have hcz := L.ownHas.cell (2 + k)
      rw [gl_get _ _ _ k (by omega)] at hcz
      have hfz := L.ownHas.free (2 + k)
      have hk6 : (k : Int) < 6 := by omega
      have hS := (Law.setHas (ts := []) L (2 + k) (.int .i64 (M y)))
      rw [gl_set _ _ (ordm M ord k) (ordm M ord (k + 1)) k (by omega) _ (ordm_put M ord k y hy') (fun q hq => ordm_off M ord k q hq)] at hS
      have HS := Lib.hid hS
      clear L hS hc i1 i2 hy'
      generalize M y = x at *
      generalize ordm M ord k k = z at *
      go_wp2_with fail
      go_roundw
      case rel => exact ⟨k + 1, by omega, by go_num, HS.out⟩
      case measure => simp [intOf]; omega
    · obtain rfl : k = ord.length := by omega
      rw [← HN.out] at L
      obtain ⟨c0, c1, c2, c3, c4, c5, c6, c7, _⟩ := L.ownHas.eight
      obtain ⟨d0, d1, d2, d3, d4, d5, d6, d7, _⟩ := L.tl.ownHas.eight
      have HB := Lib.hid L.below
      clear L hlt
      go_wp2_with fail
      refine bodyPost_ret (v := gv ord.length c N) (by simp [results, Try.results85, go_sem, d0, d1, d2, d3, d4, d5, d6, d7]) rfl ⟨rfl, ?_⟩
      have h2 := HB.out
      repeat (refine Below.setCell ?_ (by simp <;> omega) _)
      exact h2

end Go.Proofs.Ytdimbnkgomfojaa
