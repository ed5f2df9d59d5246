/- A list with one more column; slices of lists of the call's own. No condition but the sizes. -/
import Derived.Test.YtmhlpaenfknofaaUe
namespace Go.Proofs.Ytmhlpaenfknofaa
open Go.RowKit Go.WideShapes

/-- What with answers. -/
def witV (D : Int → Int → Bool) (xs : List Int) (x : Int) : Value := .tuple #[if okW D xs x then qv ((xs.length : Int) + 1) (cF (xs ++ [x])) else qv 0 (fun _ => 0), .bool (okW D xs x)]
theorem witV_no {D : Int → Int → Bool} {xs : List Int} {x : Int} (h : okW D xs x = false) : witV D xs x = .tuple #[qv 0 (fun _ => 0), .bool false] := by simp [witV, h]
theorem witV_yes {D : Int → Int → Bool} {xs : List Int} {x : Int} (h : okW D xs x = true) : witV D xs x = .tuple #[qv ((xs.length : Int) + 1) (cF (xs ++ [x])), .bool true] := by simp [witV, h]
def okU (D : Int → Int → Bool) (q : List Int) (c : Int) (k : Nat) : Bool := (List.range k).all (fun r => !(q.getD r 0 == c || D ((q.length : Int) - r) (c - q.getD r 0)))
theorem okU_full (D : Int → Int → Bool) (q : List Int) (c : Int) : okU D q c q.length = okW D q c := rfl
theorem okU_succ (D : Int → Int → Bool) (q : List Int) (c : Int) (k : Nat) : okU D q c (k + 1) = (okU D q c k && !(q.getD k 0 == c || D ((q.length : Int) - k) (c - q.getD k 0))) := by
  unfold okU
  rw [List.range_succ, List.all_append]
  simp
theorem okW_stop (D : Int → Int → Bool) (q : List Int) (c : Int) (k : Nat) (hk : k < q.length) (h : (q.getD k 0 == c || D ((q.length : Int) - k) (c - q.getD k 0)) = true) : okW D q c = false := by
  unfold okW
  rw [List.all_eq_false]
  exact ⟨k, List.mem_range.2 hk, by rw [h]; decide⟩
theorem cF_bd (xs : List Int) (x : Int) (hx : ∀ y ∈ xs, 0 ≤ y ∧ y < 8) (h2 : 0 ≤ x ∧ x < 8) : ∀ k, k < 8 → 0 ≤ cF (xs ++ [x]) k ∧ cF (xs ++ [x]) k < 8 := by
  intro k _
  by_cases hk : k < (xs ++ [x]).length
  · have hm := getD_mem' hk
    unfold cF
    rcases List.mem_append.1 hm with h | h
    · exact hx _ h
    · rw [List.mem_singleton] at h
      rw [h]
      exact h2
  · have : cF (xs ++ [x]) k = 0 := by unfold cF; rw [List.getD_eq_getElem?_getD, List.getElem?_eq_none (by omega)]; rfl
    omega
theorem cF_low (xs : List Int) (x : Int) (k : Nat) (hk : k < xs.length) : cF (xs ++ [x]) k = xs.getD k 0 := by
  rw [(cF_snoc xs x).2 k (by omega)]; rfl
set_option maxRecDepth 100000 in
set_option maxHeartbeats 6400000 in
theorem with_any (xs : List Int) (x : Int) (hl : xs.length < 8) (hx : ∀ y ∈ xs, 0 ≤ y ∧ y < 8) (h2 : 0 ≤ x ∧ x < 8) (M : FuncId) (cap : Array Value) (I : World → Prop) (D : Int → Int → Bool) (hM : MoveV M cap I D) (w : World) (hI : I w) :
    Calls Try.prog 75 #[qv xs.length (cF xs), .int .i64 x, .func (.func M) #[] cap] w fun e w' => e = .returned (witV D xs x) ∧ Below w.heap.size w w' := by
  have L0 := ((Law.start w).has (ql xs.length (cF xs)) 46).has (ql 0 (fun _ => 0)) 46
  simp only [World.size_alloc] at L0
  rw [show (w.alloc (.cells (ql xs.length (cF xs)).toArray 46)).alloc (.cells (ql 0 (fun _ => 0)).toArray 46) = (w.alloc (.cells #[.int .i64 xs.length, .int .i64 (cF xs 0), .int .i64 (cF xs 1), .int .i64 (cF xs 2), .int .i64 (cF xs 3), .int .i64 (cF xs 4), .int .i64 (cF xs 5), .int .i64 (cF xs 6), .int .i64 (cF xs 7)] 46)).alloc (.cells #[.int .i64 0, .int .i64 0, .int .i64 0, .int .i64 0, .int .i64 0, .int .i64 0, .int .i64 0, .int .i64 0, .int .i64 0] 46) from rfl] at L0
  have HMT := Lib.hid (fun (r : Nat) W (h : Below w.heap.size w W) (hr : r < 8) => meet_any ((xs.length : Int) + 1) (cF (xs ++ [x])) r xs.length M cap I D hM W (hM.kept w W hI h) hr hl (cF_bd xs x hx h2))
  have HL := Lib.hid L0
  have HLOW := Lib.hid (cF_low xs x)
  have HSN := Lib.hid (cF_snoc xs x)
  have HY := Lib.hid (fun h => witV_yes (D := D) (xs := xs) (x := x) h)
  have HNO := Lib.hid (fun k hk h => witV_no (okW_stop D xs x k hk h))
  have HU := Lib.hid (okU_succ D xs x)
  have HF := Lib.hid (okU_full D xs x)
  clear L0 hM hI hx h2
  generalize cF xs = F at *
  generalize hG : cF (xs ++ [x]) = G at *
  clear hG
  have hc0 : (0 : Int) ≤ xs.length := by omega
  have hc8 : (xs.length : Int) < 8 := by omega
  have hcw : wrap64 ((xs.length : Int) + 1) = (xs.length : Int) + 1 := IntWalk.wrap64_in _ (by omega)
  generalize xs.length = c at *
  have hS := Law.setHas (ts := [_]) (ts' := []) HL.out 0 (.int .i64 ((c : Int) + 1))
  rw [ql_put] at hS
  have hS2 := Law.setHas (ts := [_]) (ts' := []) hS (1 + c) (.int .i64 x)
  rw [ql_set _ F G c hl x HSN.out.1 HSN.out.2] at hS2
  have HS2 := Lib.hid hS2
  obtain ⟨f0, f1, f2, f3, f4, f5, f6, f7, f8, ff⟩ := ql_held HL.out.tl.ownHas
  have hce := (Law.holds hS (tHas w.heap.size (ql ((c : Int) + 1) F) 46) (by simp)).cell (1 + c)
  rw [ql_get _ _ c hl] at hce
  have hfe := (Law.holds hS (tHas w.heap.size (ql ((c : Int) + 1) F) 46) (by simp)).free (1 + c)
  clear hS hS2 HL
  go_enter Try.func75, Try.ntmps75
  go_upto_region 1 with fail
  generalize (w.alloc _).alloc _ = w1 at *
  go_upto_region 3 with fail
  generalize w1.setCell _ (.int .i64 ((c : Int) + 1)) = w2 at *
  go_upto_region 4 with fail
  generalize w2.setCell _ (.int .i64 x) = w3 at *
  clear f0 f1 f2 f3 f4 f5 f6 f7 f8 ff hce hfe
  go_wp2_with fail
  go_loopw [21] (fun i wr => ∃ k : Nat, k ≤ c ∧ i = .int .i64 k ∧ Hid (okU D xs x k = true) ∧ Hid (Law w [tHas (w.heap.size + 1) (ql 0 (fun _ => 0)) 46, tHas w.heap.size (ql ((c : Int) + 1) G) 46] wr)) (fun i _ => c - (intOf i).toNat)
  case atStart => exact ⟨0, Nat.zero_le _, rfl, Lib.hid rfl, HS2⟩
  case round =>
    clear HS2
    obtain ⟨k, hk, rfl, HE, HL⟩ := hrel
    by_cases hlt : k < c
    · have hk8 : k < 8 := by omega
      have hcs := HL.out.tl.ownHas.cell (1 + k)
      rw [ql_get _ _ k hk8, HLOW.out k hlt] at hcs
      have HC := Lib.hid (HMT.out k)
      rw [HLOW.out k hlt, HSN.out.1] at HC
      have HUK := Lib.hid (HU.out k)
      have HNK := Lib.hid (HNO.out k hlt)
      generalize xs.getD k 0 = y at *
      cases he : (y == x)
      · obtain ⟨g0, g1, g2, g3, g4, g5, g6, g7, g8, gf⟩ := ql_held HL.out.tl.ownHas
        cases hd : D ((c : Int) - k) (x - y)
        · have HN := Lib.hid (show okU D xs x (k + 1) = true by rw [HUK.out, HE.out, he, hd]; rfl)
          rw [hd] at HC
          have HCW := Lib.hid (HC.out _ HL.out.below hk8)
          clear hd HNK HUK HC
          go_wp2_with (go_at_call 71; ((with_reducible refine HCW.out.mono ?_); rintro e w6 ⟨rfl, hb6⟩; have HL6 := Lib.hid (HL.out.kept hb6); clear hb6 HL HCW hcs g0 g1 g2 g3 g4 g5 g6 g7 g8 gf))
          go_roundw
          case rel => exact ⟨k + 1, by omega, by go_num, HN, HL6⟩
          case measure => simp [intOf]; omega
        · have HD := Lib.hid (HNK.out (by rw [he, hd]; rfl))
          rw [hd] at HC
          have HCW := Lib.hid (HC.out _ HL.out.below hk8)
          clear hd HNK HUK HC
          go_wp2_with (go_at_call 71; ((with_reducible refine HCW.out.mono ?_); rintro e w6 ⟨rfl, hb6⟩; have HL6 := Lib.hid (HL.out.kept hb6); clear hb6 HL HCW hcs g0 g1 g2 g3 g4 g5 g6 g7 g8 gf; obtain ⟨f0, f1, f2, f3, f4, f5, f6, f7, f8, ff⟩ := HL6.out.ownHas.nineQ))
          have HB := Lib.hid (And.intro HL6.out.below HL6.out.ownHas.lt)
          clear HL6
          refine bodyPost_ret (v := .tuple #[qv 0 (fun _ => 0), .bool false]) (by simp [results, Try.results75, go_sem, f0, f1, f2, f3, f4, f5, f6, f7, f8]) rfl ⟨ret_v HD.out, ?_⟩
          exact below_putQ HB.out.1 _ (by omega) 0 (fun _ => 0)
      · have HD := Lib.hid (HNK.out (by rw [he]; rfl))
        obtain ⟨f0, f1, f2, f3, f4, f5, f6, f7, f8, ff⟩ := HL.out.ownHas.nineQ
        have HB := Lib.hid (And.intro HL.out.below HL.out.ownHas.lt)
        clear HL HC HUK HNK
        go_wp2_with fail
        refine bodyPost_ret (v := .tuple #[qv 0 (fun _ => 0), .bool false]) (by simp [results, Try.results75, go_sem, f0, f1, f2, f3, f4, f5, f6, f7, f8]) rfl ⟨ret_v HD.out, ?_⟩
        exact below_putQ HB.out.1 _ (by omega) 0 (fun _ => 0)
    · obtain rfl : k = c := by omega
      have HD := Lib.hid (HY.out (by rw [← HF.out]; exact HE.out))
      obtain ⟨f0, f1, f2, f3, f4, f5, f6, f7, f8, ff⟩ := HL.out.ownHas.nineQ
      obtain ⟨g0, g1, g2, g3, g4, g5, g6, g7, g8, gf⟩ := ql_held HL.out.tl.ownHas
      have hp := HL.out.ownHas.putQ ((k : Int) + 1) G
      have HB := Lib.hid (And.intro HL.out.below HL.out.ownHas.lt)
      clear HL
      go_wp2_with fail
      clear f0 f1 f2 f3 f4 f5 f6 f7 f8 ff g0 g1 g2 g3 g4 g5 g6 g7 g8 gf
      obtain ⟨f0, f1, f2, f3, f4, f5, f6, f7, f8, ff⟩ := ql_held hp
      clear hp
      refine bodyPost_ret (v := .tuple #[qv ((k : Int) + 1) G, .bool true]) (by simp [results, Try.results75, go_sem, f0, f1, f2, f3, f4, f5, f6, f7, f8]) rfl ⟨ret_v HD.out, ?_⟩
      exact below_putQ HB.out.1 _ (by omega) _ G

end Go.Proofs.Ytmhlpaenfknofaa
