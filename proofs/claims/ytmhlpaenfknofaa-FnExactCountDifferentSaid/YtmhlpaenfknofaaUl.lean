/- Turns and mirrors of lists, in both texts. No condition but the sizes. -/
import Derived.Test.YtmhlpaenfknofaaUk
import Derived.Deep.RegionLaw
namespace Go.Proofs.Ytmhlpaenfknofaa
open Go.RowKit Go.WideShapes

/-- Numbers below n, as many. -/
def RgB (n : Nat) (xs : List Int) : Prop := xs.length = n ∧ ∀ x ∈ xs, 0 ≤ x ∧ x < (n : Int)
theorem RgB.at {n : Nat} {xs : List Int} (h : RgB n xs) (k : Nat) (hk : k < n) : 0 ≤ xs.getD k 0 ∧ xs.getD k 0 < (n : Int) := h.2 _ (getD_mem' (by rw [h.1]; exact hk))
theorem RgB.zero (n : Nat) (hn : 1 ≤ n) : ∀ x ∈ List.replicate n (0 : Int), 0 ≤ x ∧ x < (n : Int) := by
  intro x hx
  have := List.eq_of_mem_replicate hx
  omega
theorem gd_rg {xs : List Int} (h : gdB xs = true) : RgB xs.length xs := ⟨rfl, (gd_facts h).2.2.1⟩
def turIx (q : List Int) : Nat → Nat := fun r => (q.getD r 0).toNat
def turVa (n : Nat) : Nat → Int := fun r => (n : Int) - 1 - r
def turnL (q : List Int) : List Int := wrG (turIx q) (turVa q.length) (List.replicate q.length 0) q.length
def mirL (q : List Int) : List Int := q.map (fun c => (q.length : Int) - 1 - c)
theorem turnL_len (q : List Int) : (turnL q).length = q.length := by unfold turnL; rw [wrG_len, List.length_replicate]
theorem mirL_len (q : List Int) : (mirL q).length = q.length := by simp [mirL]
theorem turnL_rg {n : Nat} {q : List Int} (h : RgB n q) (hn : 1 ≤ n) : RgB n (turnL q) := by
  refine ⟨by rw [turnL_len]; exact h.1, ?_⟩
  unfold turnL
  rw [h.1]
  exact wrG_in _ _ n _ (RgB.zero n hn) n (fun j hj => by unfold turVa; omega)
theorem mirL_rg {n : Nat} {q : List Int} (h : RgB n q) : RgB n (mirL q) := by
  refine ⟨by rw [mirL_len]; exact h.1, ?_⟩
  intro x hx
  unfold mirL at hx
  obtain ⟨c, hc, rfl⟩ := List.mem_map.1 hx
  have := h.2 c hc
  rw [h.1]
  omega
theorem mirL_get (q : List Int) (k : Nat) (hk : k < q.length) : (mirL q).getD k 0 = (q.length : Int) - 1 - q.getD k 0 := by
  simp [mirL, List.getD, hk]
def turR (q : List Int) : LR := if gdB q then ⟨turnL q, true⟩ else ⟨[], false⟩
def mirR (q : List Int) : LR := if gdB q then ⟨mirL q, true⟩ else ⟨[], false⟩
theorem turR_len (q : List Int) : (turR q).ys.length ≤ 1048576 := by
  unfold turR
  cases h : gdB q
  · simp
  · have := (gd_facts h).2.1
    simp only [if_true, turnL_len]
    omega
theorem mirR_len (q : List Int) : (mirR q).ys.length ≤ 1048576 := by
  unfold mirR
  cases h : gdB q
  · simp
  · have := (gd_facts h).2.1
    simp only [if_true, mirL_len]
    omega
theorem cF_rep (n : Nat) : cF (List.replicate n 0) = fun _ => 0 := by
  funext i
  unfold cF
  simp only [List.getD, List.getElem?_replicate]
  split <;> rfl

set_option maxRecDepth 100000 in
set_option maxHeartbeats 6400000 in
theorem turned_any9 (n : Nat) (q : List Int) (w : World) (h : RgB n q) (hn : 1 ≤ n) (h8 : n ≤ 8) :
    Calls Try.prog 66 #[qv n (cF q)] w fun e w' => e = .returned (qv n (cF (turnL q))) ∧ Below w.heap.size w w' := by
  have L0 := ((Law.start w).has (ql n (cF q)) 46).has (ql 0 (fun _ => 0)) 46
  simp only [World.size_alloc] at L0
  rw [show (w.alloc (.cells (ql n (cF q)).toArray 46)).alloc (.cells (ql 0 (fun _ => 0)).toArray 46) = (w.alloc (.cells #[.int .i64 n, .int .i64 (cF q 0), .int .i64 (cF q 1), .int .i64 (cF q 2), .int .i64 (cF q 3), .int .i64 (cF q 4), .int .i64 (cF q 5), .int .i64 (cF q 6), .int .i64 (cF q 7)] 46)).alloc (.cells #[.int .i64 0, .int .i64 0, .int .i64 0, .int .i64 0, .int .i64 0, .int .i64 0, .int .i64 0, .int .i64 0, .int .i64 0] 46) from rfl] at L0
  have HL := Lib.hid L0
  have HQ := Lib.hid (fun k hk => h.at k hk)
  have HCQ := Lib.hid (fun k => show cF q k = q.getD k 0 from rfl)
  have HT := Lib.hid (show turnL q = wrG (turIx q) (turVa n) (List.replicate n 0) n by unfold turnL; rw [h.1])
  have HWL := Lib.hid (wrG_len (turIx q) (turVa n) (List.replicate n 0))
  have HIX := Lib.hid (fun k => show turIx q k = (q.getD k 0).toNat from rfl)
  clear L0 h
  rw [HT.out]
  generalize cF q = F at *
  go_enter Try.func66, Try.ntmps66
  go_upto_region 1 with fail
  generalize (w.alloc _).alloc _ = w1 at *
  obtain ⟨f0, _⟩ := ql_held HL.out.tl.ownHas
  have L2 := HL.out.has (ql n (fun _ => 0)) 46
  rw [show w1.alloc (.cells (ql n (fun _ => 0)).toArray 46) = w1.alloc (.cells #[.int .i64 n, .int .i64 0, .int .i64 0, .int .i64 0, .int .i64 0, .int .i64 0, .int .i64 0, .int .i64 0, .int .i64 0] 46) from rfl] at L2
  have HL2 := Lib.hid L2
  clear L2 HL
  go_upto_region 2 with fail
  clear f0
  obtain ⟨b, hb⟩ : ∃ b, b = w1.heap.size := ⟨_, rfl⟩
  rw [← hb] at HL2 ⊢
  clear hb
  generalize w1.alloc _ = w2 at *
  obtain ⟨f0, _⟩ := ql_held HL2.out.tl.tl.ownHas
  go_wp2_with fail
  clear f0
  go_loopw [10] (fun i wr => ∃ k : Nat, k ≤ n ∧ i = .int .i64 k ∧ Hid (Law w [tHas b (ql n (cF (wrG (turIx q) (turVa n) (List.replicate n 0) k))) 46, tHas (w.heap.size + 1) (ql 0 (fun _ => 0)) 46, tHas w.heap.size (ql n F) 46] wr)) (fun i _ => n - (intOf i).toNat)
  case atStart => exact ⟨0, Nat.zero_le _, rfl, by rw [show wrG (turIx q) (turVa n) (List.replicate n 0) 0 = List.replicate n 0 from rfl, cF_rep]; exact HL2⟩
  case round =>
    clear HL2
    obtain ⟨k, hk, rfl, HL⟩ := hrel
    obtain ⟨wo, rfl⟩ : ∃ wo : World, wo = wr := ⟨_, rfl⟩
    by_cases hlt : k < n
    · have hk8 : k < 8 := by omega
      have hq := HQ.out k hlt
      obtain ⟨z, hz⟩ := Int.eq_ofNat_of_zero_le hq.1
      have hz8 : z < 8 := by omega
      have hlen := HWL.out k
      rw [List.length_replicate] at hlen
      have hix : turIx q k = z := by rw [HIX.out, hz]; rfl
      have hset := cF_set (wrG (turIx q) (turVa n) (List.replicate n 0) k) z (turVa n k) (by omega)
      have hst := Law.setHas (ts := []) HL.out (1 + z) (.int .i64 ((n : Int) - 1 - k))
      rw [ql_set _ _ (cF (wrG (turIx q) (turVa n) (List.replicate n 0) (k + 1))) z hz8 ((n : Int) - 1 - k) (by rw [wrG, hix]; exact hset.1) (fun j hj => by rw [wrG, hix]; exact hset.2 j hj)] at hst
      have HS := Lib.hid hst.drew
      have hcz := HL.out.ownHas.cell (1 + z)
      rw [ql_get _ _ z hz8] at hcz
      have hfz := HL.out.ownHas.free (1 + z)
      obtain ⟨g0, _⟩ := ql_held HL.out.tl.tl.ownHas
      have hgk := HL.out.tl.tl.ownHas.cell (1 + k)
      rw [ql_get _ _ k hk8, HCQ.out k, hz] at hgk
      generalize cF (wrG (turIx q) (turVa n) (List.replicate n 0) k) z = old at *
      have hw1 : IntKind.i64.wrap ((n : Int) - 1) = (n : Int) - 1 := IntWalk.i64_in _ (by omega)
      have hw2 : IntKind.i64.wrap ((n : Int) - 1 - k) = (n : Int) - 1 - k := IntWalk.i64_in _ (by omega)
      have hk0 : (0 : Int) ≤ k := by omega
      have hk88 : (k : Int) < 8 := by omega
      have hz0 : (0 : Int) ≤ z := by omega
      have hz88 : (z : Int) < 8 := by omega
      clear HL hst hset hix hlen hq hz
      go_wp2_with fail
      go_region
      generalize (wo.setCell _ _).drew = w7 at *
      clear hcz hfz g0 hgk
      go_wp2_with fail
      go_roundw
      case rel => first | exact ⟨k + 1, by omega, by go_num, HS⟩ | ((repeat apply Exists.intro); exact ⟨⟨k + 1, by omega, by go_num, HS⟩, rfl⟩)
      case measure => simp [intOf]; omega
    · obtain rfl : k = n := by omega
      obtain ⟨f0, f1, f2, f3, f4, f5, f6, f7, f8, ff⟩ := HL.out.tl.ownHas.nineQ
      obtain ⟨g0, g1, g2, g3, g4, g5, g6, g7, g8, gf⟩ := ql_held HL.out.ownHas
      generalize hGG : cF (wrG (turIx q) (turVa k) (List.replicate k 0) k) = G at *
      have HG := Lib.hid hGG
      clear hGG
      have hp := HL.out.tl.ownHas.putQ k G
      have HB := Lib.hid (And.intro HL.out.below HL.out.tl.ownHas.lt)
      clear HL
      go_wp2_with fail
      clear f0 f1 f2 f3 f4 f5 f6 f7 f8 ff g0 g1 g2 g3 g4 g5 g6 g7 g8 gf
      obtain ⟨f0, f1, f2, f3, f4, f5, f6, f7, f8, ff⟩ := ql_held hp
      clear hp
      refine bodyPost_ret (v := qv k G) (by simp [results, Try.results66, go_sem, f0, f1, f2, f3, f4, f5, f6, f7, f8]) rfl ⟨by rw [HG.out], ?_⟩
      exact below_putQ HB.out.1 _ (by omega) _ G
set_option maxRecDepth 100000 in
set_option maxHeartbeats 6400000 in
theorem mirrored_any (n : Nat) (q : List Int) (w : World) (h : RgB n q) (h8 : n ≤ 8) :
    Calls Try.prog 68 #[qv n (cF q)] w fun e w' => e = .returned (qv n (cF (mirL q))) ∧ Below w.heap.size w w' := by
  have L0 := ((Law.start w).has (ql n (cF q)) 46).has (ql 0 (fun _ => 0)) 46
  simp only [World.size_alloc] at L0
  rw [show (w.alloc (.cells (ql n (cF q)).toArray 46)).alloc (.cells (ql 0 (fun _ => 0)).toArray 46) = (w.alloc (.cells #[.int .i64 n, .int .i64 (cF q 0), .int .i64 (cF q 1), .int .i64 (cF q 2), .int .i64 (cF q 3), .int .i64 (cF q 4), .int .i64 (cF q 5), .int .i64 (cF q 6), .int .i64 (cF q 7)] 46)).alloc (.cells #[.int .i64 0, .int .i64 0, .int .i64 0, .int .i64 0, .int .i64 0, .int .i64 0, .int .i64 0, .int .i64 0, .int .i64 0] 46) from rfl] at L0
  have HL := Lib.hid L0
  have HQ := Lib.hid (fun k hk => h.at k hk)
  have HN := Lib.hid h.1
  have HML := Lib.hid (show (mirL q).length = n by rw [mirL_len]; exact h.1)
  have HMG := Lib.hid (fun k hk => mirL_get q k hk)
  clear L0 h
  obtain ⟨S, hS⟩ : ∃ S, S = mirL q := ⟨_, rfl⟩
  rw [← hS] at HML HMG ⊢
  clear hS
  go_enter Try.func68, Try.ntmps68
  go_upto_region 1 with fail
  generalize (w.alloc _).alloc _ = w1 at *
  obtain ⟨f0, _⟩ := ql_held HL.out.tl.ownHas
  go_wp2_with fail
  clear f0
  go_loopw [6] (fun i wr => ∃ k : Nat, k ≤ n ∧ i = .int .i64 k ∧ Hid (Law w [tHas (w.heap.size + 1) (ql 0 (fun _ => 0)) 46, tHas w.heap.size (ql n (cF (over S q k))) 46] wr)) (fun i _ => n - (intOf i).toNat)
  case atStart => exact ⟨0, Nat.zero_le _, rfl, by rw [over_zero]; exact HL⟩
  case round =>
    clear HL
    obtain ⟨k, hk, rfl, HL⟩ := hrel
    obtain ⟨wo, rfl⟩ : ∃ wo : World, wo = wr := ⟨_, rfl⟩
    by_cases hlt : k < n
    · have hk8 : k < 8 := by omega
      have hq := HQ.out k hlt
      have hlen := over_len S q k n HML.out HN.out (by omega)
      have hmg := HMG.out k (by rw [HN.out]; exact hlt)
      rw [HN.out] at hmg
      have hset := cF_set (over S q k) k ((n : Int) - 1 - q.getD k 0) (by omega)
      rw [over_set S q k n HML.out HN.out hlt _ hmg] at hset
      have hst := Law.setHas (ts := [_]) (ts' := []) HL.out (1 + k) (.int .i64 ((n : Int) - 1 - q.getD k 0))
      rw [ql_set _ _ (cF (over S q (k + 1))) k hk8 _ hset.1 hset.2] at hst
      have HS := Lib.hid hst.drew
      obtain ⟨g0, _⟩ := ql_held HL.out.tl.ownHas
      have hcz := HL.out.tl.ownHas.cell (1 + k)
      rw [ql_get _ _ k hk8, show cF (over S q k) k = q.getD k 0 from over_get S q k n HML.out HN.out hlt] at hcz
      have hfz := HL.out.tl.ownHas.free (1 + k)
      generalize q.getD k 0 = x at *
      have hw1 : IntKind.i64.wrap ((n : Int) - 1) = (n : Int) - 1 := IntWalk.i64_in _ (by omega)
      have hw2 : IntKind.i64.wrap ((n : Int) - 1 - x) = (n : Int) - 1 - x := IntWalk.i64_in _ (by omega)
      have hk0 : (0 : Int) ≤ k := by omega
      have hk88 : (k : Int) < 8 := by omega
      clear HL hst hset hlen hq hmg
      go_wp2_with fail
      go_region
      generalize (wo.setCell _ _).drew = w7 at *
      clear hcz hfz g0
      go_wp2_with fail
      go_roundw
      case rel => first | exact ⟨k + 1, by omega, by go_num, HS⟩ | ((repeat apply Exists.intro); exact ⟨⟨k + 1, by omega, by go_num, HS⟩, rfl⟩)
      case measure => simp [intOf]; omega
    · obtain rfl : k = n := by omega
      have hL := HL.out
      rw [over_full S q k HML.out HN.out] at hL
      obtain ⟨f0, f1, f2, f3, f4, f5, f6, f7, f8, ff⟩ := hL.ownHas.nineQ
      obtain ⟨g0, g1, g2, g3, g4, g5, g6, g7, g8, gf⟩ := ql_held hL.tl.ownHas
      generalize hGG : cF S = G at *
      have HG := Lib.hid hGG
      clear hGG
      have hp := hL.ownHas.putQ k G
      have HB := Lib.hid (And.intro hL.below hL.ownHas.lt)
      clear HL hL
      go_wp2_with fail
      clear f0 f1 f2 f3 f4 f5 f6 f7 f8 ff g0 g1 g2 g3 g4 g5 g6 g7 g8 gf
      obtain ⟨f0, f1, f2, f3, f4, f5, f6, f7, f8, ff⟩ := ql_held hp
      clear hp
      refine bodyPost_ret (v := qv k G) (by simp [results, Try.results68, go_sem, f0, f1, f2, f3, f4, f5, f6, f7, f8]) rfl ⟨by rw [HG.out], ?_⟩
      exact below_putQ HB.out.1 _ (by omega) _ G

set_option maxRecDepth 100000 in
set_option maxHeartbeats 6400000 in
theorem quTurn_any (n : Nat) (a : Option Addr) (cap : Nat) (q : List Int) (w : World) (h : RgB n q) (hn : 1 ≤ n) (h8 : n ≤ 8) (hr : Reads w a q.length q) :
    Calls Try.prog 65 #[.slice a q.length cap] w fun e w' => ∃ s, e = .returned s ∧ Own w' w.heap.size s (turnL q) ∧ Below w.heap.size w w' := by
  have HR := Lib.hid hr
  have HT := Lib.hid (show turnL q = wrG (turIx q) (turVa n) (List.replicate n 0) n by unfold turnL; rw [h.1])
  have HQ := Lib.hid (fun k hk => h.at k hk)
  have HWL := Lib.hid (wrG_len (turIx q) (turVa n) (List.replicate n 0))
  have HIX := Lib.hid (fun k => show turIx q k = (q.getD k 0).toNat from rfl)
  have HVA := Lib.hid (fun k => show turVa n k = (n : Int) - 1 - k from rfl)
  rw [h.1] at HR ⊢
  clear hr h
  have hmk := run_make_row' (P := Try.prog) 22 3 (.int .i64 0) 8 Try.underlying22 Try.infoI rfl .i64 .i64 n (by omega) (by omega)
  have HOM := Lib.hid ((Law.start w).own (below_new _) (own_madeQ w n (by omega)))
  go_enter Try.func65, Try.ntmps65
  go_wp2_with fail
  clear hmk
  generalize w.alloc _ = w3 at *
  go_loopw [11] (fun i wr => ∃ k : Nat, k ≤ n ∧ i = .int .i64 k ∧ Hid (Law w [tOwn (.slice (some ⟨w.heap.size, 0, none⟩) n n) (wrG (turIx q) (turVa n) (List.replicate n 0) k)] wr)) (fun i _ => n - (intOf i).toNat)
  case atStart => exact ⟨0, Nat.zero_le _, rfl, HOM⟩
  case round =>
    clear HOM
    obtain ⟨k, hk, rfl, HL⟩ := hrel
    obtain ⟨wo, rfl⟩ : ∃ wo : World, wo = wr := ⟨_, rfl⟩
    by_cases hlt : k < n
    · obtain ⟨b, off, rfl, _, hcx⟩ := reads_row (HL.out.reads HR.out) (by omega)
      have hck := hcx k hlt
      have hq := HQ.out k hlt
      clear hcx
      obtain ⟨z, hz⟩ := Int.eq_ofNat_of_zero_le hq.1
      have hlen := HWL.out k
      rw [List.length_replicate] at hlen
      have hix : turIx q k = z := by rw [HIX.out, hz]; rfl
      have hst := HL.out.store (ts := []) hlen z ((n : Int) - 1 - k)
      rw [show (wrG (turIx q) (turVa n) (List.replicate n 0) k).set z ((n : Int) - 1 - k) = wrG (turIx q) (turVa n) (List.replicate n 0) (k + 1) from by rw [wrG, hix, HVA.out]] at hst
      have hO := HL.out.ownInts
      rw [show Value.slice (some ⟨w.heap.size, 0, none⟩) n n = .slice (some ⟨w.heap.size, 0, none⟩) (wrG (turIx q) (turVa n) (List.replicate n 0) k).length n by rw [hlen]] at hO
      have hcz := hO.cell z (by omega)
      have hfz := hO.free z
      have HS := Lib.hid hst
      rw [hz] at hck
      have hzn : (z : Int) < n := by omega
      have hw1 : wrap64 ((n : Int) - 1) = (n : Int) - 1 := IntWalk.wrap64_in _ (by omega)
      have hw2 : wrap64 ((n : Int) - 1 - k) = (n : Int) - 1 - k := IntWalk.wrap64_in _ (by omega)
      clear HL hst hO hlen hix hq hz
      generalize (wrG (turIx q) (turVa n) (List.replicate n 0) k).getD z 0 = old at *
      go_wp2_with fail
      clear hck hcz hfz
      go_roundw
      case rel => first | exact ⟨k + 1, by omega, by go_num, HS⟩ | ((repeat apply Exists.intro); exact ⟨⟨k + 1, by omega, by go_num, HS⟩, rfl⟩)
      case measure => simp [intOf]; omega
    · obtain rfl : k = n := by omega
      go_wp2_with fail
      go_ret
      exact ⟨_, rfl, by rw [HT.out]; exact HL.out.ownLo, HL.out.below⟩
set_option maxRecDepth 100000 in
set_option maxHeartbeats 6400000 in
theorem quMirror_any (n : Nat) (a : Option Addr) (cap : Nat) (q : List Int) (w : World) (h : RgB n q) (h8 : n ≤ 8) (hr : Reads w a q.length q) :
    Calls Try.prog 67 #[.slice a q.length cap] w fun e w' => ∃ s, e = .returned s ∧ Own w' w.heap.size s (mirL q) ∧ Below w.heap.size w w' := by
  have HR := Lib.hid hr
  have HQ := Lib.hid (fun k hk => h.at k hk)
  have HML := Lib.hid (show (mirL q).length = n by rw [mirL_len]; exact h.1)
  have HMG := Lib.hid (fun k (hk : k < n) => show (mirL q).take (k + 1) = (mirL q).take k ++ [(n : Int) - 1 - q.getD k 0] by
    have hl : k < (mirL q).length := by rw [mirL_len, h.1]; exact hk
    rw [List.take_succ_eq_append_getElem hl]
    have := mirL_get q k (by rw [h.1]; exact hk)
    rw [h.1] at this
    rw [← this]
    simp [List.getD, hl])
  have HOM := Lib.hid ((Law.start w).own (Below.refl _ _) (Own.nil _ _))
  rw [h.1] at HR ⊢
  clear hr h
  generalize mirL q = S at *
  go_enter Try.func67, Try.ntmps67
  go_wp2_with fail
  go_loopw [3, 8] (fun v i wr => ∃ k : Nat, k ≤ n ∧ i = .int .i64 k ∧ Law w [tOwn v (S.take k)] wr) (fun _ i _ => n - (intOf i).toNat)
  case atStart => exact ⟨0, Nat.zero_le _, rfl, HOM.out⟩
  case round =>
    clear HOM
    obtain ⟨k, hk, rfl, L⟩ := hrel
    obtain ⟨wo, rfl⟩ : ∃ wo : World, wo = wr := ⟨_, rfl⟩
    by_cases hlt : k < n
    · obtain ⟨b, off, rfl, _, hcx⟩ := reads_row (L.reads HR.out) (by omega)
      have hck := hcx k hlt
      have hq := HQ.out k hlt
      have hsu := HMG.out k hlt
      clear hcx
      have hkl : (S.take k).length = k := by rw [List.length_take, HML.out]; omega
      generalize q.getD k 0 = x at *
      have hw1 : wrap64 ((n : Int) - 1) = (n : Int) - 1 := IntWalk.wrap64_in _ (by omega)
      have hw2 : wrap64 ((n : Int) - 1 - x) = (n : Int) - 1 - x := IntWalk.wrap64_in _ (by omega)
      have L2 := L.kept (below_new (.cells #[.int .i64 ((n : Int) - 1 - x)] 3))
      have HX := Lib.hid (show (wo.alloc (.cells #[.int .i64 ((n : Int) - 1 - x)] 3)).cell? ⟨wo.heap.size, 0, none⟩ = some (.int .i64 ((n : Int) - 1 - x)) by rw [World.cell?_alloc_at _ _ _ _ rfl]; rfl)
      have HL2 := Lib.hid L2
      have HSN := Lib.hid hsu
      have HKL := Lib.hid hkl
      clear L L2 hsu hkl
      go_wp2_with (at_builtin; refine wp_appendI rfl _ _ rfl ((n : Int) - 1 - x) HL2.out wo.heap.size rfl rfl HX.out (by rw [HKL.out]; omega) (S.take (k + 1)) HSN.out.symm ?_)
      intro g1 cap1 w3 L3
      have HL3 := Lib.hid L3
      clear L3 HL2 HX hck
      go_wp2_with fail
      go_roundw
      case rel => first | exact ⟨k + 1, by omega, by go_num, HL3.out⟩ | ((repeat apply Exists.intro); exact ⟨⟨k + 1, by omega, by go_num, HL3.out⟩, rfl⟩)
      case measure => simp [intOf]; omega
    · obtain rfl : k = n := by omega
      have hst2 : S.take k = S := by rw [← HML.out, List.take_length]
      rw [hst2] at L
      have HL := Lib.hid L
      clear L hst2
      go_wp2_with fail
      go_ret
      exact ⟨_, rfl, HL.out.ownLo, HL.out.below⟩
set_option maxRecDepth 100000 in
set_option maxHeartbeats 3200000 in
theorem specTurQ_any (xs : List Int) (w : World) (hx : xs.length ≤ 1048576) (lo : Nat) (s : Value) (hO : Own w lo s xs) :
    Calls Try.prog 40 #[s] w fun e w' => AnsL (turR xs) w e w' := by
  obtain ⟨a, cap, rfl, hr, hcap⟩ := own_form hO
  have HG := Lib.hid (quGood_any a cap xs w hx hcap hr)
  clear hO hcap
  cases hg : gdB xs
  · rw [show turR xs = ⟨[], false⟩ by simp [turR, hg]]
    rw [hg] at HG
    clear hg hr
    generalize xs.length = m at *
    go_enter Try.func40, Try.ntmps40
    go_wp2_with (go_at_call 46; ((with_reducible refine HG.out.mono ?_); rintro e w' ⟨rfl, rfl⟩))
    go_ret2
    exact ⟨_, rfl, Own.nil _ _, Below.refl _ _⟩
  · rw [show turR xs = ⟨turnL xs, true⟩ by simp [turR, hg]]
    have HC := Lib.hid (quTurn_any xs.length a cap xs w (gd_rg hg) (gd_facts hg).1 (gd_facts hg).2.1 hr)
    rw [hg] at HG
    clear hg hr
    generalize turnL xs = S at *
    generalize xs.length = m at *
    go_enter Try.func40, Try.ntmps40
    go_wp2_with (first | (go_at_call 46; ((with_reducible refine HG.out.mono ?_); rintro e w' ⟨rfl, rfl⟩)) | fail)
    refine HC.out.mono ?_
    rintro e w2 ⟨v, rfl, hO, hb⟩
    have HO := Lib.hid hO
    have HB := Lib.hid hb
    clear hO hb HC
    go_wp2_with fail
    go_ret2
    exact ⟨_, rfl, HO.out, HB.out⟩
set_option maxRecDepth 100000 in
set_option maxHeartbeats 3200000 in
theorem implTurQ_any (xs : List Int) (w : World) (hx : xs.length ≤ 1048576) (lo : Nat) (s : Value) (hO : Own w lo s xs) :
    Calls Try.prog 41 #[s] w fun e w' => AnsL (turR xs) w e w' := by
  obtain ⟨a, cap, rfl, hr, hcap⟩ := own_form hO
  have HC := Lib.hid (fullOf_any a cap xs w hx hcap hr)
  clear hO hcap hr
  cases hg : gdB xs
  · rw [show turR xs = ⟨[], false⟩ by simp [turR, hg]]
    rw [linV_no (by rw [lin_full]; exact hg)] at HC
    clear hg
    generalize xs.length = m at *
    go_enter Try.func41, Try.ntmps41
    go_wp2_with fail
    refine HC.out.mono ?_
    rintro e w2 ⟨rfl, hb⟩
    have HL := Lib.hid (((Law.start w).kept hb).kept (below_new (.cells #[.int .i64 0, .int .i64 0, .int .i64 0, .int .i64 0, .int .i64 0, .int .i64 0, .int .i64 0, .int .i64 0, .int .i64 0] 46)))
    clear hb HC
    go_upto_region 2 with fail
    generalize w2.alloc _ = w3 at *
    go_wp2_with fail
    go_ret2
    exact ⟨_, rfl, Own.nil _ _, HL.out.below⟩
  · rw [show turR xs = ⟨turnL xs, true⟩ by simp [turR, hg]]
    rw [linV_yes (by rw [lin_full]; exact hg)] at HC
    have HT := Lib.hid (fun W => turned_any9 xs.length xs W (gd_rg hg) (gd_facts hg).1 (gd_facts hg).2.1)
    have hl8 := (gd_facts hg).2.1
    have HLI := Lib.hid (fun W => list_any xs.length (cF (turnL xs)) (turnL xs) W hl8 (by
      have h := col_cells (cF (turnL xs)) (turnL xs) (by rw [turnL_len]; exact hl8) (fun _ _ => rfl)
      rw [turnL_len] at h
      exact h))
    clear hg hl8
    generalize cF (turnL xs) = G at *
    generalize turnL xs = S at *
    generalize cF xs = F at *
    generalize xs.length = m at *
    go_enter Try.func41, Try.ntmps41
    go_wp2_with fail
    refine HC.out.mono ?_
    rintro e w2 ⟨rfl, hb⟩
    have HL := Lib.hid (((Law.start w).kept hb).has (ql m F) 46)
    rw [show w2.alloc (.cells (ql m F).toArray 46) = w2.alloc (.cells #[.int .i64 m, .int .i64 (F 0), .int .i64 (F 1), .int .i64 (F 2), .int .i64 (F 3), .int .i64 (F 4), .int .i64 (F 5), .int .i64 (F 6), .int .i64 (F 7)] 46) from rfl] at HL
    clear hb HC
    go_upto_region 2 with fail
    generalize w2.alloc _ = w3 at *
    obtain ⟨f0, f1, f2, f3, f4, f5, f6, f7, f8, _⟩ := ql_held HL.out.ownHas
    go_wp2_with fail
    refine (HT.out _).mono ?_
    rintro e w5 ⟨rfl, hb⟩
    have HL5 := Lib.hid (HL.out.kept hb)
    clear hb f0 f1 f2 f3 f4 f5 f6 f7 f8 HL HT
    go_wp2_with fail
    refine (HLI.out _).mono ?_
    rintro e w6 ⟨v, rfl, hO, hb⟩
    have HL6 := Lib.hid (HL5.out.own hb hO)
    clear hO hb HL5
    go_wp2_with fail
    go_ret2
    exact ⟨_, rfl, HL6.out.ownLo, HL6.out.below⟩
set_option maxRecDepth 100000 in
set_option maxHeartbeats 3200000 in
theorem specMirQ_any (xs : List Int) (w : World) (hx : xs.length ≤ 1048576) (lo : Nat) (s : Value) (hO : Own w lo s xs) :
    Calls Try.prog 42 #[s] w fun e w' => AnsL (mirR xs) w e w' := by
  obtain ⟨a, cap, rfl, hr, hcap⟩ := own_form hO
  have HG := Lib.hid (quGood_any a cap xs w hx hcap hr)
  clear hO hcap
  cases hg : gdB xs
  · rw [show mirR xs = ⟨[], false⟩ by simp [mirR, hg]]
    rw [hg] at HG
    clear hg hr
    generalize xs.length = m at *
    go_enter Try.func42, Try.ntmps42
    go_wp2_with (go_at_call 46; ((with_reducible refine HG.out.mono ?_); rintro e w' ⟨rfl, rfl⟩))
    go_ret2
    exact ⟨_, rfl, Own.nil _ _, Below.refl _ _⟩
  · rw [show mirR xs = ⟨mirL xs, true⟩ by simp [mirR, hg]]
    have HC := Lib.hid (quMirror_any xs.length a cap xs w (gd_rg hg) (gd_facts hg).2.1 hr)
    rw [hg] at HG
    clear hg hr
    generalize mirL xs = S at *
    generalize xs.length = m at *
    go_enter Try.func42, Try.ntmps42
    go_wp2_with (first | (go_at_call 46; ((with_reducible refine HG.out.mono ?_); rintro e w' ⟨rfl, rfl⟩)) | fail)
    refine HC.out.mono ?_
    rintro e w2 ⟨v, rfl, hO, hb⟩
    have HO := Lib.hid hO
    have HB := Lib.hid hb
    clear hO hb HC
    go_wp2_with fail
    go_ret2
    exact ⟨_, rfl, HO.out, HB.out⟩
set_option maxRecDepth 100000 in
set_option maxHeartbeats 3200000 in
theorem implMirQ_any (xs : List Int) (w : World) (hx : xs.length ≤ 1048576) (lo : Nat) (s : Value) (hO : Own w lo s xs) :
    Calls Try.prog 43 #[s] w fun e w' => AnsL (mirR xs) w e w' := by
  obtain ⟨a, cap, rfl, hr, hcap⟩ := own_form hO
  have HC := Lib.hid (fullOf_any a cap xs w hx hcap hr)
  clear hO hcap hr
  cases hg : gdB xs
  · rw [show mirR xs = ⟨[], false⟩ by simp [mirR, hg]]
    rw [linV_no (by rw [lin_full]; exact hg)] at HC
    clear hg
    generalize xs.length = m at *
    go_enter Try.func43, Try.ntmps43
    go_wp2_with fail
    refine HC.out.mono ?_
    rintro e w2 ⟨rfl, hb⟩
    have HL := Lib.hid (((Law.start w).kept hb).kept (below_new (.cells #[.int .i64 0, .int .i64 0, .int .i64 0, .int .i64 0, .int .i64 0, .int .i64 0, .int .i64 0, .int .i64 0, .int .i64 0] 46)))
    clear hb HC
    go_upto_region 2 with fail
    generalize w2.alloc _ = w3 at *
    go_wp2_with fail
    go_ret2
    exact ⟨_, rfl, Own.nil _ _, HL.out.below⟩
  · rw [show mirR xs = ⟨mirL xs, true⟩ by simp [mirR, hg]]
    rw [linV_yes (by rw [lin_full]; exact hg)] at HC
    have HT := Lib.hid (fun W => mirrored_any xs.length xs W (gd_rg hg) (gd_facts hg).2.1)
    have hl8 := (gd_facts hg).2.1
    have HLI := Lib.hid (fun W => list_any xs.length (cF (mirL xs)) (mirL xs) W hl8 (by
      have h := col_cells (cF (mirL xs)) (mirL xs) (by rw [mirL_len]; exact hl8) (fun _ _ => rfl)
      rw [mirL_len] at h
      exact h))
    clear hg hl8
    generalize cF (mirL xs) = G at *
    generalize mirL xs = S at *
    generalize cF xs = F at *
    generalize xs.length = m at *
    go_enter Try.func43, Try.ntmps43
    go_wp2_with fail
    refine HC.out.mono ?_
    rintro e w2 ⟨rfl, hb⟩
    have HL := Lib.hid (((Law.start w).kept hb).has (ql m F) 46)
    rw [show w2.alloc (.cells (ql m F).toArray 46) = w2.alloc (.cells #[.int .i64 m, .int .i64 (F 0), .int .i64 (F 1), .int .i64 (F 2), .int .i64 (F 3), .int .i64 (F 4), .int .i64 (F 5), .int .i64 (F 6), .int .i64 (F 7)] 46) from rfl] at HL
    clear hb HC
    go_upto_region 2 with fail
    generalize w2.alloc _ = w3 at *
    obtain ⟨f0, f1, f2, f3, f4, f5, f6, f7, f8, _⟩ := ql_held HL.out.ownHas
    go_wp2_with fail
    refine (HT.out _).mono ?_
    rintro e w5 ⟨rfl, hb⟩
    have HL5 := Lib.hid (HL.out.kept hb)
    clear hb f0 f1 f2 f3 f4 f5 f6 f7 f8 HL HT
    go_wp2_with fail
    refine (HLI.out _).mono ?_
    rintro e w6 ⟨v, rfl, hO, hb⟩
    have HL6 := Lib.hid (HL5.out.own hb hO)
    clear hO hb HL5
    go_wp2_with fail
    go_ret2
    exact ⟨_, rfl, HL6.out.ownLo, HL6.out.below⟩

end Go.Proofs.Ytmhlpaenfknofaa
