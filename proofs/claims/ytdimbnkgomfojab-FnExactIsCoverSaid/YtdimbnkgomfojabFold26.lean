import Derived.Test.YtdimbnkgomfojabFold25
import Derived.Test.YtdimbnkgomfojabFold19
import Derived.Test.YtdimbnkgomfojabFold20
import Derived.Deep.RegionHeld3
namespace Go.Proofs.Ytdimbnkgomfojab
open Go.RowKit Go.WideShapes

theorem or_ints (a b : Nat) (ha : a < 64) (hb : b < 64) : bits .or .i64 (a : Int) (b : Int) = ((a ||| b : Nat) : Int) := by
  have key : ∀ a : Fin 64, ∀ b : Fin 64, bits .or .i64 ((a : Nat) : Int) ((b : Nat) : Int) = (((a : Nat) ||| (b : Nat) : Nat) : Int) := by decide +kernel
  exact key ⟨a, ha⟩ ⟨b, hb⟩
theorem own_readsQ {w : World} {lo g n p : Nat} {xs : List Int} (h : Own w lo (.slice (some ⟨g, 0, none⟩) n p) xs) (hl : xs.length = n) : Reads w (some ⟨g, 0, none⟩) xs.length xs := by
  subst hl
  obtain ⟨a2, c2, e, h2⟩ := h.reads
  injection e with e1
  rw [e1]
  exact h2
/-- Rows of a list that are rows of a grid. -/
def rowsIn (R : List Int) : Prop := ∀ k, k < R.length → ∃ q : Nat, R.getD k 0 = (q : Int) ∧ q < 6
theorem rowsIn_of {R : List Int} {n : Nat} (hn : n ≤ 6) (h : ∀ r ∈ R, 0 ≤ r ∧ r < n) : rowsIn R := fun k hk => by
  have hm : R.getD k 0 ∈ R := by simp [List.getD, hk]
  have := h _ hm
  obtain ⟨q, hq⟩ := Int.eq_ofNat_of_zero_le this.1
  exact ⟨q, hq, by omega⟩
/-- Masks that are told for all rows. -/
def cutM (M : Nat → Int) (k : Nat) : Int := if k < 6 then M k else 0
theorem rowQ_lt (M : Nat → Int) (h : ∀ k, k < 6 → 0 ≤ M k ∧ M k < 64) (q : Nat) (hq : q < 6) : rowQ M q < 64 := by
  unfold rowQ
  rw [Int.toNat_natCast]
  have := h q hq
  omega
theorem orM_lt' (M : Nat → Int) (h : ∀ k, k < 6 → 0 ≤ M k ∧ M k < 64) (R : List Int) (hR : rowsIn R) (k : Nat) (hk : k ≤ R.length) : orM M (R.take k) < 64 := by
  induction k with
  | zero => simp [orM]
  | succ k ih =>
    rw [orM_take M R k hk]
    obtain ⟨q, hq, hq6⟩ := hR k hk
    rw [hq]
    exact Nat.or_lt_two_pow (n := 6) (ih (by omega)) (rowQ_lt M h q hq6)

set_option maxRecDepth 100000 in
set_option maxHeartbeats 1600000 in
theorem columnsIn_any (n m : Int) (M : Nat → Int) (a : Option Addr) (cap : Nat) (R : List Int) (w : World) (hx : R.length ≤ 1048576) (hr : Reads w a R.length R) (hR : rowsIn R) (hM : ∀ k, k < 6 → 0 ≤ M k ∧ M k < 64) :
    Calls Try.prog 79 #[gv n m M, .slice a R.length cap] w fun e w' => e = .returned (.int .i64 (orM M R : Nat)) ∧ Below w.heap.size w w' := by
  have L0 := (Law.start w).has (gl n m M) 68
  rw [show (gl n m M).toArray = #[.int .i64 n, .int .i64 m, .int .i64 (M 0), .int .i64 (M 1), .int .i64 (M 2), .int .i64 (M 3), .int .i64 (M 4), .int .i64 (M 5)] from rfl] at L0
  have hr0 := L0.reads hr
  have HH := Lib.hid L0
  have HRI := Lib.hid hR
  have HM := Lib.hid hM
  have HT : Hid (orM M R = orM M (R.take R.length)) := Lib.hid (by rw [List.take_length])
  clear L0 hr hR hM
  go_enter Try.func79, Try.ntmps79
  go_upto_region 1 with fail
  generalize w.alloc (.cells #[.int .i64 n, .int .i64 m, .int .i64 (M 0), .int .i64 (M 1), .int .i64 (M 2), .int .i64 (M 3), .int .i64 (M 4), .int .i64 (M 5)] 68) = w5 at *
  go_wp2_with fail
  go_loop [5, 10] (fun s i => ∃ k : Nat, k ≤ R.length ∧ i = .int .i64 k ∧ s = .int .i64 (orM M (R.take k) : Nat)) (fun _ i => R.length - (intOf i).toNat)
  case atStart => exact ⟨0, by omega, rfl, rfl⟩
  case round =>
    obtain ⟨k, hk, rfl, rfl⟩ := hrel
    by_cases hlt : k < R.length
    · obtain ⟨q, hq, hq6⟩ := HRI.out k hlt
      obtain ⟨b, off, rfl, hb, hc⟩ := reads_row hr0 (by omega)
      have hck := hc k hlt
      rw [hq] at hck
      have hce := HH.out.ownHas.cell (2 + q)
      rw [gl_get n m M q hq6] at hce
      have hs := orM_take M R k hlt
      rw [hq] at hs
      have ha := orM_lt' M HM.out R HRI.out k hk
      have hb2 := rowQ_lt M HM.out q hq6
      have hor := or_ints _ _ ha hb2
      rw [← hs] at hor
      have hMq : M q = ((rowQ M q : Nat) : Int) := by unfold rowQ; rw [Int.toNat_natCast]; have := HM.out q hq6; omega
      rw [hMq] at hce
      have hq0 : (0 : Int) ≤ q := by omega
      have hq1 : (q : Int) < 6 := by omega
      clear hs ha hb2 hMq hq hc
      obtain ⟨y2, hy2⟩ : ∃ y2, y2 = orM M (R.take (k + 1)) := ⟨_, rfl⟩
      rw [← hy2] at hor
      have HY2 := Lib.hid hy2
      clear hy2
      generalize orM M (R.take k) = y1 at *
      generalize rowQ M q = z at *
      go_wp2_with fail
      go_round
      case rel => exact ⟨k + 1, by omega, by go_num, by rw [HY2.out]⟩
      case measure => simp [intOf]; omega
    · obtain rfl : k = R.length := by omega
      have HB := Lib.hid HH.out.below
      rw [← HT.out]
      clear HH hr0
      go_wp2_with fail
      go_ret
      exact ⟨rfl, HB.out⟩

set_option maxRecDepth 100000 in
set_option maxHeartbeats 1600000 in
theorem excess_any (n m : Int) (M : Nat → Int) (a : Option Addr) (cap : Nat) (R : List Int) (w : World) (hx : R.length ≤ 1048576) (hr : Reads w a R.length R) (hR : rowsIn R) (hM : ∀ k, k < 6 → 0 ≤ M k ∧ M k < 64) :
    Calls Try.prog 82 #[gv n m M, .slice a R.length cap] w fun e w' => e = .returned (.int .i64 ((R.length : Int) - pop (orM M R : Nat))) ∧ Below w.heap.size w w' := by
  have L0 := (Law.start w).has (gl n m M) 68
  rw [show (gl n m M).toArray = #[.int .i64 n, .int .i64 m, .int .i64 (M 0), .int .i64 (M 1), .int .i64 (M 2), .int .i64 (M 3), .int .i64 (M 4), .int .i64 (M 5)] from rfl] at L0
  have hr0 := L0.reads hr
  have ho := orM_lt' M hM R hR R.length (Nat.le_refl _)
  rw [List.take_length] at ho
  have HC := Lib.hid (fun W (h : Reads W a R.length R) => columnsIn_any n m M a cap R W hx h hR hM)
  have hpb := pop_bd (orM M R : Nat)
  have HL := Lib.hid L0
  have HR0 := Lib.hid hr0
  clear hr hr0 L0 hR hM
  generalize orM M R = y at *
  go_enter Try.func82, Try.ntmps82
  go_upto_region 1 with fail
  generalize w.alloc (.cells #[.int .i64 n, .int .i64 m, .int .i64 (M 0), .int .i64 (M 1), .int .i64 (M 2), .int .i64 (M 3), .int .i64 (M 4), .int .i64 (M 5)] 68) = w5 at *
  obtain ⟨e0, e1, e2, e3, e4, e5, e6, e7, _⟩ := HL.out.ownHas.eight
  go_wp2_with fail
  refine (HC.out _ HR0.out).mono ?_
  rintro e w2 ⟨rfl, hb⟩
  have HB := Lib.hid (HL.out.kept hb).below
  clear HL hb HC HR0 e0 e1 e2 e3 e4 e5 e6 e7
  go_wp2_with fail
  refine (ones_any y _ ho).mono ?_
  rintro e w' ⟨rfl, rfl⟩
  obtain ⟨z, hz⟩ : ∃ z, z = pop (y : Nat) := ⟨_, rfl⟩
  rw [← hz] at hpb ⊢
  have HZ := Lib.hid hz
  clear hz
  go_wp2_with fail
  go_ret
  exact ⟨ret_int (by first | rfl | (rw [HZ.out])), HB.out⟩

set_option maxRecDepth 100000 in
set_option maxHeartbeats 1600000 in
theorem columnsOfMask_any (x : Nat) (w : World) (hx : x < 64) :
    Calls Try.prog 78 #[.int .i64 x] w fun e w' => ∃ v, e = .returned v ∧ Own w' w.heap.size v (colsM x) ∧ Below w.heap.size w w' := by
  obtain ⟨N, hN⟩ := Int.eq_ofNat_of_zero_le (pop_bd (x : Nat)).1
  have hN2 := (pop_bd (x : Nat)).2
  rw [hN] at hN2
  have hNl : N ≤ 6 := by omega
  have HN := Lib.hid hN
  have HF : Hid (colsM x = colsU x 6) := Lib.hid rfl
  clear hN hN2
  obtain ⟨i0, hi, hz0, hz1, hz2⟩ := info_parts Try.infoI
  go_enter Try.func78, Try.ntmps78
  go_wp2_with fail
  refine (ones_any x _ hx).mono ?_
  rintro e w' ⟨rfl, rfl⟩
  rw [HN.out]
  go_wp2_with (at_make; refine wpList_make_own _ rfl _ _ 22 rfl _ 3 i0 (.int .i64 0) 1 Try.underlying22 hi hz0 hz1 .i64 .i64 (N : Int) N rfl rfl rfl (by rw [hz2]; omega) (by unfold maxLen; omega) (Nat.le_refl _) ?_)
  intro w6 hown hg
  have L2 := (Law.start w).own ((Below.refl _ _).grown hg (Nat.le_refl _) (by simp)) (show Own w6 w.heap.size (.slice (some ⟨w.heap.size, 0, none⟩) 0 N) [] from hown)
  have HL2 := Lib.hid L2
  clear L2 hown hg hi hz0 hz1 hz2
  go_wp2_with fail
  go_loopw [3, 9] (fun v i wr => ∃ k : Nat, k ≤ 6 ∧ i = .int .i64 k ∧ Law w [tOwn v (colsU x k)] wr) (fun _ i _ => 6 - (intOf i).toNat)
  case atStart => exact ⟨0, by omega, rfl, HL2.out⟩
  case round =>
    clear HL2
    obtain ⟨k, hk, rfl, L⟩ := hrel
    by_cases hlt : k < 6
    · have hb := bit_at (x : Int) k ⟨by omega, by omega⟩ hlt
      rw [Int.toNat_natCast] at hb
      have hno := colsU_no x k
      have hyes := colsU_yes x k
      have hln := colsU_len x k
      have hk0 : (0 : Int) ≤ k := by omega
      have hk6 : (k : Int) < 6 := by omega
      have hk64 : (k : Int) < 64 := by omega
      cases hp : x.testBit k
      · rw [hp] at hb
        have HX := Lib.hid (hno hp)
        have HL := Lib.hid L
        clear L hp hno hyes
        go_wp2_with fail
        go_roundw
        case rel => exact ⟨k + 1, by omega, by go_num, by rw [HX.out]; exact HL.out⟩
        case measure => simp [intOf]; omega
      · rw [hp] at hb
        have HX := Lib.hid (hyes hp).symm
        have HL := Lib.hid (L.kept (below_new (.cells #[.int .i64 (k : Int)] 3)))
        have HC1 := Lib.hid (show (wr.alloc (.cells #[.int .i64 (k : Int)] 3)).cell? ⟨wr.heap.size, 0, none⟩ = some (.int .i64 (k : Int)) by simp)
        have hl2 : (colsU x k).length + 1 ≤ 1048576 := by omega
        clear L hp hno hyes
        go_wp2_with (at_builtin; refine wp_appendI rfl _ _ rfl (k : Int) HL.out wr.heap.size rfl rfl HC1.out hl2 _ HX.out ?_)
        intro g2 cp w3 L3
        have HL3 := Lib.hid L3
        clear L3 HL
        go_wp2_with fail
        go_roundw
        case rel => exact ⟨k + 1, by omega, by go_num, HL3.out⟩
        case measure => simp [intOf]; omega
    · obtain rfl : k = 6 := by omega
      have HL := Lib.hid L
      clear L
      go_wp2_with fail
      go_ret
      exact ⟨_, rfl, by rw [HF.out]; exact HL.out.ownLo, HL.out.below⟩

theorem zM_nil (M : Nat → Int) : zM M [] = M := by funext k; simp [zM, hasI]
theorem zM_take (M : Nat → Int) (R : List Int) (k q : Nat) (hk : k < R.length) (hq : R.getD k 0 = (q : Int)) : zM M (R.take (k + 1)) q = 0 ∧ ∀ p, p ≠ q → zM M (R.take (k + 1)) p = zM M (R.take k) p := by
  rw [take_snoc R k hk, hq]
  refine ⟨by unfold zM; rw [hasI_snoc]; simp, fun p hp => ?_⟩
  unfold zM
  rw [hasI_snoc, show ((q : Int) == (p : Int)) = false by rw [beq_eq_false_iff_ne]; omega, Bool.or_false]
theorem idx_rows (n : Nat) (hn : n ≤ 6) : rowsIn (idx0 n) := fun k hk => by
  unfold idx0 at *
  rw [lstI_len] at hk
  exact ⟨k, by rw [lstI_get _ _ _ hk], by omega⟩

set_option maxRecDepth 100000 in
set_option maxHeartbeats 3200000 in
theorem columnsBeside_any (n : Nat) (m : Int) (M : Nat → Int) (a : Option Addr) (cap : Nat) (R : List Int) (w : World) (hn : n ≤ 6) (hx : R.length ≤ 1048576) (hr : Reads w a R.length R) (hR : rowsIn R) (hM : ∀ k, k < 6 → 0 ≤ M k ∧ M k < 64) :
    Calls Try.prog 72 #[gv n m M, .slice a R.length cap] w fun e w' => e = .returned (.int .i64 (orM (zM M R) (idx0 n) : Nat)) ∧ Below w.heap.size w w' := by
  have L0 := (Law.start w).has (gl n m M) 68
  rw [show (gl n m M).toArray = #[.int .i64 n, .int .i64 m, .int .i64 (M 0), .int .i64 (M 1), .int .i64 (M 2), .int .i64 (M 3), .int .i64 (M 4), .int .i64 (M 5)] from rfl] at L0
  have hr0 := hr
  have HRI := Lib.hid hR
  have HT : Hid (zM M R = zM M (R.take R.length)) := Lib.hid (by rw [List.take_length])
  have HZ := Lib.hid (fun p k hk hq => zM_take M R k p hk hq)
  have HX := Lib.hid (fun W => indices_any n W (by omega))
  have hzb := zM_lt M R hM
  have HC := Lib.hid (fun (g : Nat) (W : World) (h : Own W 0 (.slice (some ⟨g, 0, none⟩) n n) (idx0 n)) => (by
    have hl : (idx0 n).length = n := lstI_len _ _
    have hrd : Reads W (some ⟨g, 0, none⟩) (idx0 n).length (idx0 n) := own_readsQ h hl
    have := columnsIn_any n m (zM M R) (some ⟨g, 0, none⟩) n (idx0 n) W (by omega) hrd (idx_rows n hn) hzb
    rw [hl] at this
    exact this : Calls Try.prog 79 #[gv n m (zM M R), .slice (some ⟨g, 0, none⟩) n n] W fun e w' => e = .returned (.int .i64 (orM (zM M R) (idx0 n) : Nat)) ∧ Below W.heap.size W w'))
  rw [← zM_nil M, show ([] : List Int) = R.take 0 from rfl] at L0
  have HL := Lib.hid L0
  have HRD := Lib.hid hr0
  rw [show R.take 0 = ([] : List Int) from rfl, zM_nil] at HL
  clear L0 hr hR hM hzb hr0
  obtain ⟨Z, hZ⟩ : ∃ Z, Z = zM M R := ⟨_, rfl⟩
  rw [← hZ] at HT HC ⊢
  clear hZ
  go_enter Try.func72, Try.ntmps72
  go_upto_region 1 with fail
  generalize w.alloc (.cells #[.int .i64 n, .int .i64 m, .int .i64 (M 0), .int .i64 (M 1), .int .i64 (M 2), .int .i64 (M 3), .int .i64 (M 4), .int .i64 (M 5)] 68) = w5 at *
  go_wp2_with fail
  go_loopw [9] (fun i wr => ∃ k : Nat, k ≤ R.length ∧ i = .int .i64 k ∧ Law w [tHas w.heap.size (gl n m (zM M (R.take k))) 68] wr) (fun i _ => R.length - (intOf i).toNat)
  case atStart => exact ⟨0, by omega, rfl, by rw [show R.take 0 = ([] : List Int) from rfl, zM_nil]; exact HL.out⟩
  case round =>
    clear HL
    obtain ⟨k, hk, rfl, L⟩ := hrel
    by_cases hlt : k < R.length
    · obtain ⟨q, hq, hq6⟩ := HRI.out k hlt
      have hr1 := L.reads HRD.out
      obtain ⟨b, off, rfl, hb, hc⟩ := reads_row hr1 (by omega)
      have hck := hc k hlt
      rw [hq] at hck
      have hce := L.ownHas.cell (2 + q)
      rw [gl_get n m _ q hq6] at hce
      have hfe := L.ownHas.free (2 + q)
      obtain ⟨z1, z2⟩ := HZ.out q k hlt hq
      have hS := Law.setHas (ts := []) L (2 + q) (.int .i64 0)
      rw [gl_set n m _ (zM M (R.take (k + 1))) q hq6 0 z1 (fun p hp => z2 p hp)] at hS
      have HS := Lib.hid hS
      have hq0 : (0 : Int) ≤ q := by omega
      have hq1 : (q : Int) < 6 := by omega
      clear L hS z1 z2 hq hc hr1
      go_wp2_with fail
      go_roundw
      case rel => exact ⟨k + 1, by omega, by go_num, HS.out⟩
      case measure => simp [intOf]; omega
    · obtain rfl : k = R.length := by omega
      rw [← HT.out] at L
      obtain ⟨e0, e1, e2, e3, e4, e5, e6, e7, _⟩ := L.drew.ownHas.eight
      have HL := Lib.hid L.drew
      clear L hlt HZ
      go_upto_region 6 with fail
      go_region_held3 (fun w' => w'.cell? ⟨w.heap.size, 0, none⟩ = some (.int .i64 n) ∧ w'.cell? ⟨w.heap.size, 1, none⟩ = some (.int .i64 m) ∧ w'.cell? ⟨w.heap.size, 2, none⟩ = some (.int .i64 (Z 0)) ∧ w'.cell? ⟨w.heap.size, 3, none⟩ = some (.int .i64 (Z 1)) ∧ w'.cell? ⟨w.heap.size, 4, none⟩ = some (.int .i64 (Z 2)) ∧ w'.cell? ⟨w.heap.size, 5, none⟩ = some (.int .i64 (Z 3)) ∧ w'.cell? ⟨w.heap.size, 6, none⟩ = some (.int .i64 (Z 4)) ∧ w'.cell? ⟨w.heap.size, 7, none⟩ = some (.int .i64 (Z 5))) (first | (repeat' apply And.intro) <;> first | with_reducible assumption | assumption | exact cell_later (below_new _) (by assumption)) ((first
        | (go_at_call 106; ((with_reducible refine (HX.out _).mono ?_); rintro e wA ⟨gi, rfl, hOI, hbI⟩; replace HL := Lib.hid (HL.out.own hbI hOI); replace e0 := cell_later hbI e0; replace e1 := cell_later hbI e1; replace e2 := cell_later hbI e2; replace e3 := cell_later hbI e3; replace e4 := cell_later hbI e4; replace e5 := cell_later hbI e5; replace e6 := cell_later hbI e6; replace e7 := cell_later hbI e7; clear hOI hbI))
        | (go_at_call 79; ((with_reducible refine (HC.out gi _ HL.out.ownInts).mono ?_); rintro e wB ⟨rfl, hbI⟩; replace HL := Lib.hid (HL.out.kept hbI); replace e0 := cell_later hbI e0; replace e1 := cell_later hbI e1; replace e2 := cell_later hbI e2; replace e3 := cell_later hbI e3; replace e4 := cell_later hbI e4; replace e5 := cell_later hbI e5; replace e6 := cell_later hbI e6; replace e7 := cell_later hbI e7; clear hbI))
        | fail))
      all_goals
        have HB := Lib.hid HL.out.below
        clear HL HC HX e0 e1 e2 e3 e4 e5 e6 e7
        go_wp2_with fail
        go_ret
        exact ⟨rfl, HB.out⟩

end Go.Proofs.Ytdimbnkgomfojab
