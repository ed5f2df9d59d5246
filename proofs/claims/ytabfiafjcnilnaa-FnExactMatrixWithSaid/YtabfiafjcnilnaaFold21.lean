import Derived.Test.YtabfiafjcnilnaaFold16
import Derived.Test.YtabfiafjcnilnaaFold17
import Derived.Test.YtabfiafjcnilnaaFold20
import Derived.Laws.Rows
import Derived.Laws.CopyOwn
namespace Go.Proofs.Ytabfiafjcnilnaa
open Go.RowKit Go.WideShapes

theorem results_cell_two {P : Program} {fn : Func} {p q : Tmp} {ty : TypeId} (h : fn.results = #[.cell p ty, .tmp q]) (tmps : Array Value) (w : World) (g : Nat) (t : TypeId) (cs : Array Value) (fr : Nat × Nat) (d : TypeDesc)
    (hp : tmps.getD p undef = .pointer (some ⟨g, 0, none⟩)) (hg : w.heap[g]? = some (.cells cs t fr))
    (hu : P.underlying ty = some d) (hd : (match d with | .struct _ | .array _ _ => true | _ => false) = true) (hi : (P.info? ty).map (·.size) = some cs.size) :
    (results fn tmps).run P w = .ok (.tuple #[.agg cs, tmps.getD q undef]) w := by
  have hp' : tmps[p]?.getD undef = .pointer (some ⟨g, 0, none⟩) := by simpa using hp
  simp [results, h, hp', asAddr, run_loadVar_row w g t ty cs fr d hg hu hd hi]
theorem Law.setRowH {w0 w : World} {ts ts' : List Thing} {b : Nat} {cs ds : List Value} {t : TypeId} (h : Law w0 (ts ++ tHas b cs t :: ts') w) : Law w0 (ts ++ tHas b ds t :: ts') (w.setRow b ds.toArray) := by
  have hh : Has w b cs t := h.holds (tHas b cs t) (by simp)
  exact h.write (t := tHas b cs t) (Chg.setRow w b ds.toArray rfl) (tHas b ds t) rfl (setRow_heap w b _ _ t (0, 0) hh)

theorem splice_get {α : Type} (L : List α) (off : Nat) (cs : List α) (h : off + cs.length ≤ L.length) (i : Nat) : (splice L off cs)[i]? = if i < off then L[i]? else if i < off + cs.length then cs[i - off]? else L[i]? := by
  unfold splice
  by_cases h1 : i < off
  · rw [if_pos h1, List.getElem?_append_left (by simp; omega), List.getElem?_take, if_pos h1]
  · rw [if_neg h1, List.getElem?_append_right (by simp; omega)]
    have e : (L.take off).length = off := by simp; omega
    rw [e]
    by_cases h2 : i < off + cs.length
    · rw [if_pos h2, List.getElem?_append_left (by omega)]
    · rw [if_neg h2, List.getElem?_append_right (by omega), List.getElem?_drop]
      congr 1
      omega
theorem ml_len (n c : Int) (R : Nat → Int) : (ml n c R).length = 38 := rfl
/-- The numbers when the first k lists are laid. -/
def mxR (L : List (List Int)) (k : Nat) : Nat → Int := fun i => if i / 6 < k then (L.getD (i / 6) []).getD (i % 6) 0 else 0
theorem mxR_zero (L : List (List Int)) : mxR L 0 = fun _ => 0 := by funext i; simp [mxR]
theorem mx_splice (n c : Int) (L : List (List Int)) (k : Nat) (hk : k < 6) (hl : (L.getD k []).length ≤ 6) : splice (ml n c (mxR L k)) (2 + k * 6) ((L.getD k []).map (Value.int .i64)) = ml n c (mxR L (k + 1)) := by
  refine List.ext_getElem? (fun i => ?_)
  rw [splice_get _ _ _ (by rw [ml_len, List.length_map]; omega), List.length_map]
  by_cases h38 : i < 38
  · by_cases h0 : i = 0
    · subst h0; rw [if_pos (by omega)]; rfl
    · by_cases h1 : i = 1
      · subst h1; rw [if_pos (by omega)]; rfl
      · obtain ⟨j, rfl⟩ : ∃ j, i = 2 + j := ⟨i - 2, by omega⟩
        rw [ml_get n c _ j (by omega), ml_get n c _ j (by omega)]
        unfold mxR
        by_cases h2 : 2 + j < 2 + k * 6
        · rw [if_pos h2, if_pos (show j / 6 < k by omega), if_pos (show j / 6 < k + 1 by omega)]
        · rw [if_neg h2]
          by_cases h3 : 2 + j < 2 + k * 6 + (L.getD k []).length
          · rw [if_pos h3, if_pos (show j / 6 < k + 1 by omega), show j / 6 = k by omega, show 2 + j - (2 + k * 6) = j % 6 by omega]
            rw [List.getElem?_map, List.getD_eq_getElem?_getD (l := L.getD k []), List.getElem?_eq_getElem (show j % 6 < (L.getD k []).length by omega)]
            rfl
          · rw [if_neg h3, if_neg (show ¬ j / 6 < k by omega)]
            by_cases h4 : j / 6 < k + 1
            · rw [if_pos h4, show j / 6 = k by omega, List.getD_eq_getElem?_getD (l := L.getD k []), List.getElem?_eq_none (show (L.getD k []).length ≤ j % 6 by omega)]
              rfl
            · rw [if_neg h4]
  · rw [if_neg (by omega), if_neg (by omega), List.getElem?_eq_none (by rw [ml_len]; omega), List.getElem?_eq_none (by rw [ml_len]; omega)]
theorem mxR_at (L : List (List Int)) (k r j : Nat) (hr : r < k) (hj : j < 6) : mxR L k (6 * r + j) = (L.getD r []).getD j 0 := by
  unfold mxR
  rw [if_pos (by omega), show (6 * r + j) / 6 = r by omega, show (6 * r + j) % 6 = j by omega]

/-- What matrixOf answers. -/
def mxV (L : List (List Int)) (q : Int) : Value := .tuple #[if rowsB L q then mv L.length (L.getD 0 []).length (mxR L L.length) else mv 0 0 (fun _ => 0), .bool (rowsB L q)]
theorem mxV_no {L : List (List Int)} {q : Int} (h : rowsB L q = false) : mxV L q = .tuple #[mv 0 0 (fun _ => 0), .bool false] := by simp [mxV, h]
theorem mxV_yes {L : List (List Int)} {q : Int} (h : rowsB L q = true) : mxV L q = .tuple #[mv L.length (L.getD 0 []).length (mxR L L.length), .bool true] := by simp [mxV, h]
theorem rowM_of {W : World} {lo : Nat} {a : Option Addr} {cap : Nat} {vs : List Value} {rss : List (List Int)} (h : OwnM W lo (.slice a rss.length cap) vs rss) (k : Nat) (hk : k < rss.length) :
    ∃ g, a = some ⟨g, 0, none⟩ ∧ ∃ ax px, W.cell? ⟨g, k, none⟩ = some (.slice ax rss[k].length px) ∧ Reads W ax rss[k].length rss[k] := by
  have hl := h.len
  have hkv : k < vs.length := by omega
  have hrow := h.row k hkv
  obtain ⟨a', cap', hv, hc⟩ := h.form
  obtain ⟨g, ha, c0⟩ := hc k hkv
  injection hv with e1 e2 e3
  obtain ⟨ax, px, hvx, hr⟩ := hrow.reads
  rw [hvx] at c0
  exact ⟨g, by rw [e1, ha], ax, px, c0, hr⟩
theorem rowM_at {W : World} {lo g : Nat} {cap : Nat} {vs : List Value} {rss : List (List Int)} (h : OwnM W lo (.slice (some ⟨g, 0, none⟩) rss.length cap) vs rss) (k : Nat) (hk : k < rss.length) :
    ∃ ax px, W.cell? ⟨g, k, none⟩ = some (.slice ax rss[k].length px) ∧ Reads W ax rss[k].length rss[k] := by
  obtain ⟨g', e, h2⟩ := rowM_of h k hk
  injection e with e
  injection e with e
  subst e
  exact h2
theorem has_new38 (w : World) (t : TypeId) : (w.alloc (.cells #[.int .i64 0, .int .i64 0, .int .i64 0, .int .i64 0, .int .i64 0, .int .i64 0, .int .i64 0, .int .i64 0, .int .i64 0, .int .i64 0, .int .i64 0, .int .i64 0, .int .i64 0, .int .i64 0, .int .i64 0, .int .i64 0, .int .i64 0, .int .i64 0, .int .i64 0, .int .i64 0, .int .i64 0, .int .i64 0, .int .i64 0, .int .i64 0, .int .i64 0, .int .i64 0, .int .i64 0, .int .i64 0, .int .i64 0, .int .i64 0, .int .i64 0, .int .i64 0, .int .i64 0, .int .i64 0, .int .i64 0, .int .i64 0, .int .i64 0, .int .i64 0] t)).heap[w.heap.size]? = some (.cells #[.int .i64 0, .int .i64 0, .int .i64 0, .int .i64 0, .int .i64 0, .int .i64 0, .int .i64 0, .int .i64 0, .int .i64 0, .int .i64 0, .int .i64 0, .int .i64 0, .int .i64 0, .int .i64 0, .int .i64 0, .int .i64 0, .int .i64 0, .int .i64 0, .int .i64 0, .int .i64 0, .int .i64 0, .int .i64 0, .int .i64 0, .int .i64 0, .int .i64 0, .int .i64 0, .int .i64 0, .int .i64 0, .int .i64 0, .int .i64 0, .int .i64 0, .int .i64 0, .int .i64 0, .int .i64 0, .int .i64 0, .int .i64 0, .int .i64 0, .int .i64 0] t (0, 0)) := heap_alloc_new w _
theorem zer_has {w : World} {b : Nat} {t : TypeId} (h : Has w b (ml 0 0 (fun _ => 0)) t) : w.heap[b]? = some (.cells #[.int .i64 0, .int .i64 0, .int .i64 0, .int .i64 0, .int .i64 0, .int .i64 0, .int .i64 0, .int .i64 0, .int .i64 0, .int .i64 0, .int .i64 0, .int .i64 0, .int .i64 0, .int .i64 0, .int .i64 0, .int .i64 0, .int .i64 0, .int .i64 0, .int .i64 0, .int .i64 0, .int .i64 0, .int .i64 0, .int .i64 0, .int .i64 0, .int .i64 0, .int .i64 0, .int .i64 0, .int .i64 0, .int .i64 0, .int .i64 0, .int .i64 0, .int .i64 0, .int .i64 0, .int .i64 0, .int .i64 0, .int .i64 0, .int .i64 0, .int .i64 0] t (0, 0)) := h
theorem ml_has {w : World} {b : Nat} {t : TypeId} {n c : Int} {M : Nat → Int} (h : Has w b (ml n c M) t) : w.heap[b]? = some (.cells #[.int .i64 n, .int .i64 c, .int .i64 (M 0), .int .i64 (M 1), .int .i64 (M 2), .int .i64 (M 3), .int .i64 (M 4), .int .i64 (M 5), .int .i64 (M 6), .int .i64 (M 7), .int .i64 (M 8), .int .i64 (M 9), .int .i64 (M 10), .int .i64 (M 11), .int .i64 (M 12), .int .i64 (M 13), .int .i64 (M 14), .int .i64 (M 15), .int .i64 (M 16), .int .i64 (M 17), .int .i64 (M 18), .int .i64 (M 19), .int .i64 (M 20), .int .i64 (M 21), .int .i64 (M 22), .int .i64 (M 23), .int .i64 (M 24), .int .i64 (M 25), .int .i64 (M 26), .int .i64 (M 27), .int .i64 (M 28), .int .i64 (M 29), .int .i64 (M 30), .int .i64 (M 31), .int .i64 (M 32), .int .i64 (M 33), .int .i64 (M 34), .int .i64 (M 35)] t (0, 0)) := h
theorem zer_tail {w0 w : World} {ts : List Thing} {b : Nat} {t : TypeId} (h : Law w0 (ts ++ [tHas b (ml 0 0 (fun _ => 0)) t]) w) : w.heap[b]? = some (.cells #[.int .i64 0, .int .i64 0, .int .i64 0, .int .i64 0, .int .i64 0, .int .i64 0, .int .i64 0, .int .i64 0, .int .i64 0, .int .i64 0, .int .i64 0, .int .i64 0, .int .i64 0, .int .i64 0, .int .i64 0, .int .i64 0, .int .i64 0, .int .i64 0, .int .i64 0, .int .i64 0, .int .i64 0, .int .i64 0, .int .i64 0, .int .i64 0, .int .i64 0, .int .i64 0, .int .i64 0, .int .i64 0, .int .i64 0, .int .i64 0, .int .i64 0, .int .i64 0, .int .i64 0, .int .i64 0, .int .i64 0, .int .i64 0, .int .i64 0, .int .i64 0] t (0, 0)) := (h.holds (tHas b (ml 0 0 (fun _ => 0)) t) (by simp))
set_option maxRecDepth 100000 in
set_option maxHeartbeats 12800000 in
theorem matrixOf_any (L : List (List Int)) (q : Nat) (T : TypeId) (fs : FuncId) (hT : ∀ w : World, (method 197 T (.agg #[]) "loop.example/g01125/impl.size").run Try.prog w = .ok (fs, .agg #[]) w) (hF : ∀ w : World, (callFunc fs #[.agg #[]]).run Try.prog w = .ok (.enter fs #[.agg #[]]) w) (hS : ∀ w : World, Calls Try.prog fs #[.agg #[]] w fun e w' => e = .returned (.int .i64 q) ∧ Below w.heap.size w w')
    (w : World) (hl : L.length ≤ 1048576) (lo : Nat) (s : Value) (vs : List Value) (hO : OwnM w lo s vs L) :
    Calls Try.prog 33 #[s, .iface T (.agg #[])] w fun e w' => e = .returned (mxV L q) ∧ Below w.heap.size w w' := by
  obtain ⟨av, pv, rfl⟩ := hO.formR
  have L0 := (Law.start w).has (ml 0 0 (fun _ => 0)) 55
  rw [show w.alloc (.cells (ml 0 0 (fun _ => 0)).toArray 55) = w.alloc (.cells #[.int .i64 0, .int .i64 0, .int .i64 0, .int .i64 0, .int .i64 0, .int .i64 0, .int .i64 0, .int .i64 0, .int .i64 0, .int .i64 0, .int .i64 0, .int .i64 0, .int .i64 0, .int .i64 0, .int .i64 0, .int .i64 0, .int .i64 0, .int .i64 0, .int .i64 0, .int .i64 0, .int .i64 0, .int .i64 0, .int .i64 0, .int .i64 0, .int .i64 0, .int .i64 0, .int .i64 0, .int .i64 0, .int .i64 0, .int .i64 0, .int .i64 0, .int .i64 0, .int .i64 0, .int .i64 0, .int .i64 0, .int .i64 0, .int .i64 0, .int .i64 0] 55) from rfl] at L0
  have HL := Lib.hid L0
  have HO := Lib.hid hO
  have HS := Lib.hid hS
  clear hS
  have HI := Lib.hid (fun x W => isSide_any x W)
  obtain ⟨R, hR⟩ : ∃ R, R = mxV L q := ⟨_, rfl⟩
  rw [← hR]
  have HR := Lib.hid hR
  have HNO := Lib.hid (fun h => mxV_no (L := L) (q := (q : Int)) h)
  clear L0 hO hR
  cases h1 : inB 1 L.length 6
  · obtain rfl : R = .tuple #[mv 0 0 (fun _ => 0), .bool false] := HR.out.trans (HNO.out (by simp [rowsB, h1]))
    have HI1 := Lib.hid (fun W => at_boolV (HI.out L.length W) h1)
    clear h1 HO hl
    generalize L.length = l at *
    go_enter Try.func33, Try.ntmps33
    go_upto_region 1 with fail
    generalize w.alloc _ = w1 at *
    have hz := zer_tail (ts := []) HL.out
    have HB := Lib.hid (And.intro HL.out.below HL.out.ownHas.lt)
    go_wp2_with (first | (go_at_call 51; ((with_reducible refine (HI1.out _).mono ?_); rintro e w' ⟨rfl, rfl⟩)) | (refine wpList_store_row rfl 55 _ _ rfl _ _ rfl rfl _ _ hz (by kernel_rfl) rfl (by kernel_rfl) ?_))
    refine bodyPost_ret (results_cell_two (p := 4) (q := 5) (by kernel_rfl) _ _ w.heap.size 55 _ (0, 0) _ rfl (setRow_heap _ _ _ _ _ _ hz) Try.underlying55 rfl (by kernel_rfl)) rfl ⟨rfl, ?_⟩
    exact HB.out.1.trans (below_setRow (Below.refl _ _) (Nat.le_refl _) _)
  · have hb := inB_iff.1 h1
    have h0r : 0 < L.length := by omega
    obtain ⟨g, rfl, a0, p0, c0, hr0⟩ := rowM_of HO.out 0 h0r
    clear a0 p0 c0 hr0
    obtain ⟨n, hn⟩ : ∃ n, n = (L.getD 0 []).length := ⟨_, rfl⟩
    have e0 : (L[0]'h0r).length = n := by rw [hn, List.getD_eq_getElem?_getD, List.getElem?_eq_getElem h0r]; rfl
    have HI1 := Lib.hid (fun W => at_boolV (HI.out L.length W) h1)
    have hlen : (0 : Int) < L.length := by omega
    have hlen6 : (L.length : Int) ≤ 6 := hb.2
    cases h2 : inB 1 n 6
    · obtain rfl : R = .tuple #[mv 0 0 (fun _ => 0), .bool false] := HR.out.trans (HNO.out (by unfold rowsB; rw [← hn, h2, Bool.false_and, Bool.and_false]))
      have HI2 := Lib.hid (fun W => at_boolV (HI.out n W) h2)
      have HR0 : Hid (∀ (W : World) (lo : Nat) (vs : List Value), OwnM W lo (.slice (some ⟨g, 0, none⟩) L.length pv) vs L → ∃ ax px, W.cell? ⟨g, 0, none⟩ = some (.slice ax n px)) := fun W lo vs h => by obtain ⟨ax, px, c, _⟩ := rowM_at h 0 h0r; rw [e0] at c; exact ⟨ax, px, c⟩
      clear h1 hl hn h2 e0 h0r hb
      go_enter Try.func33, Try.ntmps33
      go_upto_region 1 with fail
      generalize w.alloc _ = w1 at *
      have hz := zer_tail (ts := []) HL.out
      have HB := Lib.hid (And.intro HL.out.below HL.out.ownHas.lt)
      obtain ⟨a0, p0, c0⟩ := HR0.out w1 lo vs (HO.out.keptR HL.out.below)
      go_wp2_with (first | (go_at_call 51; ((with_reducible refine (HI1.out _).mono ?_); rintro e w' ⟨rfl, rfl⟩)) | (go_at_call 51; ((with_reducible refine (HI2.out _).mono ?_); rintro e w' ⟨rfl, rfl⟩)) | (refine wpList_store_row rfl 55 _ _ rfl _ _ rfl rfl _ _ hz (by kernel_rfl) rfl (by kernel_rfl) ?_))
      refine bodyPost_ret (results_cell_two (p := 4) (q := 5) (by kernel_rfl) _ _ w.heap.size 55 _ (0, 0) _ rfl (setRow_heap _ _ _ _ _ _ hz) Try.underlying55 rfl (by kernel_rfl)) rfl ⟨rfl, ?_⟩
      exact HB.out.1.trans (below_setRow (Below.refl _ _) (Nat.le_refl _) _)
    · have HI2 := Lib.hid (fun W => at_boolV (HI.out n W) h2)
      have hrb : rowsB L q = rowsOk n q L := by unfold rowsB; rw [← hn, h1, h2, Bool.true_and, Bool.true_and]
      have HNO2 := Lib.hid (fun h => HR.out.trans (HNO.out (hrb.trans h)))
      have HYES := Lib.hid (fun h => HR.out.trans (mxV_yes (L := L) (q := (q : Int)) (hrb.trans h)))
      rw [← hn] at HYES
      obtain ⟨M, hM⟩ : ∃ M, M = mxR L L.length := ⟨_, rfl⟩
      rw [← hM] at HYES
      have HMM := Lib.hid hM
      clear hM
      have HR0 : Hid (∀ (W : World) (lo : Nat) (vs : List Value), OwnM W lo (.slice (some ⟨g, 0, none⟩) L.length pv) vs L → ∃ ax px, W.cell? ⟨g, 0, none⟩ = some (.slice ax n px)) := fun W lo vs h => by obtain ⟨ax, px, c, _⟩ := rowM_at h 0 h0r; rw [e0] at c; exact ⟨ax, px, c⟩
      have hb2 := inB_iff.1 h2
      have HN6 := Lib.hid hb2
      clear h1 hl hn h2 e0 h0r hb hb2 HR HNO hrb HI
      go_enter Try.func33, Try.ntmps33
      go_upto_region 1 with fail
      generalize w.alloc _ = w1 at *
      have HK := Lib.hid HL.out.below
      obtain ⟨a0, p0, c0⟩ := HR0.out w1 lo vs (HO.out.keptR HL.out.below)
      have hl1 := HL.out.ownHas.lt
      have hs1 : w1.heap.size ≠ w.heap.size := by omega
      have L2 := Law.setRowH (ts := []) (ts' := [tHas w.heap.size (ml 0 0 (fun _ => 0)) 55]) (HL.out.has (ml 0 0 (fun _ => 0)) 55) (ds := ml L.length n (fun _ => 0))
      have HL2 := Lib.hid L2
      clear L2
      go_upto_region 3 with (first | (go_at_call 51; ((with_reducible refine (HI1.out _).mono ?_); rintro e w' ⟨rfl, rfl⟩)) | (go_at_call 51; ((with_reducible refine (HI2.out _).mono ?_); rintro e w' ⟨rfl, rfl⟩)))
      go_wp2_with (refine wpList_store_row rfl 55 _ _ rfl _ _ rfl rfl _ _ (has_new38 _ _) (by kernel_rfl) rfl (by kernel_rfl) ?_)
      go_loopw [33] (fun i wr => ∃ k : Nat, k ≤ L.length ∧ i = .int .i64 k ∧ Hid (rowsOk n q (L.take k) = true) ∧ Hid (Has wr w1.heap.size (ml L.length n (mxR L k)) 55) ∧ Hid (Has wr w.heap.size (ml 0 0 (fun _ => 0)) 55) ∧ Hid (Below w.heap.size w wr)) (fun i _ => L.length - (intOf i).toNat)
      case atStart => exact ⟨0, Nat.zero_le _, rfl, (rfl : rowsOk n q (L.take 0) = true), by rw [mxR_zero]; exact HL2.out.hd, HL2.out.tl.hd, HL2.out.below⟩
      case round =>
        obtain ⟨k, hk, rfl, HG, HM, HZ, HB⟩ := hrel
        by_cases hlt : k < L.length
        · obtain ⟨ax, px, ck, hrk⟩ := rowM_at (HO.out.keptR HB.out) k hlt
          have hyes := rowsOk_next n q L k hlt HG.out
          have hno := rowsOk_no n q L k hlt
          obtain ⟨x, hx⟩ : ∃ x, x = L.getD k [] := ⟨_, rfl⟩
          have ex : L[k] = x := by rw [hx, List.getD_eq_getElem?_getD, List.getElem?_eq_getElem hlt]; rfl
          rw [ex] at ck hrk hyes hno
          have m1 : wr.cell? ⟨w1.heap.size, 1, none⟩ = some (.int .i64 n) := HM.out.cell 1
          have HX := Lib.hid hx
          clear hx ex
          by_cases hxn : x.length = n
          · have hne : ((x.length : Int) != (n : Int)) = false := by simp [hxn]
            have HRK := Lib.hid hrk
            have HYS := Lib.hid hyes
            have HNS := Lib.hid hno
            have HXN := Lib.hid hxn
            clear hrk hyes hno hxn
            have hxl : x.length ≤ 1048576 := by have := HN6.out; have := HXN.out; omega
            go_wp2_with fail
            go_loopw [46] (fun i w2 => ∃ j : Nat, j ≤ x.length ∧ i = .int .i64 j ∧ Hid (within 0 ((q : Int) - 1) (x.take j) = true) ∧ Hid (Below wr.heap.size wr w2)) (fun i _ => x.length - (intOf i).toNat)
            case atStart => exact ⟨0, Nat.zero_le _, rfl, (rfl : within 0 ((q : Int) - 1) (x.take 0) = true), Below.refl _ _⟩
            case round =>
              obtain ⟨j, hj, rfl, HGj, HBj⟩ := hrel
              rename World => w2
              have HZ2 := Lib.hid (HZ.out.kept HBj.out HZ.out.lt)
              have HB2 := Lib.hid (below_on HB.out HBj.out)
              by_cases hjl : j < x.length
              · obtain ⟨b, off, e, hbl, hc⟩ := reads_row (HRK.out.kept HBj.out) (by omega)
                subst e
                have cj := hc j hjl
                have hns := within_no 0 ((q : Int) - 1) x j hjl
                have hys := within_upto 0 ((q : Int) - 1) x j hjl HGj.out
                clear hc hbl
                generalize x.getD j 0 = y at *
                have HYJ := Lib.hid hys
                by_cases hy0 : y < 0
                · obtain rfl := HNO2.out (HNS.out (by simp [rowOk, hns (by omega)]))
                  have hz := zer_has HZ2.out
                  clear hns hys
                  go_wp2_with (refine wpList_store_row rfl 55 _ _ rfl _ _ rfl rfl _ _ hz (by kernel_rfl) rfl (by kernel_rfl) ?_)
                  try simp only [Exit.inBlock, Exit.then]
                  refine bodyPost_ret (results_cell_two (p := 4) (q := 5) (by kernel_rfl) _ _ w.heap.size 55 _ (0, 0) _ rfl (setRow_heap _ _ _ _ _ _ hz) Try.underlying55 rfl (by kernel_rfl)) rfl ⟨rfl, ?_⟩
                  exact HB2.out.trans (below_setRow (Below.refl _ _) (Nat.le_refl _) _)
                · have HNY := Lib.hid hns
                  clear hns hys
                  go_wp2_with fail
                  refine (HS.out _).mono ?_
                  rintro e w3 ⟨rfl, hb3⟩
                  have HB3 := Lib.hid (below_on HBj.out hb3)
                  have HZ3 := Lib.hid (HZ2.out.kept hb3 HZ2.out.lt)
                  clear hb3 cj
                  by_cases hyq : (q : Int) ≤ y
                  · obtain rfl := HNO2.out (HNS.out (by simp [rowOk, HNY.out (by omega)]))
                    have hz := zer_has HZ3.out
                    go_wp2_with (refine wpList_store_row rfl 55 _ _ rfl _ _ rfl rfl _ _ hz (by kernel_rfl) rfl (by kernel_rfl) ?_)
                    try simp only [Exit.inBlock, Exit.then]
                    refine bodyPost_ret (results_cell_two (p := 4) (q := 5) (by kernel_rfl) _ _ w.heap.size 55 _ (0, 0) _ rfl (setRow_heap _ _ _ _ _ _ hz) Try.underlying55 rfl (by kernel_rfl)) rfl ⟨rfl, ?_⟩
                    exact (below_on HB.out HB3.out).trans (below_setRow (Below.refl _ _) (Nat.le_refl _) _)
                  · go_wp2_with fail
                    go_roundw
                    case rel => exact ⟨j + 1, by omega, by go_num, HYJ.out (by omega), HB3.out⟩
                    case measure => simp [intOf]; omega
              · obtain rfl : j = x.length := by omega
                have hw := HGj.out
                rw [List.take_length] at hw
                have HYK := Lib.hid (HYS.out (by simp [rowOk, hw, HXN.out]))
                have HM2 := Lib.hid (HM.out.kept HBj.out HM.out.lt).row
                have HRK2 := Lib.hid (HRK.out.kept HBj.out)
                have hx6 : x.length ≤ 6 := by have := HN6.out; have := HXN.out; omega
                have hk6 : k < 6 := by omega
                have hcp : 0 < (x.map (Value.int .i64)).length → ∃ ad, ax = some ad ∧ ∀ j v, (x.map (Value.int .i64))[j]? = some v → w2.cell? (ad.add j) = some v := by
                  intro h0
                  obtain ⟨b, off, rfl, hlt, hcc⟩ := reads_row HRK2.out (by simpa using h0)
                  refine ⟨_, rfl, fun j v hj => ?_⟩
                  obtain ⟨hx1, rfl⟩ := List.getElem?_eq_some_iff.1 hj
                  simp only [List.length_map] at hx1
                  rw [add_plain]
                  have := hcc j hx1
                  simp only [List.getElem_map]
                  simpa [List.getD, hx1] using this
                have HP := Lib.hid hcp
                have HN1 : Hid ((x.map (Value.int .i64)).length = Nat.min x.length 6) := by show _ = _; simp only [List.length_map]; exact (Nat.min_eq_left hx6).symm
                have HF0 : Hid (2 + k * 6 + (x.map (Value.int .i64)).length ≤ (ml L.length n (mxR L k)).length) := by show _ ≤ _; rw [ml_len, List.length_map]; omega
                have hki : (k : Int) < 6 := by omega
                clear hcp hw
                go_wp2_with (with_reducible refine wpList_copy_splice rfl (.tmp 63) (.tmp 64) 22 22 rfl 3 Try.underlying22 (by kernel_rfl) _ ax 6 6 x.length px rfl rfl w1.heap.size (2 + k * 6) _ 55 HM2.out (x.map (Value.int .i64)) HN1.out (fun h => ⟨rfl, HP.out h⟩) HF0.out (ints_oneCell _ _) w1.heap.size w2 (Below.refl _ _) (Nat.le_refl _) ?_)
                intro w4 hg4 hb4
                have hg5 : Has w4 w1.heap.size _ 55 := hg4.out
                have HZ4 := Lib.hid (HZ2.out.kept hb4 hl1)
                have HB4 := Lib.hid (HB2.out.trans (hb4.mono (by omega)))
                have hms := mx_splice L.length n L k hk6 (by rw [← HX.out]; exact hx6)
                rw [← HX.out] at hms
                rw [hms] at hg5
                have HM4 := Lib.hid hg5
                clear hb4 hg4 hg5 hms HP HN1 HF0 HM2 HRK2
                go_wp2_with fail
                go_roundw
                case rel => exact ⟨k + 1, by omega, by go_num, HYK.out, HM4.out, HZ4.out, HB4.out⟩
                case measure => simp [intOf]; omega
          · have hne : ((x.length : Int) != (n : Int)) = true := by simp; omega
            obtain rfl := HNO2.out (hno (by simp [rowOk, hxn]))
            have hz := zer_has HZ.out
            clear hyes hno hxn hrk
            go_wp2_with (refine wpList_store_row rfl 55 _ _ rfl _ _ rfl rfl _ _ hz (by kernel_rfl) rfl (by kernel_rfl) ?_)
            try simp only [Exit.inBlock, Exit.then]
            refine bodyPost_ret (results_cell_two (p := 4) (q := 5) (by kernel_rfl) _ _ w.heap.size 55 _ (0, 0) _ rfl (setRow_heap _ _ _ _ _ _ hz) Try.underlying55 rfl (by kernel_rfl)) rfl ⟨rfl, ?_⟩
            exact HB.out.trans (below_setRow (Below.refl _ _) (Nat.le_refl _) _)
        · obtain rfl : k = L.length := by omega
          have hG := HG.out
          rw [List.take_length] at hG
          obtain rfl := HYES.out hG
          have hm0 := HM.out
          rw [← HMM.out] at hm0
          have hm := ml_has hm0
          clear hm0
          have hz := zer_has HZ.out
          clear hG
          go_wp2_with (first | refine wpList_load_row rfl 55 _ rfl _ rfl _ _ _ _ hm Try.underlying55 rfl (by kernel_rfl) ?_ | refine wpList_store_row rfl 55 _ _ rfl _ _ rfl rfl _ _ hz (by kernel_rfl) rfl (by kernel_rfl) ?_)
          try simp only [Exit.inBlock, Exit.then]
          refine bodyPost_ret (results_cell_two (p := 4) (q := 5) (by kernel_rfl) _ _ w.heap.size 55 _ (0, 0) _ rfl (setRow_heap _ _ _ _ _ _ hz) Try.underlying55 rfl (by kernel_rfl)) rfl ⟨rfl, ?_⟩
          exact HB.out.trans (below_setRow (Below.refl _ _) (Nat.le_refl _) _)

end Go.Proofs.Ytabfiafjcnilnaa
