/- The visitor that counts up to one placement. No condition. -/
import Derived.Test.YthkghbnmdebhpabWg
import Derived.ChangeKeysEq
namespace Go.Proofs.Ythkghbnmdebhpab
open Go.RowKit Go.WideShapes

/-- The same six numbers. -/
def eq6 (F G : Nat → Int) : Bool := (List.range 6).all fun i => F i == G i
/-- Of the first j things so many are not it. -/
def visN (p : List Int → Bool) (L : List (List Int)) (j : Nat) : Nat := ((L.take j).filter (fun P => !p P)).length
theorem visN_succ (p : List Int → Bool) (L : List (List Int)) (j : Nat) (P : List Int) (h : L[j]? = some P) : visN p L (j + 1) = visN p L j + if p P then 0 else 1 := by
  obtain ⟨hl, he⟩ := List.getElem?_eq_some_iff.1 h
  unfold visN
  rw [List.take_succ_eq_append_getElem hl, List.filter_append, List.length_append, he, List.filter_cons]
  cases p P <;> rfl
theorem visN_le (p : List Int → Bool) (L : List (List Int)) (j : Nat) : visN p L j ≤ j := by
  unfold visN
  refine Nat.le_trans (List.length_filter_le _ _) ?_
  simp
  omega
/-- A walk that stops at it has counted what is before it. -/
theorem visN_stop (p : List Int → Bool) (cont : Nat → Bool) (L : List (List Int)) : ∀ j, (∀ i P, L[i]? = some P → cont (j + i) = !p P) → visN p L (runV cont j L.length).1 = L.findIdx p := by
  induction L with
  | nil => intro j _; simp [visN]
  | cons P L ih =>
    intro j h
    have h0 := h 0 P rfl
    rw [Nat.add_zero] at h0
    rw [List.length_cons, runV, h0]
    cases hp : p P
    · rw [if_pos (by rfl)]
      have := ih (j + 1) (fun i Q hi => by rw [show j + 1 + i = j + (i + 1) by omega]; exact h (i + 1) Q (by simpa using hi))
      show visN p (P :: L) ((runV cont (j + 1) L.length).1 + 1) = _
      unfold visN at this ⊢
      rw [List.take_succ_cons, List.filter_cons, hp, List.findIdx_cons, hp]
      simp only [Bool.not_false, if_true, List.length_cons, this, cond_false]
    · rw [if_neg (by simp)]
      unfold visN
      rw [List.findIdx_cons, hp]
      simp [hp]
theorem eqItems_ints (P : Program) (d : Nat) (e : TypeId) (he : P.plainKey e = true) (hu : P.underlying e = some (.int .i64)) (xs ys : Array Value) (F G : Nat → Int) (W : World) : ∀ is : List Nat, (∀ i ∈ is, xs[i]? = some (.int .i64 (F i)) ∧ ys[i]? = some (.int .i64 (G i))) →
    (Op.eqItems (d + 1) e 1 xs ys is).run P W = .ok (is.all fun i => F i == G i) W := by
  intro is
  induction is with
  | nil => intro _; simp [Op.eqItems]
  | cons i is ih =>
    intro h
    obtain ⟨h1, h2⟩ := h i (by simp)
    have ih := ih (fun k hk => h k (by simp [hk]))
    simp only [Op.eqItems, Sem.run_bind, Nat.mul_one, run_part_plain W he h1, run_part_plain W he h2, Result.andThen_ok, run_equalIn_int W d e .i64 .i64 (F i) (G i) hu, List.all_cons]
    cases hh : F i == G i
    · simp
    · simp only [Bool.not_true, Bool.false_eq_true, if_false, ih, Bool.true_and]

theorem equal6 (F G : Nat → Int) (W : World) : (Op.equalIn 10000 77 (.agg #[.int .i64 (F 0), .int .i64 (F 1), .int .i64 (F 2), .int .i64 (F 3), .int .i64 (F 4), .int .i64 (F 5)]) (.agg #[.int .i64 (G 0), .int .i64 (G 1), .int .i64 (G 2), .int .i64 (G 3), .int .i64 (G 4), .int .i64 (G 5)])).run Try.prog W = .ok (eq6 F G) W := by
  obtain ⟨i, hi, _⟩ := Option.map_eq_some_iff.1 Try.infoI
  rw [run_equalIn_array W 9999 (e := 3) (n := 6) (i := i) _ _ (by kernel_rfl) hi, show Try.prog.cellsOf 3 = 1 by kernel_rfl]
  exact eqItems_ints Try.prog 9998 3 (by kernel_rfl) (by kernel_rfl) _ _ F G W (List.range 6) (fun i hi => by
    have h6 := List.mem_range.1 hi
    have e1 := pl6_get F i h6
    have e2 := pl6_get G i h6
    exact ⟨by rw [← List.getElem?_toArray] at e1; exact e1, by rw [← List.getElem?_toArray] at e2; exact e2⟩)

set_option maxRecDepth 100000 in
set_option maxHeartbeats 1600000 in
theorem rk1_any (F G : Nat → Int) (bo br j : Nat) (w : World) (H : Has w bo (pl6 G) 77) (H1 : Has w br [.int .i64 j] 3) (hj : j ≤ 1000000) :
    Calls Try.prog 75 (#[pv6 F] ++ #[.pointer (some ⟨bo, 0, none⟩), .pointer (some ⟨br, 0, none⟩)]) w fun e w' => e = .returned (.bool (!eq6 F G)) ∧ Chg (fun k => k = br) w w' ∧ Has w' br [.int .i64 (if eq6 F G then (j : Int) else (j : Int) + 1)] 3 := by
  have hb := below_new (w := w) (.cells #[.int .i64 (F 0), .int .i64 (F 1), .int .i64 (F 2), .int .i64 (F 3), .int .i64 (F 4), .int .i64 (F 5)] 77)
  have hn : Has (w.alloc (.cells #[.int .i64 (F 0), .int .i64 (F 1), .int .i64 (F 2), .int .i64 (F 3), .int .i64 (F 4), .int .i64 (F 5)] 77)) w.heap.size (pl6 F) 77 := Has.new w (pl6 F) 77
  have K := H.kept hb H.lt
  have K1 := H1.kept hb H1.lt
  have hs : IntKind.i64.wrap ((j : Int) + 1) = (j : Int) + 1 := IntWalk.i64_in _ (by omega)
  have HB := Lib.hid hb
  have heq := equal6 F G (w.alloc (.cells #[.int .i64 (F 0), .int .i64 (F 1), .int .i64 (F 2), .int .i64 (F 3), .int .i64 (F 4), .int .i64 (F 5)] 77))
  clear H H1
  cases hc : eq6 F G
  · rw [hc] at heq
    have HQ := Lib.hid heq
    clear hc heq
    simp only [Bool.not_false, Bool.false_eq_true, if_false]
    go_enter Try.func75, Try.ntmps75
    go_upto_region 1 with fail
    generalize w.alloc (.cells #[.int .i64 (F 0), .int .i64 (F 1), .int .i64 (F 2), .int .i64 (F 3), .int .i64 (F 4), .int .i64 (F 5)] 77) = w5 at *
    have heq := HQ.out
    have hrow := hn.row6
    have hrow2 := K.row6
    obtain ⟨e0, ef⟩ := K1.one
    have HK1 := Lib.hid K1
    clear hn K K1
    go_upto_region 3 with (first | refine wpList_load_row rfl 77 _ rfl _ rfl _ _ _ _ hrow Try.underlying77 rfl (by kernel_rfl) ?_ | refine wpList_load_row rfl 77 _ rfl _ rfl _ _ _ _ hrow2 Try.underlying77 rfl (by kernel_rfl) ?_)
    clear heq hrow hrow2
    go_wp2_with fail
    go_ret
    exact ⟨rfl, (Chg.of_below HB.out).trans (Chg.of_set w5 br 0 _ rfl), HK1.out.set 0 _⟩
  · rw [hc] at heq
    have HQ := Lib.hid heq
    clear hc heq
    simp only [Bool.not_true, if_true]
    go_enter Try.func75, Try.ntmps75
    go_upto_region 1 with fail
    generalize w.alloc (.cells #[.int .i64 (F 0), .int .i64 (F 1), .int .i64 (F 2), .int .i64 (F 3), .int .i64 (F 4), .int .i64 (F 5)] 77) = w5 at *
    have heq := HQ.out
    have hrow := hn.row6
    have hrow2 := K.row6
    have HK1 := Lib.hid K1
    clear hn K K1
    go_wp2_with (first | refine wpList_load_row rfl 77 _ rfl _ rfl _ _ _ _ hrow Try.underlying77 rfl (by kernel_rfl) ?_ | refine wpList_load_row rfl 77 _ rfl _ rfl _ _ _ _ hrow2 Try.underlying77 rfl (by kernel_rfl) ?_)
    go_ret
    exact ⟨rfl, Chg.of_below HB.out, HK1.out⟩

set_option maxRecDepth 100000 in
set_option maxHeartbeats 1600000 in
theorem rkWalk_any (bo br n m q : Nat) (M : Nat → Int) (G : Nat → Int) (w : World) (hn : n ≤ 6) (hm : m ≤ 6) (hq : q ≤ 6) (hg : ∀ k, k < 6 → 0 ≤ M k ∧ M k < 64) (h1 : bo ≠ br)
    (H : Has w bo (pl6 G) 77) (H1 : Has w br [.int .i64 0] 3) :
    Calls Try.prog 66 #[gv n m M, .int .i64 q, .func (.func 75) #[] #[.pointer (some ⟨bo, 0, none⟩), .pointer (some ⟨br, 0, none⟩)]] w fun e w' => e = .returned (.tuple #[]) ∧ Has w' br [.int .i64 (((pl m (bM M) n 0 0 q).findIdx (fun P => eq6 (plF P n) G) : Nat) : Int)] 3 ∧ Chg (fun k => k = br) w w' := by
  have h := walk_any n m q M 75 #[] #[.pointer (some ⟨bo, 0, none⟩), .pointer (some ⟨br, 0, none⟩)] (fun k => k = br)
    (fun j wr => Has wr bo (pl6 G) 77 ∧ Has wr br [.int .i64 ((visN (fun P => eq6 (plF P n) G) (pl m (bM M) n 0 0 q) j : Nat) : Int)] 3)
    (fun j => !eq6 (plF ((pl m (bM M) n 0 0 q).getD j []) n) G) w hn hm hq hg (fun b hb => by rw [hb]; exact H1.lt)
    (fun j w1 w2 hc hi => ⟨Chg.has hc (by have := H.lt; omega) hi.1, Chg.has hc (by have := H1.lt; omega) hi.2⟩)
    (fun _ _ => by kernel_rfl)
    (fun j P hj wr hi => by
      have hlt : j < (pl m (bM M) n 0 0 q).length := (List.getElem?_eq_some_iff.1 hj).1
      rw [pl_len] at hlt
      have hle := wR_le m hm (bM M) n 0 0 q
      have h7 : 7 ^ n ≤ 7 ^ 6 := Nat.pow_le_pow_right (by omega) hn
      have hv := visN_le (fun P => eq6 (plF P n) G) (pl m (bM M) n 0 0 q) j
      have hjd : (pl m (bM M) n 0 0 q).getD j [] = P := by rw [List.getD_eq_getElem?_getD, hj]; rfl
      refine (rk1_any (plF P n) G bo br _ wr hi.1 hi.2 (by omega)).mono ?_
      rintro e w' ⟨rfl, hc, hh⟩
      refine ⟨by rw [hjd], ⟨Chg.has hc (by omega) hi.1, ?_⟩, hc⟩
      rw [visN_succ _ _ _ _ hj]
      cases he : eq6 (plF P n) G
      · rw [he] at hh
        exact hh
      · rw [he] at hh
        exact hh)
    ⟨H, H1⟩
  refine h.mono ?_
  rintro e w' ⟨rfl, hi, hc⟩
  refine ⟨rfl, ?_, hc⟩
  have := hi.2
  rw [← pl_len, visN_stop (fun P => eq6 (plF P n) G) _ _ 0 (fun i P hi => by
    have hjd : (pl m (bM M) n 0 0 q).getD i [] = P := by rw [List.getD_eq_getElem?_getD, hi]; rfl
    rw [Nat.zero_add, hjd])] at this
  exact this
end Go.Proofs.Ythkghbnmdebhpab
