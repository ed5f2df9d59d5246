import Derived.Test.YtdimbnkgomfojaaFold17
import Derived.ChangeKeysEq
import Derived.Test.YtdimbnkgomfojaaFold4
import Derived.Test.YtdimbnkgomfojaaFold16
import Derived.Deep.AppendLies

section
namespace Go.Proofs.Ytdimbnkgomfojaa
open Go.RowKit Go.WideShapes

/-- The same six numbers. -/
def eq6 (F G : Nat → Int) : Bool := (List.range 6).all fun i => F i == G i
/-- Of the first j things so many are not it. -/
def visN (p : List Int → Bool) (L : List (List Int)) (j : Nat) : Nat := ((L.take j).filter (fun P => !p P)).length
theorem visN_succ (p : List Int → Bool) (L : List (List Int)) (j : Nat) (P : List Int) (h : L[j]? = some P) : visN p L (j + 1) = visN p L j + if p P then 0 else 1 := by
  obtain ⟨hl, he⟩ := List.getElem?_eq_some_iff.1 h
  unfold visN
  rw [List.take_succ_eq_append_getElem hl, List.filter_append, List.length_append, he, List.filter_cons]
  cases p P <;> rfl
theorem visN_le (p : List Int → Bool) (L : List (List Int)) (j : Nat) : visN p L j ≤ j := by
  unfold visN
  refine Nat.le_trans (List.length_filter_le _ _) ?_
  simp
  omega
/-- A walk that stops at it has counted what is before it. -/
theorem visN_stop (p : List Int → Bool) (cont : Nat → Bool) (L : List (List Int)) : ∀ j, (∀ i P, L[i]? = some P → cont (j + i) = !p P) → visN p L (runV cont j L.length).1 = L.findIdx p := by
  induction L with
  | nil => intro j _; simp [visN]
  | cons P L ih =>
    intro j h
    have h0 := h 0 P rfl
    rw [Nat.add_zero] at h0
    rw [List.length_cons, runV, h0]
    cases hp : p P
    · rw [if_pos (by rfl)]
      have := ih (j + 1) (fun i Q hi => by rw [show j + 1 + i = j + (i + 1) by omega]; exact h (i + 1) Q (by simpa using hi))
      show visN p (P :: L) ((runV cont (j + 1) L.length).1 + 1) = _
      unfold visN at this ⊢
      rw [List.take_succ_cons, List.filter_cons, hp, List.findIdx_cons, hp]
      simp only [Bool.not_false, if_true, List.length_cons, this, cond_false]
    · rw [if_neg (by simp)]
      unfold visN
      rw [List.findIdx_cons, hp]
      simp [hp]
theorem eqItems_ints (P : Program) (d : Nat) (e : TypeId) (he : P.plainKey e = true) (hu : P.underlying e = some (.int .i64)) (xs ys : Array Value) (F G : Nat → Int) (W : World) : ∀ is : List Nat, (∀ i ∈ is, xs[i]? = some (.int .i64 (F i)) ∧ ys[i]? = some (.int .i64 (G i))) →
    (Op.eqItems (d + 1) e 1 xs ys is).run P W = .ok (is.all fun i => F i == G i) W := by
  intro is
  induction is with
  | nil => intro _; simp [Op.eqItems]
  | cons i is ih =>
    intro h
    obtain ⟨h1, h2⟩ := h i (by simp)
    have ih := ih (fun k hk => h k (by simp [hk]))
    simp only [Op.eqItems, Sem.run_bind, Nat.mul_one, run_part_plain W he h1, run_part_plain W he h2, Result.andThen_ok, run_equalIn_int W d e .i64 .i64 (F i) (G i) hu, List.all_cons]
    cases hh : F i == G i
    · simp
    · simp only [Bool.not_true, Bool.false_eq_true, if_false, ih, Bool.true_and]

theorem equal6 (F G : Nat → Int) (W : World) : (Op.equalIn 10000 70 (.agg #[.int .i64 (F 0), .int .i64 (F 1), .int .i64 (F 2), .int .i64 (F 3), .int .i64 (F 4), .int .i64 (F 5)]) (.agg #[.int .i64 (G 0), .int .i64 (G 1), .int .i64 (G 2), .int .i64 (G 3), .int .i64 (G 4), .int .i64 (G 5)])).run Try.prog W = .ok (eq6 F G) W := by
  obtain ⟨i, hi, _⟩ := Option.map_eq_some_iff.1 Try.infoI
  rw [run_equalIn_array W 9999 (e := 3) (n := 6) (i := i) _ _ (by kernel_rfl) hi, show Try.prog.cellsOf 3 = 1 by kernel_rfl]
  exact eqItems_ints Try.prog 9998 3 (by kernel_rfl) (by kernel_rfl) _ _ F G W (List.range 6) (fun i hi => by
    have h6 := List.mem_range.1 hi
    have e1 := pl6_get F i h6
    have e2 := pl6_get G i h6
    exact ⟨by rw [← List.getElem?_toArray] at e1; exact e1, by rw [← List.getElem?_toArray] at e2; exact e2⟩)

set_option maxRecDepth 100000 in
set_option maxHeartbeats 1600000 in
theorem rk1_any (F G : Nat → Int) (bo br j : Nat) (w : World) (H : Has w bo (pl6 G) 70) (H1 : Has w br [.int .i64 j] 3) (hj : j ≤ 1000000) :
    Calls Try.prog 70 (#[pv6 F] ++ #[.pointer (some ⟨bo, 0, none⟩), .pointer (some ⟨br, 0, none⟩)]) w fun e w' => e = .returned (.bool (!eq6 F G)) ∧ Chg (fun k => k = br) w w' ∧ Has w' br [.int .i64 (if eq6 F G then (j : Int) else (j : Int) + 1)] 3 := by
  have hb := below_new (w := w) (.cells #[.int .i64 (F 0), .int .i64 (F 1), .int .i64 (F 2), .int .i64 (F 3), .int .i64 (F 4), .int .i64 (F 5)] 70)
  have hn : Has (w.alloc (.cells #[.int .i64 (F 0), .int .i64 (F 1), .int .i64 (F 2), .int .i64 (F 3), .int .i64 (F 4), .int .i64 (F 5)] 70)) w.heap.size (pl6 F) 70 := Has.new w (pl6 F) 70
  have K := H.kept hb H.lt
  have K1 := H1.kept hb H1.lt
  have hs : IntKind.i64.wrap ((j : Int) + 1) = (j : Int) + 1 := IntWalk.i64_in _ (by omega)
  have HB := Lib.hid hb
  have heq := equal6 F G (w.alloc (.cells #[.int .i64 (F 0), .int .i64 (F 1), .int .i64 (F 2), .int .i64 (F 3), .int .i64 (F 4), .int .i64 (F 5)] 70))
  clear H H1
  cases hc : eq6 F G
  · rw [hc] at heq
    have HQ := Lib.hid heq
    clear hc heq
    simp only [Bool.not_false, Bool.false_eq_true, if_false]
    go_enter Try.func70, Try.ntmps70
    go_upto_region 1 with fail
    generalize w.alloc (.cells #[.int .i64 (F 0), .int .i64 (F 1), .int .i64 (F 2), .int .i64 (F 3), .int .i64 (F 4), .int .i64 (F 5)] 70) = w5 at *
    have heq := HQ.out
    have hrow := hn.row6
    have hrow2 := K.row6
    obtain ⟨e0, ef⟩ := K1.one
    have HK1 := Lib.hid K1
    clear hn K K1
    go_upto_region 3 with (first | refine wpList_load_row rfl 70 _ rfl _ rfl _ _ _ _ hrow Try.underlying70 rfl (by kernel_rfl) ?_ | refine wpList_load_row rfl 70 _ rfl _ rfl _ _ _ _ hrow2 Try.underlying70 rfl (by kernel_rfl) ?_)
    clear heq hrow hrow2
    go_wp2_with fail
    go_ret
    exact ⟨rfl, (Chg.of_below HB.out).trans (Chg.of_set w5 br 0 _ rfl), HK1.out.set 0 _⟩
  · rw [hc] at heq
    have HQ := Lib.hid heq
    clear hc heq
    simp only [Bool.not_true, if_true]
    go_enter Try.func70, Try.ntmps70
    go_upto_region 1 with fail
    generalize w.alloc (.cells #[.int .i64 (F 0), .int .i64 (F 1), .int .i64 (F 2), .int .i64 (F 3), .int .i64 (F 4), .int .i64 (F 5)] 70) = w5 at *
    have heq := HQ.out
    have hrow := hn.row6
    have hrow2 := K.row6
    have HK1 := Lib.hid K1
    clear hn K K1
    go_wp2_with (first | refine wpList_load_row rfl 70 _ rfl _ rfl _ _ _ _ hrow Try.underlying70 rfl (by kernel_rfl) ?_ | refine wpList_load_row rfl 70 _ rfl _ rfl _ _ _ _ hrow2 Try.underlying70 rfl (by kernel_rfl) ?_)
    go_ret
    exact ⟨rfl, Chg.of_below HB.out, HK1.out⟩

set_option maxRecDepth 100000 in
set_option maxHeartbeats 1600000 in
theorem rkWalk_any (bo br n m q : Nat) (M : Nat → Int) (G : Nat → Int) (w : World) (hn : n ≤ 6) (hm : m ≤ 6) (hq : q ≤ 6) (hg : ∀ k, k < 6 → 0 ≤ M k ∧ M k < 64) (h1 : bo ≠ br)
    (H : Has w bo (pl6 G) 70) (H1 : Has w br [.int .i64 0] 3) :
    Calls Try.prog 60 #[gv n m M, .int .i64 q, .func (.func 70) #[] #[.pointer (some ⟨bo, 0, none⟩), .pointer (some ⟨br, 0, none⟩)]] w fun e w' => e = .returned (.tuple #[]) ∧ Has w' br [.int .i64 (((pl m (bM M) n 0 0 q).findIdx (fun P => eq6 (plF P n) G) : Nat) : Int)] 3 ∧ Chg (fun k => k = br) w w' := by
  have h := walk_any n m q M 70 #[] #[.pointer (some ⟨bo, 0, none⟩), .pointer (some ⟨br, 0, none⟩)] (fun k => k = br)
    (fun j wr => Has wr bo (pl6 G) 70 ∧ Has wr br [.int .i64 ((visN (fun P => eq6 (plF P n) G) (pl m (bM M) n 0 0 q) j : Nat) : Int)] 3)
    (fun j => !eq6 (plF ((pl m (bM M) n 0 0 q).getD j []) n) G) w hn hm hq hg (fun b hb => by rw [hb]; exact H1.lt)
    (fun j w1 w2 hc hi => ⟨Chg.has hc (by have := H.lt; omega) hi.1, Chg.has hc (by have := H1.lt; omega) hi.2⟩)
    (fun _ _ => by kernel_rfl)
    (fun j P hj wr hi => by
      have hlt : j < (pl m (bM M) n 0 0 q).length := (List.getElem?_eq_some_iff.1 hj).1
      rw [pl_len] at hlt
      have hle := wR_le m hm (bM M) n 0 0 q
      have h7 : 7 ^ n ≤ 7 ^ 6 := Nat.pow_le_pow_right (by omega) hn
      have hv := visN_le (fun P => eq6 (plF P n) G) (pl m (bM M) n 0 0 q) j
      have hjd : (pl m (bM M) n 0 0 q).getD j [] = P := by rw [List.getD_eq_getElem?_getD, hj]; rfl
      refine (rk1_any (plF P n) G bo br _ wr hi.1 hi.2 (by omega)).mono ?_
      rintro e w' ⟨rfl, hc, hh⟩
      refine ⟨by rw [hjd], ⟨Chg.has hc (by omega) hi.1, ?_⟩, hc⟩
      rw [visN_succ _ _ _ _ hj]
      cases he : eq6 (plF P n) G
      · rw [he] at hh
        exact hh
      · rw [he] at hh
        exact hh)
    ⟨H, H1⟩
  refine h.mono ?_
  rintro e w' ⟨rfl, hi, hc⟩
  refine ⟨rfl, ?_, hc⟩
  have := hi.2
  rw [← pl_len, visN_stop (fun P => eq6 (plF P n) G) _ _ 0 (fun i P hi => by
    have hjd : (pl m (bM M) n 0 0 q).getD i [] = P := by rw [List.getD_eq_getElem?_getD, hi]; rfl
    rw [Nat.zero_add, hjd])] at this
  exact this
end Go.Proofs.Ytdimbnkgomfojaa
end

section
namespace Go.Proofs.Ytdimbnkgomfojaa
open Go.RowKit

theorem take_app {α : Type} (L A : List α) (n : Nat) (h : (L.take n).length < n) : L.take n ++ A.take (n - (L.take n).length) = (L ++ A).take n := by
  have hl : L.length < n := by rw [List.length_take] at h; omega
  have e : L.take n = L := List.take_of_length_le (by omega)
  rw [e, List.take_append, e]
theorem take_full {α : Type} (L A : List α) (n : Nat) (h : n ≤ (L.take n).length) : (L ++ A).take n = L.take n := by
  have hl : n ≤ L.length := by rw [List.length_take] at h; omega
  exact List.take_append_of_le_length hl

/-- What roAll answers: the placements that go on a list, cut at a number. -/
def allL (m : Nat) (B : Nat → Nat → Bool) (d f t k : Nat) (P : List Int) (most : Nat) : List (List Int) := ((pl m B d f t k).map (fun Q => P ++ Q)).take most
/-- .. before the c-th column. -/
def allC (m : Nat) (B : Nat → Nat → Bool) (d f t k : Nat) (P : List Int) (most c : Nat) : List (List Int) := ((plc m B d f t k c).map (fun Q => P ++ Q)).take most
theorem allL_none (m : Nat) (B : Nat → Nat → Bool) (d f t k : Nat) (P : List Int) (most : Nat) (h : d < k) : allL m B d f t k P most = [] := by
  unfold allL
  rw [pl_none m B d f t k h]
  simp
theorem allL_leaf (m : Nat) (B : Nat → Nat → Bool) (f t : Nat) (P : List Int) (most : Nat) (h : 0 < most) : allL m B 0 f t 0 P most = [P] := by
  unfold allL
  rw [pl, if_pos rfl]
  obtain ⟨n, rfl⟩ : ∃ n, most = n + 1 := ⟨most - 1, by omega⟩
  simp
theorem allC_first (m : Nat) (B : Nat → Nat → Bool) (d f t k : Nat) (P : List Int) (most : Nat) : allC m B d f t k P most 0 = allL m B d (f + 1) t k (P ++ [-1]) most := by
  unfold allC allL
  rw [plc_zero, map_snoc]
theorem allC_next (m : Nat) (B : Nat → Nat → Bool) (d f t k : Nat) (P : List Int) (most c : Nat) (hk : 0 < k) (hB : B f c = true) (ht : t.testBit c = false) (h : (allC m B d f t k P most c).length < most) :
    allC m B d f t k P most (c + 1) = allC m B d f t k P most c ++ allL m B d (f + 1) (t ||| 2 ^ c) (k - 1) (P ++ [(c : Int)]) (most - (allC m B d f t k P most c).length) := by
  unfold allC at h ⊢
  unfold allL
  rw [plc_succ, blk_yes m B d f t k c hk hB ht, List.map_append, map_snoc, take_app _ _ _ h]
theorem allC_skip (m : Nat) (B : Nat → Nat → Bool) (d f t k : Nat) (P : List Int) (most c : Nat) (h : k = 0 ∨ B f c = false ∨ t.testBit c = true) : allC m B d f t k P most (c + 1) = allC m B d f t k P most c := by
  unfold allC
  rw [plc_succ, blk_no m B d f t k c h, List.append_nil]
/-- Full before the last column: no more comes. -/
theorem allC_full (m : Nat) (B : Nat → Nat → Bool) (d f t k : Nat) (P : List Int) (most c e : Nat) (hc : c ≤ e) (h : most ≤ (allC m B d f t k P most c).length) : allC m B d f t k P most e = allC m B d f t k P most c := by
  obtain ⟨tl, ht⟩ := plc_split m B d f t k c e hc
  unfold allC at h ⊢
  rw [ht, List.map_append]
  exact take_full _ _ _ h
theorem allC_last (m : Nat) (B : Nat → Nat → Bool) (d f t k : Nat) (P : List Int) (most : Nat) : allC m B d f t k P most m = allL m B (d + 1) f t k P most := by
  unfold allC allL
  rw [plc_full]
theorem allL_all (m : Nat) (B : Nat → Nat → Bool) (d k most : Nat) (h : wR m B d 0 0 k ≤ most) : allL m B d 0 0 k [] most = pl m B d 0 0 k := by
  unfold allL
  simp only [List.nil_append, List.map_id']
  exact List.take_of_length_le (by rw [pl_len]; exact h)

/-- Six numbers tell a list of so many rows. -/
theorem eq6_same (P Q : List Int) (n : Nat) (hn : n ≤ 6) (hp : P.length = n) (hq : Q.length = n) : eq6 (plF Q n) (plF P n) = (Q == P) := by
  rw [Bool.eq_iff_iff, beq_iff_eq]
  constructor
  · intro h
    refine List.ext_getElem (by omega) (fun i h1 h2 => ?_)
    have := List.all_eq_true.1 h i (List.mem_range.2 (by omega))
    rw [beq_iff_eq] at this
    unfold plF at this
    rw [if_pos (by omega), if_pos (by omega)] at this
    simpa [List.getD_eq_getElem?_getD, h1, h2] using this
  · rintro rfl
    exact List.all_eq_true.2 (fun i _ => by rw [beq_iff_eq])
theorem findIdx_same (L : List (List Int)) (P : List Int) (n : Nat) (hn : n ≤ 6) (hp : P.length = n) (hL : ∀ Q ∈ L, Q.length = n) : L.findIdx (fun Q => eq6 (plF Q n) (plF P n)) = L.findIdx (fun Q => Q == P) := by
  induction L with
  | nil => rfl
  | cons Q L ih =>
    rw [List.findIdx_cons, List.findIdx_cons, eq6_same P Q n hn hp (hL Q (by simp)), ih (fun R hR => hL R (by simp [hR]))]

end Go.Proofs.Ytdimbnkgomfojaa
end

section
namespace Go.Proofs.Ytdimbnkgomfojaa
open Go.RowKit

/-- One of the things becomes another, on its own blocks and on new ones. -/
theorem Law.write' {w0 w w' : World} {ts ts' : List Thing} {t : Thing} (h : Law w0 (ts ++ t :: ts') w) (hc : Chg t.foot w w') (t' : Thing)
    (hf : ∀ k, t'.foot k → t.foot k ∨ (w.heap.size ≤ k ∧ k < w'.heap.size)) (ht : t'.holds w') : Law w0 (ts ++ t' :: ts') w' := by
  have hd := h.dis
  rw [List.pairwise_append, List.pairwise_cons] at hd
  obtain ⟨d1, ⟨d2, d3⟩, d4⟩ := hd
  have hrt := h.range t (by simp)
  have hrl : ∀ x, x ∈ ts → ∀ k, x.foot k → k < w.heap.size := fun x hm k hk => (h.range x (by simp [hm]) k hk).2
  have hrr : ∀ x, x ∈ ts' → ∀ k, x.foot k → k < w.heap.size := fun x hm k hk => (h.range x (by simp [hm]) k hk).2
  have keep : ∀ x, x ∈ ts ++ t :: ts' → (∀ k, x.foot k → ¬ t.foot k) → x.holds w' := fun x hm hn => x.stable w w' hc.size (fun k hk => hc.block k (h.range x hm k hk).2 (hn k hk)) (h.holds x hm)
  refine ⟨?_, ?_, ?_, ?_⟩
  · exact h.below.trans ⟨hc.os, hc.tape, hc.output, hc.size, fun k hk => hc.block k (by have := h.below.size; omega) (fun e => by have := (hrt k e).1; omega)⟩
  · intro x hm
    rcases List.mem_append.1 hm with hm | hm
    · exact keep x (by simp [hm]) (fun k hk e => d4 x hm t (by simp) k hk e)
    · rcases List.mem_cons.1 hm with rfl | hm
      · exact ht
      · exact keep x (by simp [hm]) (fun k hk e => d2 x hm k e hk)
  · intro x hm k hk
    rcases List.mem_append.1 hm with hm | hm
    · exact ⟨(h.range x (by simp [hm]) k hk).1, Nat.lt_of_lt_of_le (h.range x (by simp [hm]) k hk).2 hc.size⟩
    · rcases List.mem_cons.1 hm with rfl | hm
      · rcases hf k hk with hk | hk
        · exact ⟨(hrt k hk).1, Nat.lt_of_lt_of_le (hrt k hk).2 hc.size⟩
        · have := h.below.size
          omega
      · exact ⟨(h.range x (by simp [hm]) k hk).1, Nat.lt_of_lt_of_le (h.range x (by simp [hm]) k hk).2 hc.size⟩
  · rw [List.pairwise_append, List.pairwise_cons]
    refine ⟨d1, ⟨fun b hb k e1 e2 => ?_, d3⟩, fun a ha b hb k e e2 => ?_⟩
    · rcases hf k e1 with e1 | e1
      · exact d2 b hb k e1 e2
      · have := hrr b hb k e2
        omega
    · rcases List.mem_cons.1 hb with rfl | hb
      · rcases hf k e2 with e2 | e2
        · exact d4 a ha t (by simp) k e e2
        · have := hrl a ha k e
          omega
      · exact d4 a ha b (by simp [hb]) k e e2

/-- One of the slices has grown. -/
theorem Law.grow {w0 w w' : World} {ts ts' : List Thing} {s s' : Value} {xs ys : List Int} (h : Law w0 (ts ++ tOwn s xs :: ts') w) (hg : w.grownBy w' s.ownBlock) {lo : Nat} (hs : Own w' lo s' ys)
    (hb : ∀ k, s'.ownBlock = some k → s.ownBlock = some k ∨ k = w.heap.size) : Law w0 (ts ++ tOwn s' ys :: ts') w' :=
  h.write' (Chg.of_grown hg (fun _ e => e)) (tOwn s' ys) (fun k hk => by
    rcases hb k hk with e | e
    · exact .inl e
    · exact .inr ⟨by omega, (own_lt hs k hk).2⟩) (hs.lower (Nat.zero_le _))

/-- The third cell of a box is written. -/
theorem Law.set2 {w0 w : World} {ts ts' : List Thing} {n : Nat} {x y z : Value} (h : Law w0 (ts ++ tBox n x y z :: ts') w) (z' : Value) :
    Law w0 (ts ++ tBox n x y z' :: ts') (w.setCell ⟨n, 2, none⟩ z') := by
  have hb : Box w n x y z := h.holds (tBox n x y z) (by simp)
  refine h.write (t := tBox n x y z) (show Chg (tBox n x y z).foot w (w.setCell ⟨n, 2, none⟩ z') from ⟨rfl, rfl, rfl, by simp [World.setCell], fun k _ hf => Below.heap_setCell w ⟨n, 2, none⟩ z' k (fun e => hf e)⟩) (tBox n x y z') rfl ?_
  refine ⟨by have := hb.lt; simp [World.setCell]; omega, ?_, ?_, ?_, fun o => by rw [World.frozen?_setCell]; exact hb.fr o⟩
  · rw [World.cell?_setCell_other _ _ _ _ (by simp)]; exact hb.c0
  · rw [World.cell?_setCell_other _ _ _ _ (by simp)]; exact hb.c1
  · exact World.cell?_setCell_same _ _ _ hb.c2

/-- append of one number, as one step of a region that draws. -/
theorem step_app {ops : Array Oper} {o : Oper} {a : Act} {w : World} {K : Act → World → Prop} {Q : Exit → Act → World → Prop} {E : Prop} (hgd : o.guard = none) (s x : Operand)
    (ho : o.op = .call { callee := .builtin .append, args := #[s, x], argTypes := #[22, 22] }) (lo : Nat) (v : Value) (xs : List Int) (n : Nat) (y : Int) (g0 : Nat)
    (hs : a.eval s = v) (hx : a.eval x = .slice (some ⟨g0, 0, none⟩) 1 1) (hown : Own w lo v xs) (hn : xs.length = n) (hnew : w.cell? ⟨g0, 0, none⟩ = some (.int .i64 y)) (hl : n + 1 ≤ 1048576) (hlo : lo ≤ w.heap.size) (H : Nat) (hH : w.heap.size = H)
    (h : ∀ g cap w', Own w' lo (.slice (some ⟨g, 0, none⟩) (n + 1) cap) (xs ++ [y]) → w.grownBy w' v.ownBlock → (v.ownBlock = some g ∨ g = H) → g < w'.heap.size → K (a.put o.dst (.slice (some ⟨g, 0, none⟩) (n + 1) cap)) w') :
    if Region.wanted o (yielded ops a.tmps) = true then Oper.wp Try.prog o a w K Q else E := by
  subst hn
  obtain ⟨i0, hi, hz0, hz1, hz2⟩ := info_parts Try.infoI
  refine step_append_lies w hgd s x 22 ho lo 3 i0 (.int .i64 0) 1 8 Try.underlying22 hi hz0 hz1 hz2 rfl (by decide) v xs.length _ hs hown ⟨g0, 0, none⟩ 1 1 [.int .i64 y] hx rfl ?_ (by intro u hu; simp at hu; subst hu; rfl) (by decide) (by unfold maxLen; omega) (by omega) hlo H hH ?_
  · intro j u hu
    match j, hu with
    | 0, hu =>
      simp at hu
      subst hu
      rw [Addr.add_lit]
      exact hnew
  · intro g cap w' h1 h2 h3 h4
    refine h g cap w' ?_ h2 h3 h4
    unfold Own
    rw [List.length_append, List.map_append]
    exact h1

end Go.Proofs.Ytdimbnkgomfojaa
end
