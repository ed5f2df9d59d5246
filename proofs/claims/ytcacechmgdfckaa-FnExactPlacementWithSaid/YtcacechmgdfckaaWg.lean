/- The visitor that keeps one placement and counts. No condition. -/
import Derived.Test.YtcacechmgdfckaaWc
import Derived.Test.YtcacechmgdfckaaPc
import Derived.Test.YtcacechmgdfckaaRd
import Derived.Test.YtcacechmgdfckaaRa
namespace Go.Proofs.Ytcacechmgdfckaa
open Go.RowKit Go.WideShapes

/-- What the visitor has kept behind j placements. -/
def visF (L : List (List Int)) (n j : Nat) : Nat → Int := if j = 0 then fun _ => 0 else plF (L.getD (j - 1) []) n
/-- A walk that stops at a rank. -/
theorem runV_stop (cont : Nat → Bool) (rank : Nat) (hc : ∀ j, cont j = decide (j + 1 ≤ rank)) (s : Nat) : ∀ j, j ≤ rank → rank < j + s → runV cont j s = (rank + 1 - j, false) := by
  induction s with
  | zero => intro j h1 h2; omega
  | succ s ih =>
    intro j h1 h2
    rw [runV, hc j]
    by_cases h : j + 1 ≤ rank
    · rw [if_pos (by simpa using h), ih (j + 1) h (by omega)]
      simp only [Prod.mk.injEq, and_true]
      omega
    · rw [if_neg (by simpa using h)]
      simp only [Prod.mk.injEq, and_true]
      omega
theorem Has.setRow6 {w : World} {b : Nat} {G : Nat → Int} {t : TypeId} (h : Has w b (pl6 G) t) (F : Nat → Int) : Has (w.setRow b #[.int .i64 (F 0), .int .i64 (F 1), .int .i64 (F 2), .int .i64 (F 3), .int .i64 (F 4), .int .i64 (F 5)]) b (pl6 F) t :=
  setRow_heap w b _ _ t (0, 0) h
theorem Has.setRowOff {w : World} {b : Nat} {cs : List Value} {t : TypeId} (h : Has w b cs t) (g : Nat) (ds : Array Value) (hg : b ≠ g) : Has (w.setRow g ds) b cs t :=
  (setRow_other w g b ds hg).trans h
theorem Chg.setRow {foot : Nat → Prop} (w : World) (b : Nat) (ds : Array Value) (hf : foot b) : Chg foot w (w.setRow b ds) :=
  ⟨rfl, rfl, rfl, by simp, fun k _ hk => setRow_other w b k ds (fun e => hk (by rw [e]; exact hf))⟩
theorem Has.setOff {w : World} {b : Nat} {cs : List Value} {t : TypeId} (h : Has w b cs t) (g o : Nat) (v : Value) (hg : b ≠ g) : Has (w.setCell ⟨g, o, none⟩ v) b cs t :=
  (Below.heap_setCell w ⟨g, o, none⟩ v b hg).trans h
theorem Chg.of_set {foot : Nat → Prop} (w : World) (b o : Nat) (v : Value) (hf : foot b) : Chg foot w (w.setCell ⟨b, o, none⟩ v) :=
  ⟨rfl, rfl, rfl, by simp [World.setCell], fun k _ hk => Below.heap_setCell w ⟨b, o, none⟩ v k (fun e => hk (by rw [show k = b from e]; exact hf))⟩
theorem Has.one {w : World} {b : Nat} {v0 : Value} {t : TypeId} (h : Has w b [v0] t) : w.cell? ⟨b, 0, none⟩ = some v0 ∧ ∀ o, w.frozen? ⟨b, o, none⟩ = false := ⟨h.cell 0, h.free⟩

set_option maxRecDepth 100000 in
set_option maxHeartbeats 1600000 in
theorem pw1_any (F G : Nat → Int) (bf bb br j rank : Nat) (w : World) (h1 : bf ≠ bb) (h2 : bf ≠ br) (h3 : bb ≠ br) (H : Has w bf (pl6 G) 54) (H1 : Has w bb [.int .i64 j] 3) (H2 : Has w br [.int .i64 rank] 3) (hj : j ≤ 1000000) :
    Calls Try.prog 34 (#[pv6 F] ++ #[.pointer (some ⟨bf, 0, none⟩), .pointer (some ⟨bb, 0, none⟩), .pointer (some ⟨br, 0, none⟩)]) w fun e w' => e = .returned (.bool (decide (j + 1 ≤ rank))) ∧ Chg (fun k => k = bf ∨ k = bb) w w' ∧ Has w' bf (pl6 F) 54 ∧ Has w' bb [.int .i64 ((j + 1 : Nat) : Int)] 3 := by
  have hb := below_new (w := w) (.cells #[.int .i64 (F 0), .int .i64 (F 1), .int .i64 (F 2), .int .i64 (F 3), .int .i64 (F 4), .int .i64 (F 5)] 54)
  have hn : Has (w.alloc (.cells #[.int .i64 (F 0), .int .i64 (F 1), .int .i64 (F 2), .int .i64 (F 3), .int .i64 (F 4), .int .i64 (F 5)] 54)) w.heap.size (pl6 F) 54 := Has.new w (pl6 F) 54
  have K := H.kept hb H.lt
  have K1 := H1.kept hb H1.lt
  have K2 := H2.kept hb H2.lt
  have hs : IntKind.i64.wrap ((j : Int) + 1) = (j : Int) + 1 := IntWalk.i64_in _ (by omega)
  have HB := Lib.hid hb
  clear H H1 H2
  go_enter Try.func34, Try.ntmps34
  go_upto_region 1 with fail
  generalize w.alloc (.cells #[.int .i64 (F 0), .int .i64 (F 1), .int .i64 (F 2), .int .i64 (F 3), .int .i64 (F 4), .int .i64 (F 5)] 54) = w5 at *
  have hrow := hn.row6
  have hrow2 := K.row6
  have HK := Lib.hid K
  have HK1 := Lib.hid K1
  have HK2 := Lib.hid K2
  clear hn K K1 K2
  go_upto_region 2 with (first | refine wpList_load_row rfl 54 _ rfl _ rfl _ _ _ _ hrow Try.underlying54 rfl (by kernel_rfl) ?_ | refine wpList_store_row rfl 54 _ _ rfl _ _ rfl rfl _ _ hrow2 (by kernel_rfl) rfl (by kernel_rfl) ?_)
  have HN := Lib.hid (HK.out.setRow6 F)
  have N1 := HK1.out.setRowOff bf #[.int .i64 (F 0), .int .i64 (F 1), .int .i64 (F 2), .int .i64 (F 3), .int .i64 (F 4), .int .i64 (F 5)] (fun e => h1 e.symm)
  have N2 := HK2.out.setRowOff bf #[.int .i64 (F 0), .int .i64 (F 1), .int .i64 (F 2), .int .i64 (F 3), .int .i64 (F 4), .int .i64 (F 5)] (fun e => h2 e.symm)
  have HC := Lib.hid (show Chg (fun k => k = bf ∨ k = bb) w (w5.setRow bf #[.int .i64 (F 0), .int .i64 (F 1), .int .i64 (F 2), .int .i64 (F 3), .int .i64 (F 4), .int .i64 (F 5)]) from (Chg.of_below HB.out).trans (Chg.setRow _ _ _ (.inl rfl)))
  generalize w5.setRow bf #[.int .i64 (F 0), .int .i64 (F 1), .int .i64 (F 2), .int .i64 (F 3), .int .i64 (F 4), .int .i64 (F 5)] = w6 at *
  obtain ⟨e0, ef⟩ := N1.one
  have HN1 := Lib.hid N1
  have HN2 := Lib.hid N2
  clear hrow hrow2 N1 N2
  go_upto_region 3 with fail
  have M0 := Lib.hid (HN.out.setOff bb 0 (.int .i64 ((j : Int) + 1)) h1)
  have M1 := HN1.out.set 0 (.int .i64 ((j : Int) + 1))
  have M2 := HN2.out.setOff bb 0 (.int .i64 ((j : Int) + 1)) (fun e => h3 e.symm)
  have MC := Lib.hid (HC.out.trans (Chg.of_set w6 bb 0 (.int .i64 ((j : Int) + 1)) (.inr rfl)))
  generalize w6.setCell ⟨bb, 0, none⟩ (.int .i64 ((j : Int) + 1)) = w7 at *
  simp only [List.set_cons_zero] at M1
  obtain ⟨g0, gf⟩ := M1.one
  obtain ⟨f0, ff⟩ := M2.one
  have HM1 := Lib.hid M1
  clear HN HN1 HN2 HC e0 ef M1 M2 HK HK1 HK2 HB
  have hd : decide ((j : Int) + 1 ≤ rank) = decide (j + 1 ≤ rank) := by rw [decide_eq_decide]; omega
  have HD := Lib.hid hd
  clear hd
  by_cases hle : (j : Int) + 1 ≤ rank
  all_goals
    go_wp2_with fail
    go_ret
    exact ⟨ret_bool (by rw [← HD.out]; simp <;> omega), MC.out, M0.out, HM1.out⟩

set_option maxRecDepth 100000 in
set_option maxHeartbeats 1600000 in
theorem pwWalk_any (bf bb br n m q rank : Nat) (M : Nat → Int) (w : World) (hn : n ≤ 6) (hm : m ≤ 6) (hq : q ≤ 6) (hg : ∀ k, k < 6 → 0 ≤ M k ∧ M k < 64) (h1 : bf ≠ bb) (h2 : bf ≠ br) (h3 : bb ≠ br)
    (hr : rank < wR m (bM M) n 0 0 q) (H : Has w bf (pl6 (fun _ => 0)) 54) (H1 : Has w bb [.int .i64 0] 3) (H2 : Has w br [.int .i64 rank] 3) :
    Calls Try.prog 30 #[gv n m M, .int .i64 q, .func (.func 34) #[] #[.pointer (some ⟨bf, 0, none⟩), .pointer (some ⟨bb, 0, none⟩), .pointer (some ⟨br, 0, none⟩)]] w fun e w' => e = .returned (.tuple #[]) ∧ Has w' bf (pl6 (plF ((pl m (bM M) n 0 0 q).getD rank []) n)) 54 ∧ Chg (fun k => k = bf ∨ k = bb) w w' := by
  have h := walk_any n m q M 34 #[] #[.pointer (some ⟨bf, 0, none⟩), .pointer (some ⟨bb, 0, none⟩), .pointer (some ⟨br, 0, none⟩)] (fun k => k = bf ∨ k = bb)
    (fun j wr => Has wr bf (pl6 (visF (pl m (bM M) n 0 0 q) n j)) 54 ∧ Has wr bb [.int .i64 j] 3 ∧ Has wr br [.int .i64 rank] 3)
    (fun j => decide (j + 1 ≤ rank)) w hn hm hq hg (fun b hb => hb.elim (fun e => by rw [e]; exact H.lt) (fun e => by rw [e]; exact H1.lt))
    (fun j w1 w2 hc hi => ⟨Chg.has hc (by have := H.lt; omega) hi.1, Chg.has hc (by have := H1.lt; omega) hi.2.1, Chg.has hc (by have := H2.lt; omega) hi.2.2⟩)
    (fun _ _ => by kernel_rfl)
    (fun j P hj wr hi => by
      have hlt : j < (pl m (bM M) n 0 0 q).length := (List.getElem?_eq_some_iff.1 hj).1
      rw [pl_len] at hlt
      have hle := wR_le m hm (bM M) n 0 0 q
      have h7 : 7 ^ n ≤ 7 ^ 6 := Nat.pow_le_pow_right (by omega) hn
      refine (pw1_any (plF P n) _ bf bb br j rank wr h1 h2 h3 hi.1 hi.2.1 hi.2.2 (by omega)).mono ?_
      rintro e w' ⟨rfl, hc, hf, hh⟩
      refine ⟨rfl, ⟨?_, hh, Chg.has hc (by omega) hi.2.2⟩, hc⟩
      rw [show visF (pl m (bM M) n 0 0 q) n (j + 1) = plF P n by unfold visF; rw [if_neg (by omega), Nat.add_sub_cancel, List.getD_eq_getElem?_getD, hj]; rfl]
      exact hf)
    ⟨H, H1, H2⟩
  refine h.mono ?_
  rintro e w' ⟨rfl, hi, hc⟩
  rw [runV_stop _ rank (fun _ => rfl) _ 0 (by omega) (by omega)] at hi
  refine ⟨rfl, ?_, hc⟩
  have := hi.1
  rw [show visF (pl m (bM M) n 0 0 q) n ((rank + 1 - 0, false) : Nat × Bool).1 = plF ((pl m (bM M) n 0 0 q).getD rank []) n by unfold visF; rw [if_neg (by simp)]; rfl] at this
  exact this
end Go.Proofs.Ytcacechmgdfckaa
