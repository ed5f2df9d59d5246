import Derived.Test.YtcacechmgdfckaaFold15
import Derived.Test.YtcacechmgdfckaaFold5
import Derived.Test.YtcacechmgdfckaaFold14
import Derived.Test.YtcacechmgdfckaaFold6
import Derived.Test.YtcacechmgdfckaaFold4
import Derived.Laws.AppendOwnNone

section
namespace Go.Proofs.Ytcacechmgdfckaa
open Go.RowKit Go.WideShapes

set_option maxRecDepth 100000 in
set_option maxHeartbeats 6400000 in
theorem walk_any (n m k : Nat) (M : Nat → Int) (V : FuncId) (first cap : Array Value) (foot : Nat → Prop) (I : Nat → World → Prop) (cont : Nat → Bool) (w : World)
    (hn : n ≤ 6) (hm : m ≤ 6) (hk : k ≤ 6) (hgc : ∀ k, k < 6 → 0 ≤ M k ∧ M k < 64)
    (hfoot : ∀ b, foot b → b < w.heap.size) (hkeep : ∀ j w1 w2, Chg (fun b => w.heap.size ≤ b) w1 w2 → I j w1 → I j w2)
    (hcall : ∀ (args : Array Value) (w : World), (callFunc V args).run Try.prog w = .ok (.enter V args) w)
    (hvis : ∀ j P, (pl m (bM M) n 0 0 k)[j]? = some P → ∀ w, I j w → Calls Try.prog V (first.push (pv6 (plF P n)) ++ cap) w fun e w' => e = .returned (.bool (cont j)) ∧ I (j + 1) w' ∧ Chg foot w w')
    (hI : I 0 w) :
    Calls Try.prog 30 #[gv n m M, .int .i64 k, .func (.func V) first cap] w fun e w' => e = .returned (.tuple #[]) ∧ I (runV cont 0 (wR m (bM M) n 0 0 k)).1 w' ∧ Chg foot w w' := by
  have L0 := ((Law.start w).has (gl n m M) 48).has [.func (.func V) first cap] 56
  simp only [World.size_alloc] at L0
  have HL := Lib.hid L0
  have HV := Lib.hid hvis
  have HKP := Lib.hid hkeep
  have HFT := Lib.hid hfoot
  have HIW := Lib.hid hI
  have HGC := Lib.hid hgc
  have HLEN := Lib.hid (pl_len m (bM M) n 0 0 k)
  clear L0 hvis hkeep hfoot hI hgc
  go_enter Try.func30, Try.ntmps30
  go_wp2_with fail
  refine (noPlaces_any _).mono ?_
  rintro e w1 ⟨rfl, hb⟩
  have L1 := ((HL.out.kept hb).has (pl6 (fun _ => -1)) 54).has [.func (.func 49) #[] #[.pointer (some ⟨w.heap.size, 0, none⟩), .pointer (some ⟨w.heap.size + 1, 0, none⟩), .pointer (some ⟨w1.heap.size, 0, none⟩), .pointer (some ⟨w1.heap.size + 1, 0, none⟩)]] 57
  simp only [World.size_alloc] at L1
  rw [show (w1.alloc (.cells (pl6 (fun _ => -1)).toArray 54)) = (w1.alloc (.cells #[.int .i64 (-1), .int .i64 (-1), .int .i64 (-1), .int .i64 (-1), .int .i64 (-1), .int .i64 (-1)] 54)) from rfl] at L1
  have hz1 := hb.size
  simp only [World.size_alloc] at hz1
  have L2 : Law w [tHas (w1.heap.size + 1) [.func (.func 49) #[] #[.pointer (some ⟨w.heap.size, 0, none⟩), .pointer (some ⟨w.heap.size + 1, 0, none⟩), .pointer (some ⟨w1.heap.size, 0, none⟩), .pointer (some ⟨w1.heap.size + 1, 0, none⟩)]] 57, tHas w1.heap.size (pl6 (fun _ => -1)) 54, tHas (w.heap.size + 1) [.func (.func V) first cap] 56, tHas w.heap.size (gl n m M) 48] ((w1.alloc (.cells #[.int .i64 (-1), .int .i64 (-1), .int .i64 (-1), .int .i64 (-1), .int .i64 (-1), .int .i64 (-1)] 54)).alloc (.cells #[.func (.func 49) #[] #[.pointer (some ⟨w.heap.size, 0, none⟩), .pointer (some ⟨w.heap.size + 1, 0, none⟩), .pointer (some ⟨w1.heap.size, 0, none⟩), .pointer (some ⟨w1.heap.size + 1, 0, none⟩)]] 57)) := L1
  have HL1 := Lib.hid L2
  clear L1 L2 hb HL
  go_upto_region 4 with fail
  generalize (w1.alloc (.cells #[.int .i64 (-1), .int .i64 (-1), .int .i64 (-1), .int .i64 (-1), .int .i64 (-1), .int .i64 (-1)] 54)).alloc (.cells #[.func (.func 49) #[] #[.pointer (some ⟨w.heap.size, 0, none⟩), .pointer (some ⟨w.heap.size + 1, 0, none⟩), .pointer (some ⟨w1.heap.size, 0, none⟩), .pointer (some ⟨w1.heap.size + 1, 0, none⟩)]] 57) = w5 at *
  have v0 := HL1.out.ownHas.cell 0
  simp only [List.getElem?_cons_zero] at v0
  have hok : WkOk n V first cap w.heap.size (w.heap.size + 1) w1.heap.size (w1.heap.size + 1) foot I cont (pl m (bM M) n 0 0 k) :=
    ⟨by omega, by omega, by omega, fun h => by have := HFT.out _ h; omega, fun h => by have := HFT.out _ h; omega, fun h => by have := HFT.out _ h; omega, fun h => by have := HFT.out _ h; omega,
      fun j a b hc hi => HKP.out j a b (hc.mono (fun q hq => by subst hq; omega)) hi, hcall, HV.out⟩
  have hwk : Wk n m M V first cap w.heap.size (w.heap.size + 1) w1.heap.size (w1.heap.size + 1) I (plF [] 0) 0 w5 :=
    ⟨HL1.out.tl.tl.tl.ownHas, HL1.out.tl.tl.ownHas, HL1.out.tl.ownHas, HL1.out.ownHas, HKP.out 0 w w5 (Chg.of_below HL1.out.below) HIW.out⟩
  have hr := walk1_any n m M V first cap w.heap.size (w.heap.size + 1) w1.heap.size (w1.heap.size + 1) foot I cont (pl m (bM M) n 0 0 k) hn hm HGC.out hok n 0 0 k [] (by omega) (by omega) hk rfl 0 [] (by simp) w5 hwk
  rw [show ((0 : Nat) : Int) = 0 from rfl, HLEN.out] at hr
  have HR := Lib.hid hr
  have HB := Lib.hid HL1.out.below
  clear hr hwk hok HL1 hcall
  go_wp2_with fail
  refine HR.out.mono ?_
  rintro e w6 ⟨rfl, hW, hC⟩
  rw [Nat.zero_add] at hW
  have HE := Lib.hid (show I (runV cont 0 (wR m (bM M) n 0 0 k)).1 w6 ∧ Chg foot w w6 from
    ⟨hW.inv, hC.os.trans HB.out.os, hC.tape.trans HB.out.tape, hC.output.trans HB.out.output, Nat.le_trans HB.out.size hC.size, fun b hb hf => (hC.block b (Nat.lt_of_lt_of_le hb HB.out.size) (fun h => h.elim (fun h2 => by omega) hf)).trans (HB.out.block b hb)⟩)
  clear hW hC HR
  go_wp2_with fail
  go_end0
  exact ⟨rfl, HE.out⟩
end Go.Proofs.Ytcacechmgdfckaa
end

section
namespace Go.Proofs.Ytcacechmgdfckaa
open Go.RowKit Go.WideShapes

/-- What the visitor has kept behind j placements. -/
def visF (L : List (List Int)) (n j : Nat) : Nat → Int := if j = 0 then fun _ => 0 else plF (L.getD (j - 1) []) n
/-- A walk that stops at a rank. -/
theorem runV_stop (cont : Nat → Bool) (rank : Nat) (hc : ∀ j, cont j = decide (j + 1 ≤ rank)) (s : Nat) : ∀ j, j ≤ rank → rank < j + s → runV cont j s = (rank + 1 - j, false) := by
  induction s with
  | zero => intro j h1 h2; omega
  | succ s ih =>
    intro j h1 h2
    rw [runV, hc j]
    by_cases h : j + 1 ≤ rank
    · rw [if_pos (by simpa using h), ih (j + 1) h (by omega)]
      simp only [Prod.mk.injEq, and_true]
      omega
    · rw [if_neg (by simpa using h)]
      simp only [Prod.mk.injEq, and_true]
      omega
theorem Has.setRow6 {w : World} {b : Nat} {G : Nat → Int} {t : TypeId} (h : Has w b (pl6 G) t) (F : Nat → Int) : Has (w.setRow b #[.int .i64 (F 0), .int .i64 (F 1), .int .i64 (F 2), .int .i64 (F 3), .int .i64 (F 4), .int .i64 (F 5)]) b (pl6 F) t :=
  setRow_heap w b _ _ t (0, 0) h
theorem Has.setRowOff {w : World} {b : Nat} {cs : List Value} {t : TypeId} (h : Has w b cs t) (g : Nat) (ds : Array Value) (hg : b ≠ g) : Has (w.setRow g ds) b cs t :=
  (setRow_other w g b ds hg).trans h
theorem Chg.setRow {foot : Nat → Prop} (w : World) (b : Nat) (ds : Array Value) (hf : foot b) : Chg foot w (w.setRow b ds) :=
  ⟨rfl, rfl, rfl, by simp, fun k _ hk => setRow_other w b k ds (fun e => hk (by rw [e]; exact hf))⟩
theorem Has.setOff {w : World} {b : Nat} {cs : List Value} {t : TypeId} (h : Has w b cs t) (g o : Nat) (v : Value) (hg : b ≠ g) : Has (w.setCell ⟨g, o, none⟩ v) b cs t :=
  (Below.heap_setCell w ⟨g, o, none⟩ v b hg).trans h
theorem Chg.of_set {foot : Nat → Prop} (w : World) (b o : Nat) (v : Value) (hf : foot b) : Chg foot w (w.setCell ⟨b, o, none⟩ v) :=
  ⟨rfl, rfl, rfl, by simp [World.setCell], fun k _ hk => Below.heap_setCell w ⟨b, o, none⟩ v k (fun e => hk (by rw [show k = b from e]; exact hf))⟩
theorem Has.one {w : World} {b : Nat} {v0 : Value} {t : TypeId} (h : Has w b [v0] t) : w.cell? ⟨b, 0, none⟩ = some v0 ∧ ∀ o, w.frozen? ⟨b, o, none⟩ = false := ⟨h.cell 0, h.free⟩

set_option maxRecDepth 100000 in
set_option maxHeartbeats 1600000 in
theorem pw1_any (F G : Nat → Int) (bf bb br j rank : Nat) (w : World) (h1 : bf ≠ bb) (h2 : bf ≠ br) (h3 : bb ≠ br) (H : Has w bf (pl6 G) 54) (H1 : Has w bb [.int .i64 j] 3) (H2 : Has w br [.int .i64 rank] 3) (hj : j ≤ 1000000) :
    Calls Try.prog 34 (#[pv6 F] ++ #[.pointer (some ⟨bf, 0, none⟩), .pointer (some ⟨bb, 0, none⟩), .pointer (some ⟨br, 0, none⟩)]) w fun e w' => e = .returned (.bool (decide (j + 1 ≤ rank))) ∧ Chg (fun k => k = bf ∨ k = bb) w w' ∧ Has w' bf (pl6 F) 54 ∧ Has w' bb [.int .i64 ((j + 1 : Nat) : Int)] 3 := by
  have hb := below_new (w := w) (.cells #[.int .i64 (F 0), .int .i64 (F 1), .int .i64 (F 2), .int .i64 (F 3), .int .i64 (F 4), .int .i64 (F 5)] 54)
  have hn : Has (w.alloc (.cells #[.int .i64 (F 0), .int .i64 (F 1), .int .i64 (F 2), .int .i64 (F 3), .int .i64 (F 4), .int .i64 (F 5)] 54)) w.heap.size (pl6 F) 54 := Has.new w (pl6 F) 54
  have K := H.kept hb H.lt
  have K1 := H1.kept hb H1.lt
  have K2 := H2.kept hb H2.lt
  have hs : IntKind.i64.wrap ((j : Int) + 1) = (j : Int) + 1 := IntWalk.i64_in _ (by omega)
  have HB := Lib.hid hb
  clear H H1 H2
  go_enter Try.func34, Try.ntmps34
  go_upto_region 1 with fail
  generalize w.alloc (.cells #[.int .i64 (F 0), .int .i64 (F 1), .int .i64 (F 2), .int .i64 (F 3), .int .i64 (F 4), .int .i64 (F 5)] 54) = w5 at *
  have hrow := hn.row6
  have hrow2 := K.row6
  have HK := Lib.hid K
  have HK1 := Lib.hid K1
  have HK2 := Lib.hid K2
  clear hn K K1 K2
  go_upto_region 2 with (first | refine wpList_load_row rfl 54 _ rfl _ rfl _ _ _ _ hrow Try.underlying54 rfl (by kernel_rfl) ?_ | refine wpList_store_row rfl 54 _ _ rfl _ _ rfl rfl _ _ hrow2 (by kernel_rfl) rfl (by kernel_rfl) ?_)
  have HN := Lib.hid (HK.out.setRow6 F)
  have N1 := HK1.out.setRowOff bf #[.int .i64 (F 0), .int .i64 (F 1), .int .i64 (F 2), .int .i64 (F 3), .int .i64 (F 4), .int .i64 (F 5)] (fun e => h1 e.symm)
  have N2 := HK2.out.setRowOff bf #[.int .i64 (F 0), .int .i64 (F 1), .int .i64 (F 2), .int .i64 (F 3), .int .i64 (F 4), .int .i64 (F 5)] (fun e => h2 e.symm)
  have HC := Lib.hid (show Chg (fun k => k = bf ∨ k = bb) w (w5.setRow bf #[.int .i64 (F 0), .int .i64 (F 1), .int .i64 (F 2), .int .i64 (F 3), .int .i64 (F 4), .int .i64 (F 5)]) from (Chg.of_below HB.out).trans (Chg.setRow _ _ _ (.inl rfl)))
  generalize w5.setRow bf #[.int .i64 (F 0), .int .i64 (F 1), .int .i64 (F 2), .int .i64 (F 3), .int .i64 (F 4), .int .i64 (F 5)] = w6 at *
  obtain ⟨e0, ef⟩ := N1.one
  have HN1 := Lib.hid N1
  have HN2 := Lib.hid N2
  clear hrow hrow2 N1 N2
  go_upto_region 3 with fail
  have M0 := Lib.hid (HN.out.setOff bb 0 (.int .i64 ((j : Int) + 1)) h1)
  have M1 := HN1.out.set 0 (.int .i64 ((j : Int) + 1))
  have M2 := HN2.out.setOff bb 0 (.int .i64 ((j : Int) + 1)) (fun e => h3 e.symm)
  have MC := Lib.hid (HC.out.trans (Chg.of_set w6 bb 0 (.int .i64 ((j : Int) + 1)) (.inr rfl)))
  generalize w6.setCell ⟨bb, 0, none⟩ (.int .i64 ((j : Int) + 1)) = w7 at *
  simp only [List.set_cons_zero] at M1
  obtain ⟨g0, gf⟩ := M1.one
  obtain ⟨f0, ff⟩ := M2.one
  have HM1 := Lib.hid M1
  clear HN HN1 HN2 HC e0 ef M1 M2 HK HK1 HK2 HB
  have hd : decide ((j : Int) + 1 ≤ rank) = decide (j + 1 ≤ rank) := by rw [decide_eq_decide]; omega
  have HD := Lib.hid hd
  clear hd
  by_cases hle : (j : Int) + 1 ≤ rank
  all_goals
    go_wp2_with fail
    go_ret
    exact ⟨ret_bool (by rw [← HD.out]; simp <;> omega), MC.out, M0.out, HM1.out⟩

set_option maxRecDepth 100000 in
set_option maxHeartbeats 1600000 in
theorem pwWalk_any (bf bb br n m q rank : Nat) (M : Nat → Int) (w : World) (hn : n ≤ 6) (hm : m ≤ 6) (hq : q ≤ 6) (hg : ∀ k, k < 6 → 0 ≤ M k ∧ M k < 64) (h1 : bf ≠ bb) (h2 : bf ≠ br) (h3 : bb ≠ br)
    (hr : rank < wR m (bM M) n 0 0 q) (H : Has w bf (pl6 (fun _ => 0)) 54) (H1 : Has w bb [.int .i64 0] 3) (H2 : Has w br [.int .i64 rank] 3) :
    Calls Try.prog 30 #[gv n m M, .int .i64 q, .func (.func 34) #[] #[.pointer (some ⟨bf, 0, none⟩), .pointer (some ⟨bb, 0, none⟩), .pointer (some ⟨br, 0, none⟩)]] w fun e w' => e = .returned (.tuple #[]) ∧ Has w' bf (pl6 (plF ((pl m (bM M) n 0 0 q).getD rank []) n)) 54 ∧ Chg (fun k => k = bf ∨ k = bb) w w' := by
  have h := walk_any n m q M 34 #[] #[.pointer (some ⟨bf, 0, none⟩), .pointer (some ⟨bb, 0, none⟩), .pointer (some ⟨br, 0, none⟩)] (fun k => k = bf ∨ k = bb)
    (fun j wr => Has wr bf (pl6 (visF (pl m (bM M) n 0 0 q) n j)) 54 ∧ Has wr bb [.int .i64 j] 3 ∧ Has wr br [.int .i64 rank] 3)
    (fun j => decide (j + 1 ≤ rank)) w hn hm hq hg (fun b hb => hb.elim (fun e => by rw [e]; exact H.lt) (fun e => by rw [e]; exact H1.lt))
    (fun j w1 w2 hc hi => ⟨Chg.has hc (by have := H.lt; omega) hi.1, Chg.has hc (by have := H1.lt; omega) hi.2.1, Chg.has hc (by have := H2.lt; omega) hi.2.2⟩)
    (fun _ _ => by kernel_rfl)
    (fun j P hj wr hi => by
      have hlt : j < (pl m (bM M) n 0 0 q).length := (List.getElem?_eq_some_iff.1 hj).1
      rw [pl_len] at hlt
      have hle := wR_le m hm (bM M) n 0 0 q
      have h7 : 7 ^ n ≤ 7 ^ 6 := Nat.pow_le_pow_right (by omega) hn
      refine (pw1_any (plF P n) _ bf bb br j rank wr h1 h2 h3 hi.1 hi.2.1 hi.2.2 (by omega)).mono ?_
      rintro e w' ⟨rfl, hc, hf, hh⟩
      refine ⟨rfl, ⟨?_, hh, Chg.has hc (by omega) hi.2.2⟩, hc⟩
      rw [show visF (pl m (bM M) n 0 0 q) n (j + 1) = plF P n by unfold visF; rw [if_neg (by omega), Nat.add_sub_cancel, List.getD_eq_getElem?_getD, hj]; rfl]
      exact hf)
    ⟨H, H1, H2⟩
  refine h.mono ?_
  rintro e w' ⟨rfl, hi, hc⟩
  rw [runV_stop _ rank (fun _ => rfl) _ 0 (by omega) (by omega)] at hi
  refine ⟨rfl, ?_, hc⟩
  have := hi.1
  rw [show visF (pl m (bM M) n 0 0 q) n ((rank + 1 - 0, false) : Nat × Bool).1 = plF ((pl m (bM M) n 0 0 q).getD rank []) n by unfold visF; rw [if_neg (by simp)]; rfl] at this
  exact this
end Go.Proofs.Ytcacechmgdfckaa
end

section
namespace Go.Proofs.Ytcacechmgdfckaa
open Go.RowKit

/-- What is appended: nothing at all, or a row of cells. -/
def Src (w : World) (src : Value) (ys : List Int) : Prop :=
  (src = .slice none 0 0 ∧ ys = []) ∨ ∃ ad cap, src = .slice (some ad) ys.length cap ∧ ∀ j, j < ys.length → w.cell? (ad.add j) = some (.int .i64 (ys.getD j 0))

theorem Own.src {w : World} {lo : Nat} {v : Value} {xs : List Int} (h : Own w lo v xs) : Src w v xs := by
  rcases h.cases with h2 | ⟨g, cap, rfl, h1, h2, h3, h4⟩
  · exact .inl h2
  · refine .inr ⟨_, cap, rfl, fun j hj => ?_⟩
    rw [Addr.add_lit, Nat.zero_add]
    exact h.cell j hj

theorem Src.kept {w w' : World} {v : Value} {ys : List Int} (h : Src w v ys) (hb : Below w.heap.size w w') : Src w' v ys := by
  rcases h with h | ⟨ad, cap, hv, hc⟩
  · exact .inl h
  · refine .inr ⟨ad, cap, hv, fun j hj => ?_⟩
    have := hc j hj
    have hlt := World.block_lt_of_cell? _ _ this
    rw [hb.cell hlt]
    exact this

theorem wp_append {w : World} {ops : Array Oper} {rest : List Oper} {o : Oper} {a : Act} {Q : Exit → Act → World → Prop} (hgd : o.guard = none) (s x : Operand)
    (ho : o.op = .call { callee := .builtin .append, args := #[s, x], argTypes := #[22, 22] }) (lo : Nat) (v : Value) (xs ys : List Int) (src : Value)
    (hs : a.eval s = v) (hx : a.eval x = src) (hown : Own w lo v xs) (hsrc : Src w src ys) (hl : xs.length + ys.length ≤ 1048576) (hlo : lo ≤ w.heap.size)
    (h : ∀ v' w', Own w' lo v' (xs ++ ys) → w.grownBy w' v.ownBlock → wpList Try.prog ops Q rest (a.put o.dst v') w') : wpList Try.prog ops Q (o :: rest) a w := by
  obtain ⟨i0, hi, hz0, hz1, hz2⟩ := info_parts Try.infoI
  rcases hsrc with ⟨rfl, rfl⟩ | ⟨ad, cap, rfl, hc⟩
  · refine wpList_append_own_none hgd s x 22 ho lo 3 i0 1 Try.underlying22 hi v xs.length _ hs hown hx ?_
    exact h v w (by simpa using hown) (World.grownBy.refl _ _)
  · refine wpList_append_own w hgd s x 22 ho lo 3 i0 (.int .i64 0) 1 8 Try.underlying22 hi hz0 hz1 hz2 rfl (by decide) v xs.length _ hs hown ad ys.length cap (ys.map (Value.int .i64)) hx (by simp) ?_ (ints_oneCell _ _) (by unfold maxLen; omega) (by omega) hlo ?_
    · intro j u hu
      obtain ⟨hj, rfl⟩ := List.getElem?_eq_some_iff.1 hu
      simp only [List.length_map] at hj
      rw [hc j hj]
      simp [List.getD, hj]
    · intro v' w' h1 h2 _
      refine h v' w' ?_ h2
      unfold Own
      rw [List.length_append, List.map_append]
      exact h1

/-- A new slice of nothing. -/
theorem own_empty (w : World) : Own (w.alloc (.cells #[] 3)) w.heap.size (.slice (some ⟨w.heap.size, 0, none⟩) 0 0) [] :=
  ⟨by simp, .inr ⟨w.heap.size, 0, #[], rfl, Nat.le_refl _, heap_alloc_new w _, Nat.le_refl _, by unfold maxLen; omega, by simp, by simp⟩⟩

set_option maxHeartbeats 800000 in
theorem l1Own_any (xs : List Int) (w : World) (hx : xs.length ≤ 1048576) (src : Value) (hs : Src w src xs) :
    Calls Try.prog 44 #[src] w fun e w' => ∃ v, e = .returned v ∧ Own w' w.heap.size v xs ∧ Below w.heap.size w w' := by
  have hb := below_new (w := w) (.cells #[] 3)
  have hs1 := hs.kept hb
  have HO := Lib.hid (own_empty w)
  have HS := Lib.hid hs1
  have HB := Lib.hid hb
  clear hs hb hs1
  go_enter Try.func44, Try.ntmps44
  go_wp2_with (at_builtin; refine wp_append rfl _ _ rfl w.heap.size _ [] xs _ rfl rfl HO.out HS.out ?h1 ?h2 ?_)
  case h1 => simp; omega
  case h2 => simp
  intro v w1 hO hg
  have HO1 := Lib.hid hO; clear hO
  have HB1 := Lib.hid (HB.out.grown hg (by simp) (by intro k hk; simp [Value.ownBlock] at hk; omega))
  clear hg
  go_wp2
  go_ret
  exact ⟨_, rfl, by simpa using HO1.out, HB1.out⟩

end Go.Proofs.Ytcacechmgdfckaa
end
