import Derived.Test.YtakdiiccdkjjcacFold8
import Derived.Test.YtakdiiccdkjjcacFold6
import Derived.Test.YtakdiiccdkjjcacFold4
import Derived.Laws.AppendOwnNone
import Derived.Deep.AppendLies

section
namespace Go.Proofs.Ytakdiiccdkjjcac
open Go.RowKit Go.WideShapes

/-- How many file placements have k rooks in the first columns. -/
def filF (c : Nat → Int) : Nat → Nat → Int
  | 0, k => if k = 0 then 1 else 0
  | m + 1, k => filF c m k + (if k = 0 then 0 else filF c m (k - 1) * c m)
theorem filF_zero (c : Nat → Int) (m : Nat) : filF c m 0 = 1 := by
  induction m with
  | zero => rfl
  | succ m ih => rw [filF, ih]; rfl
theorem filF_next (c : Nat → Int) (m k : Nat) : filF c (m + 1) (k + 1) = filF c m (k + 1) + filF c m k * c m := by
  rw [filF, if_neg (by omega), Nat.add_sub_cancel]
theorem filF_out (c : Nat → Int) (m : Nat) : ∀ k, m < k → filF c m k = 0 := by
  induction m with
  | zero => intro k hk; rw [filF, if_neg (by omega)]
  | succ m ih =>
    intro k hk
    obtain ⟨j, rfl⟩ : ∃ j, k = j + 1 := ⟨k - 1, by omega⟩
    rw [filF_next, ih _ (by omega), ih _ (by omega), Int.zero_mul, Int.add_zero]
theorem filF_bd (c : Nat → Int) (hc : ∀ i, 0 ≤ c i ∧ c i ≤ 11) (m : Nat) : ∀ k, 0 ≤ filF c m k ∧ filF c m k ≤ (12 : Int) ^ m := by
  induction m with
  | zero => intro k; rw [filF]; split <;> simp
  | succ m ih =>
    intro k
    obtain ⟨h1, h2⟩ := ih k
    have hp : (12 : Int) ^ (m + 1) = 12 ^ m * 12 := Int.pow_succ _ _
    by_cases e : k = 0
    · subst e
      rw [filF_zero] at *
      rw [hp]
      omega
    · obtain ⟨j, rfl⟩ : ∃ j, k = j + 1 := ⟨k - 1, by omega⟩
      obtain ⟨h3, h4⟩ := ih j
      obtain ⟨c1, c2⟩ := hc m
      rw [filF_next, hp]
      have h5 : 0 ≤ filF c m j * c m := Int.mul_nonneg h3 c1
      have h6 : filF c m j * c m ≤ 12 ^ m * 11 := Int.mul_le_mul h4 c2 c1 (Int.le_trans h3 h4)
      omega
theorem filF_small (c : Nat → Int) (hc : ∀ i, 0 ≤ c i ∧ c i ≤ 11) (m : Nat) (hm : m ≤ 11) (k : Nat) : 0 ≤ filF c m k ∧ filF c m k ≤ 743008370688 := by
  obtain ⟨h1, h2⟩ := filF_bd c hc m k
  have h3 : (12 : Int) ^ m ≤ 12 ^ 11 := by
    have key : ∀ m : Fin 12, (12 : Int) ^ (m : Nat) ≤ 12 ^ 11 := by decide +kernel
    exact key ⟨m, by omega⟩
  have h4 : (12 : Int) ^ 11 = 743008370688 := by decide +kernel
  omega
/-- The numbers while column m is counted: those above j are told anew. -/
def midF (c : Nat → Int) (m j i : Nat) : Int := if j < i then filF c (m + 1) i else filF c m i
theorem midF_start (c : Nat → Int) (L m : Nat) : lstH L (midF c m (m + 1)) = lstH L (filF c m) := lstH_congr L _ _ (fun i _ => by
  unfold midF
  by_cases h : m + 1 < i
  · rw [if_pos h, filF_out c (m + 1) i h, filF_out c m i (by omega)]
  · rw [if_neg h])
theorem midF_end (c : Nat → Int) (L m : Nat) : lstH L (midF c m 0) = lstH L (filF c (m + 1)) := lstH_congr L _ _ (fun i _ => by
  unfold midF
  by_cases h : 0 < i
  · rw [if_pos h]
  · obtain rfl : i = 0 := by omega
    rw [if_neg h, filF_zero, filF_zero])
theorem midF_set (c : Nat → Int) (L m j : Nat) : (lstH L (midF c m (j + 1))).set (j + 1) (filF c m (j + 1) + filF c m j * c m) = lstH L (midF c m j) :=
  lstH_set L _ _ (j + 1) _ (by unfold midF; rw [if_pos (by omega), filF_next]) (fun i _ hi => by
    unfold midF
    by_cases h : j + 1 < i
    · rw [if_pos h, if_pos (by omega)]
    · rw [if_neg h, if_neg (by omega)])
theorem filF_first (c : Nat → Int) (L : Nat) : (List.replicate L (0 : Int)).set 0 1 = lstH L (filF c 0) := by
  rw [lstH_zero]
  exact lstH_set L _ _ 0 _ rfl (fun i _ hi => by rw [filF, if_neg hi])

set_option maxRecDepth 100000 in
set_option maxHeartbeats 6400000 in
theorem fileNumbers_any (L : Nat) (cs : List Int) (a : Option Addr) (p : Nat) (w : World) (hl : cs.length = L) (hL : L ≤ 11) (hc : ∀ i, 0 ≤ cs.getD i 0 ∧ cs.getD i 0 ≤ 11) (hr : Reads w a L cs) :
    Calls Try.prog 70 #[.slice a L p] w fun e w' => ∃ g, e = .returned (.slice (some ⟨g, 0, none⟩) (L + 1) (L + 1)) ∧ Own w' w.heap.size (.slice (some ⟨g, 0, none⟩) (L + 1) (L + 1)) (lstH (L + 1) (filF (fun i => cs.getD i 0) L)) ∧ Below w.heap.size w w' := by
  have hmk : ∀ w, (Instr.makeSlice 22 (.int .i64 ((L + 1 : Nat) : Int)) (.int .i64 ((L + 1 : Nat) : Int))).run Try.prog w = .ok (.slice (some ⟨w.heap.size, 0, none⟩) (L + 1) (L + 1)) (w.alloc (.cells (madeCells #[.int .i64 0] (L + 1)) 3)) := by
    intro w
    exact run_make_row' (P := Try.prog) 22 3 (.int .i64 0) 8 Try.underlying22 Try.infoI rfl .i64 .i64 (L + 1) (by omega) (by omega) w
  have L0 := (Law.start w).own (below_new _) (own_made w (L + 1) _ w.heap.size rfl (Nat.le_refl _) (by omega))
  have o := L0.ownInts
  have y1 := Own.cell (by rw [List.length_replicate]; exact o) 0 (by rw [List.length_replicate]; omega)
  have y2 := Own.free (by rw [List.length_replicate]; exact o) 0
  rw [show (List.replicate (L + 1) (0 : Int)).getD 0 0 = 0 from rfl] at y1
  have hS := Law.store (ts := []) L0 (by simp) 0 1
  obtain ⟨c, hcc⟩ : ∃ c : Nat → Int, c = fun i => cs.getD i 0 := ⟨_, rfl⟩
  rw [filF_first c (L + 1)] at hS
  have HS := Lib.hid (show Law w [tOwn (.slice (some ⟨w.heap.size, 0, none⟩) (L + 1) (L + 1)) (lstH (L + 1) (filF c 0))] _ from hS)
  rw [← hcc]
  have HSM := Lib.hid (fun m (hm : m ≤ 11) k => filF_small c (by rw [hcc]; exact hc) m hm k)
  have HCB := Lib.hid (fun i => show 0 ≤ c i ∧ c i ≤ 11 by rw [hcc]; exact hc i)
  have HCE := Lib.hid (fun i => show cs.getD i 0 = c i by rw [hcc])
  have HR := Lib.hid hr
  have hc1 : ((L + 1 : Nat) : Int) = (L : Int) + 1 := by omega
  have hLI : (L : Int) ≤ 11 := by omega
  have HLL := Lib.hid hl
  rw [hc1] at hmk
  clear L0 o hS hcc hc hr hc1 hl
  go_enter Try.func70, Try.ntmps70
  go_upto_region 2 with fail
  generalize w.alloc (.cells (madeCells #[.int .i64 0] (L + 1)) 3) = w5 at *
  obtain ⟨g, hgg⟩ : ∃ g, g = w.heap.size := ⟨_, rfl⟩
  rw [← hgg] at HS y1 y2 ⊢
  have HGG := Lib.hid hgg
  clear hmk hgg
  go_wp2_with fail
  go_loopw [15] (fun i wr => ∃ m : Nat, m ≤ L ∧ i = .int .i64 m ∧ Law w [tOwn (.slice (some ⟨g, 0, none⟩) (L + 1) (L + 1)) (lstH (L + 1) (filF c m))] wr) (fun i _ => L - (intOf i).toNat)
  case atStart => exact ⟨0, Nat.zero_le _, rfl, HS.out⟩
  case round =>
    clear HS y1 y2
    obtain ⟨m, hm, rfl, L0⟩ := hrel
    by_cases hlt : m < L
    · have hr1 := L0.reads HR.out
      obtain ⟨b, off, rfl, hb, hcell⟩ := reads_row hr1 (by omega)
      have hck := hcell m hlt
      rw [HCE.out m] at hck
      rw [← midF_start c (L + 1) m] at L0
      have hcb := HCB.out m
      obtain ⟨cm, hcm⟩ : ∃ cm, cm = c m := ⟨_, rfl⟩
      have HCM := Lib.hid hcm
      rw [← hcm] at hck hcb
      have HL := Lib.hid L0
      have hmL : (m : Int) < L := by omega
      clear L0 hr1 hb hcell hcm
      go_upto_region 7 with fail
      go_loopw [6] (fun i wr => ∃ j : Nat, j ≤ m + 1 ∧ ∃ x : Int, i = .int .i64 x ∧ Hid (x = (j : Int) - 1) ∧ Law w [tOwn (.slice (some ⟨g, 0, none⟩) (L + 1) (L + 1)) (lstH (L + 1) (midF c m j))] wr) (fun i _ => (intOf i + 1).toNat)
      case atStart => exact ⟨m + 1, Nat.le_refl _, _, rfl, Lib.hid (by omega), HL.out⟩
      case round =>
        clear HL
        obtain ⟨j, hj, x, rfl, HX, L1⟩ := hrel
        by_cases hj0 : 0 < j
        · obtain ⟨k, rfl⟩ : ∃ k, j = k + 1 := ⟨j - 1, by omega⟩
          have hxk : x = (k : Int) := by have := HX.out; omega
          subst hxk
          have o := L1.ownInts
          have y1 := Own.cell (by rw [lstH_len]; exact o) (k + 1) (by rw [lstH_len]; omega)
          have y2 := Own.free (by rw [lstH_len]; exact o) (k + 1)
          have z1 := Own.cell (by rw [lstH_len]; exact o) k (by rw [lstH_len]; omega)
          rw [lstH_get (L + 1) _ _ (by omega), show midF c m (k + 1) (k + 1) = filF c m (k + 1) by simp [midF]] at y1
          rw [lstH_get (L + 1) _ _ (by omega), show midF c m (k + 1) k = filF c m k by unfold midF; rw [if_neg (by omega)]] at z1
          have hS := Law.store (ts := []) L1 (lstH_len _ _) (k + 1) (filF c m (k + 1) + filF c m k * c m)
          rw [midF_set] at hS
          rw [← HCM.out] at hS
          have b1 := HSM.out m (by omega) (k + 1)
          have b2 := HSM.out m (by omega) k
          generalize filF c m (k + 1) = v1 at *
          generalize filF c m k = v2 at *
          have b3 : 0 ≤ v2 * cm := Int.mul_nonneg b2.1 hcb.1
          have b4 : v2 * cm ≤ 743008370688 * 11 := Int.mul_le_mul b2.2 hcb.2 hcb.1 (by decide)
          obtain ⟨q, hq⟩ : ∃ q, q = v2 * cm := ⟨_, rfl⟩
          rw [← hq] at b3 b4 hS
          have hq1 : wrap64 (v2 * cm) = q := by rw [← hq]; exact IntWalk.wrap64_in _ (by omega)
          have hq2 : IntKind.i64.wrap (v2 * cm) = q := by rw [← hq]; exact IntWalk.i64_in _ (by omega)
          have HQ3 := Lib.hid (show wrap64 (v1 + q) = v1 + q from IntWalk.wrap64_in _ (by omega))
          have hq4 : IntKind.i64.wrap (v1 + q) = v1 + q := IntWalk.i64_in _ (by omega)
          have HS := Lib.hid (show Law w [tOwn (.slice (some ⟨g, 0, none⟩) (L + 1) (L + 1)) (lstH (L + 1) (midF c m k))] _ from hS)
          have k0 : (0 : Int) ≤ k := by omega
          have k1 : (k : Int) + 1 < (L : Int) + 1 := by omega
          have k2 : (k : Int) < (L : Int) + 1 := by omega
          have k3 : IntKind.i64.wrap ((k : Int) + 1) = (k : Int) + 1 := IntWalk.i64_in _ (by omega)
          clear L1 o hS hq b1 b2 b3 b4 hj0 HX hcb
          go_wp2_with fail
          go_region
          go_wp2_with fail
          go_roundw
          case rel => exact ⟨k, by omega, _, rfl, Lib.hid (by omega), HS.out.drew⟩
          case measure => simp [intOf]
        · have hj1 : j = 0 := by omega
          subst hj1
          have hxk : x = -1 := by have := HX.out; omega
          subst hxk
          rw [midF_end] at L1
          have HL := Lib.hid L1
          clear L1 HX hj0
          go_wp2_with fail
          go_roundw
          case rel => exact ⟨m + 1, by omega, by go_num, HL.out⟩
          case measure => simp [intOf]; omega
    · obtain rfl : m = L := by omega
      have HL := Lib.hid L0
      clear L0
      go_wp2_with fail
      go_ret
      exact ⟨_, rfl, HL.out.ownLo, HL.out.below⟩
end Go.Proofs.Ytakdiiccdkjjcac
end

section
namespace Go.Proofs.Ytakdiiccdkjjcac
open Go.RowKit

/-- What is appended: nothing at all, or a row of cells. -/
def Src (w : World) (src : Value) (ys : List Int) : Prop :=
  (src = .slice none 0 0 ∧ ys = []) ∨ ∃ ad cap, src = .slice (some ad) ys.length cap ∧ ∀ j, j < ys.length → w.cell? (ad.add j) = some (.int .i64 (ys.getD j 0))

theorem Own.src {w : World} {lo : Nat} {v : Value} {xs : List Int} (h : Own w lo v xs) : Src w v xs := by
  rcases h.cases with h2 | ⟨g, cap, rfl, h1, h2, h3, h4⟩
  · exact .inl h2
  · refine .inr ⟨_, cap, rfl, fun j hj => ?_⟩
    rw [Addr.add_lit, Nat.zero_add]
    exact h.cell j hj

theorem Src.kept {w w' : World} {v : Value} {ys : List Int} (h : Src w v ys) (hb : Below w.heap.size w w') : Src w' v ys := by
  rcases h with h | ⟨ad, cap, hv, hc⟩
  · exact .inl h
  · refine .inr ⟨ad, cap, hv, fun j hj => ?_⟩
    have := hc j hj
    have hlt := World.block_lt_of_cell? _ _ this
    rw [hb.cell hlt]
    exact this

theorem wp_append {w : World} {ops : Array Oper} {rest : List Oper} {o : Oper} {a : Act} {Q : Exit → Act → World → Prop} (hgd : o.guard = none) (s x : Operand)
    (ho : o.op = .call { callee := .builtin .append, args := #[s, x], argTypes := #[22, 22] }) (lo : Nat) (v : Value) (xs ys : List Int) (src : Value)
    (hs : a.eval s = v) (hx : a.eval x = src) (hown : Own w lo v xs) (hsrc : Src w src ys) (hl : xs.length + ys.length ≤ 1048576) (hlo : lo ≤ w.heap.size)
    (h : ∀ v' w', Own w' lo v' (xs ++ ys) → w.grownBy w' v.ownBlock → wpList Try.prog ops Q rest (a.put o.dst v') w') : wpList Try.prog ops Q (o :: rest) a w := by
  obtain ⟨i0, hi, hz0, hz1, hz2⟩ := info_parts Try.infoI
  rcases hsrc with ⟨rfl, rfl⟩ | ⟨ad, cap, rfl, hc⟩
  · refine wpList_append_own_none hgd s x 22 ho lo 3 i0 1 Try.underlying22 hi v xs.length _ hs hown hx ?_
    exact h v w (by simpa using hown) (World.grownBy.refl _ _)
  · refine wpList_append_own w hgd s x 22 ho lo 3 i0 (.int .i64 0) 1 8 Try.underlying22 hi hz0 hz1 hz2 rfl (by decide) v xs.length _ hs hown ad ys.length cap (ys.map (Value.int .i64)) hx (by simp) ?_ (ints_oneCell _ _) (by unfold maxLen; omega) (by omega) hlo ?_
    · intro j u hu
      obtain ⟨hj, rfl⟩ := List.getElem?_eq_some_iff.1 hu
      simp only [List.length_map] at hj
      rw [hc j hj]
      simp [List.getD, hj]
    · intro v' w' h1 h2 _
      refine h v' w' ?_ h2
      unfold Own
      rw [List.length_append, List.map_append]
      exact h1

/-- A new slice of nothing. -/
theorem own_empty (w : World) : Own (w.alloc (.cells #[] 3)) w.heap.size (.slice (some ⟨w.heap.size, 0, none⟩) 0 0) [] :=
  ⟨by simp, .inr ⟨w.heap.size, 0, #[], rfl, Nat.le_refl _, heap_alloc_new w _, Nat.le_refl _, by unfold maxLen; omega, by simp, by simp⟩⟩

set_option maxHeartbeats 800000 in
theorem l1Own_any (xs : List Int) (w : World) (hx : xs.length ≤ 1048576) (src : Value) (hs : Src w src xs) :
    Calls Try.prog 169 #[src] w fun e w' => ∃ v, e = .returned v ∧ Own w' w.heap.size v xs ∧ Below w.heap.size w w' := by
  have hb := below_new (w := w) (.cells #[] 3)
  have hs1 := hs.kept hb
  have HO := Lib.hid (own_empty w)
  have HS := Lib.hid hs1
  have HB := Lib.hid hb
  clear hs hb hs1
  go_enter Try.func169, Try.ntmps169
  go_wp2_with (at_builtin; refine wp_append rfl _ _ rfl w.heap.size _ [] xs _ rfl rfl HO.out HS.out ?h1 ?h2 ?_)
  case h1 => simp; omega
  case h2 => simp
  intro v w1 hO hg
  have HO1 := Lib.hid hO; clear hO
  have HB1 := Lib.hid (HB.out.grown hg (by simp) (by intro k hk; simp [Value.ownBlock] at hk; omega))
  clear hg
  go_wp2
  go_ret
  exact ⟨_, rfl, by simpa using HO1.out, HB1.out⟩

end Go.Proofs.Ytakdiiccdkjjcac
end

section
namespace Go.Proofs.Ytakdiiccdkjjcac
open Go.RowKit

/-- One of the things becomes another, on its own blocks and on new ones. -/
theorem Law.write' {w0 w w' : World} {ts ts' : List Thing} {t : Thing} (h : Law w0 (ts ++ t :: ts') w) (hc : Chg t.foot w w') (t' : Thing)
    (hf : ∀ k, t'.foot k → t.foot k ∨ (w.heap.size ≤ k ∧ k < w'.heap.size)) (ht : t'.holds w') : Law w0 (ts ++ t' :: ts') w' := by
  have hd := h.dis
  rw [List.pairwise_append, List.pairwise_cons] at hd
  obtain ⟨d1, ⟨d2, d3⟩, d4⟩ := hd
  have hrt := h.range t (by simp)
  have hrl : ∀ x, x ∈ ts → ∀ k, x.foot k → k < w.heap.size := fun x hm k hk => (h.range x (by simp [hm]) k hk).2
  have hrr : ∀ x, x ∈ ts' → ∀ k, x.foot k → k < w.heap.size := fun x hm k hk => (h.range x (by simp [hm]) k hk).2
  have keep : ∀ x, x ∈ ts ++ t :: ts' → (∀ k, x.foot k → ¬ t.foot k) → x.holds w' := fun x hm hn => x.stable w w' hc.size (fun k hk => hc.block k (h.range x hm k hk).2 (hn k hk)) (h.holds x hm)
  refine ⟨?_, ?_, ?_, ?_⟩
  · exact h.below.trans ⟨hc.os, hc.tape, hc.output, hc.size, fun k hk => hc.block k (by have := h.below.size; omega) (fun e => by have := (hrt k e).1; omega)⟩
  · intro x hm
    rcases List.mem_append.1 hm with hm | hm
    · exact keep x (by simp [hm]) (fun k hk e => d4 x hm t (by simp) k hk e)
    · rcases List.mem_cons.1 hm with rfl | hm
      · exact ht
      · exact keep x (by simp [hm]) (fun k hk e => d2 x hm k e hk)
  · intro x hm k hk
    rcases List.mem_append.1 hm with hm | hm
    · exact ⟨(h.range x (by simp [hm]) k hk).1, Nat.lt_of_lt_of_le (h.range x (by simp [hm]) k hk).2 hc.size⟩
    · rcases List.mem_cons.1 hm with rfl | hm
      · rcases hf k hk with hk | hk
        · exact ⟨(hrt k hk).1, Nat.lt_of_lt_of_le (hrt k hk).2 hc.size⟩
        · have := h.below.size
          omega
      · exact ⟨(h.range x (by simp [hm]) k hk).1, Nat.lt_of_lt_of_le (h.range x (by simp [hm]) k hk).2 hc.size⟩
  · rw [List.pairwise_append, List.pairwise_cons]
    refine ⟨d1, ⟨fun b hb k e1 e2 => ?_, d3⟩, fun a ha b hb k e e2 => ?_⟩
    · rcases hf k e1 with e1 | e1
      · exact d2 b hb k e1 e2
      · have := hrr b hb k e2
        omega
    · rcases List.mem_cons.1 hb with rfl | hb
      · rcases hf k e2 with e2 | e2
        · exact d4 a ha t (by simp) k e e2
        · have := hrl a ha k e
          omega
      · exact d4 a ha b (by simp [hb]) k e e2

/-- One of the slices has grown. -/
theorem Law.grow {w0 w w' : World} {ts ts' : List Thing} {s s' : Value} {xs ys : List Int} (h : Law w0 (ts ++ tOwn s xs :: ts') w) (hg : w.grownBy w' s.ownBlock) {lo : Nat} (hs : Own w' lo s' ys)
    (hb : ∀ k, s'.ownBlock = some k → s.ownBlock = some k ∨ k = w.heap.size) : Law w0 (ts ++ tOwn s' ys :: ts') w' :=
  h.write' (Chg.of_grown hg (fun _ e => e)) (tOwn s' ys) (fun k hk => by
    rcases hb k hk with e | e
    · exact .inl e
    · exact .inr ⟨by omega, (own_lt hs k hk).2⟩) (hs.lower (Nat.zero_le _))

/-- The third cell of a box is written. -/
theorem Law.set2 {w0 w : World} {ts ts' : List Thing} {n : Nat} {x y z : Value} (h : Law w0 (ts ++ tBox n x y z :: ts') w) (z' : Value) :
    Law w0 (ts ++ tBox n x y z' :: ts') (w.setCell ⟨n, 2, none⟩ z') := by
  have hb : Box w n x y z := h.holds (tBox n x y z) (by simp)
  refine h.write (t := tBox n x y z) (show Chg (tBox n x y z).foot w (w.setCell ⟨n, 2, none⟩ z') from ⟨rfl, rfl, rfl, by simp [World.setCell], fun k _ hf => Below.heap_setCell w ⟨n, 2, none⟩ z' k (fun e => hf e)⟩) (tBox n x y z') rfl ?_
  refine ⟨by have := hb.lt; simp [World.setCell]; omega, ?_, ?_, ?_, fun o => by rw [World.frozen?_setCell]; exact hb.fr o⟩
  · rw [World.cell?_setCell_other _ _ _ _ (by simp)]; exact hb.c0
  · rw [World.cell?_setCell_other _ _ _ _ (by simp)]; exact hb.c1
  · exact World.cell?_setCell_same _ _ _ hb.c2

/-- append of one number, as one step of a region that draws. -/
theorem step_app {ops : Array Oper} {o : Oper} {a : Act} {w : World} {K : Act → World → Prop} {Q : Exit → Act → World → Prop} {E : Prop} (hgd : o.guard = none) (s x : Operand)
    (ho : o.op = .call { callee := .builtin .append, args := #[s, x], argTypes := #[22, 22] }) (lo : Nat) (v : Value) (xs : List Int) (n : Nat) (y : Int) (g0 : Nat)
    (hs : a.eval s = v) (hx : a.eval x = .slice (some ⟨g0, 0, none⟩) 1 1) (hown : Own w lo v xs) (hn : xs.length = n) (hnew : w.cell? ⟨g0, 0, none⟩ = some (.int .i64 y)) (hl : n + 1 ≤ 1048576) (hlo : lo ≤ w.heap.size) (H : Nat) (hH : w.heap.size = H)
    (h : ∀ g cap w', Own w' lo (.slice (some ⟨g, 0, none⟩) (n + 1) cap) (xs ++ [y]) → w.grownBy w' v.ownBlock → (v.ownBlock = some g ∨ g = H) → g < w'.heap.size → K (a.put o.dst (.slice (some ⟨g, 0, none⟩) (n + 1) cap)) w') :
    if Region.wanted o (yielded ops a.tmps) = true then Oper.wp Try.prog o a w K Q else E := by
  subst hn
  obtain ⟨i0, hi, hz0, hz1, hz2⟩ := info_parts Try.infoI
  refine step_append_lies w hgd s x 22 ho lo 3 i0 (.int .i64 0) 1 8 Try.underlying22 hi hz0 hz1 hz2 rfl (by decide) v xs.length _ hs hown ⟨g0, 0, none⟩ 1 1 [.int .i64 y] hx rfl ?_ (by intro u hu; simp at hu; subst hu; rfl) (by decide) (by unfold maxLen; omega) (by omega) hlo H hH ?_
  · intro j u hu
    match j, hu with
    | 0, hu =>
      simp at hu
      subst hu
      rw [Addr.add_lit]
      exact hnew
  · intro g cap w' h1 h2 h3 h4
    refine h g cap w' ?_ h2 h3 h4
    unfold Own
    rw [List.length_append, List.map_append]
    exact h1

end Go.Proofs.Ytakdiiccdkjjcac
end
