import Derived.Test.YtdimbnkgomfojabFold18
import Derived.Test.YtdimbnkgomfojabFold4
import Derived.Test.YtdimbnkgomfojabFold0
import Derived.Test.YtdimbnkgomfojabFold5
import Derived.Test.YtdimbnkgomfojabFold15

section
namespace Go.Proofs.Ytdimbnkgomfojab
open Go.RowKit Go.WideShapes

set_option maxRecDepth 100000 in
set_option maxHeartbeats 6400000 in
theorem walkCh_any (n m k : Nat) (M : Nat → Int) (V : FuncId) (first cap : Array Value) (gc cp : Nat) (C : List Int) (foot : Nat → Nat → Prop) (I : Nat → Nat → World → Prop) (cont : Nat → Bool) (w : World)
    (hn : n ≤ 6) (hm : m ≤ 6) (hk : k ≤ 6) (hgc : ∀ k, k < 6 → 0 ≤ M k ∧ M k < 64) (hC : choiceOk m C)
    (hfoot : ∀ bp b, w.heap.size ≤ bp → foot bp b → (b < w.heap.size ∧ b ≠ gc) ∨ bp + 1 < b) (hkeep : ∀ bp j w1 w2, w.heap.size ≤ bp → Chg (fun b => b = bp) w1 w2 → I bp j w1 → I bp j w2)
    (hcall : ∀ (args : Array Value) (w : World), (callFunc V args).run Try.prog w = .ok (.enter V args) w)
    (hvis : ∀ bp, w.heap.size ≤ bp → ∀ j P, (plG (bM M) C n 0 0 k)[j]? = some P → ∀ w, I bp j w → Calls Try.prog V (first.push (pv6 (plF P n)) ++ cap) w fun e w' => e = .returned (.bool (cont j)) ∧ I bp (j + 1) w' ∧ Chg (foot bp) w w')
    (hO : Own w 0 (.slice (some ⟨gc, 0, none⟩) C.length cp) C)
    (hI : ∀ bp w', w.heap.size ≤ bp → bp + 1 < w'.heap.size → Below w.heap.size w w' → I bp 0 w') :
    Calls Try.prog 105 #[gv n m M, .int .i64 k, .slice (some ⟨gc, 0, none⟩) C.length cp, .func (.func V) first cap] w fun e w' => e = .returned (.tuple #[]) ∧ ∃ bp, w.heap.size ≤ bp ∧ I bp (runV cont 0 (plG (bM M) C n 0 0 k).length).1 w' ∧ Chg (fun b => b < w.heap.size ∧ foot bp b) w w' := by
  have L0 := (((Law.start w).has (gl n m M) 68).has [.slice (some ⟨gc, 0, none⟩) C.length cp] 22).has [.func (.func V) first cap] 73
  simp only [World.size_alloc] at L0
  have HL := Lib.hid L0
  have HV := Lib.hid hvis
  have HKP := Lib.hid hkeep
  have HFT := Lib.hid hfoot
  have HIW := Lib.hid hI
  have HGC := Lib.hid hgc
  have HCH := Lib.hid hC
  have HO := Lib.hid hO
  have HGL := Lib.hid (own_lt hO gc rfl).2
  clear L0 hvis hkeep hfoot hI hgc hC hO
  go_enter Try.func105, Try.ntmps105
  go_wp2_with fail
  refine (noPlaces_any _).mono ?_
  rintro e w1 ⟨rfl, hb⟩
  have L1 := ((HL.out.kept hb).has (pl6 (fun _ => -1)) 71).has [.func (.func 127) #[] #[.pointer (some ⟨w.heap.size, 0, none⟩), .pointer (some ⟨w.heap.size + 1 + 1, 0, none⟩), .pointer (some ⟨w1.heap.size, 0, none⟩), .pointer (some ⟨w.heap.size + 1, 0, none⟩), .pointer (some ⟨w1.heap.size + 1, 0, none⟩)]] 96
  simp only [World.size_alloc] at L1
  rw [show (w1.alloc (.cells (pl6 (fun _ => -1)).toArray 71)) = (w1.alloc (.cells #[.int .i64 (-1), .int .i64 (-1), .int .i64 (-1), .int .i64 (-1), .int .i64 (-1), .int .i64 (-1)] 71)) from rfl] at L1
  have hz1 := hb.size
  simp only [World.size_alloc] at hz1
  have L2 : Law w [tHas (w1.heap.size + 1) [.func (.func 127) #[] #[.pointer (some ⟨w.heap.size, 0, none⟩), .pointer (some ⟨w.heap.size + 1 + 1, 0, none⟩), .pointer (some ⟨w1.heap.size, 0, none⟩), .pointer (some ⟨w.heap.size + 1, 0, none⟩), .pointer (some ⟨w1.heap.size + 1, 0, none⟩)]] 96, tHas w1.heap.size (pl6 (fun _ => -1)) 71, tHas (w.heap.size + 1 + 1) [.func (.func V) first cap] 73, tHas (w.heap.size + 1) [.slice (some ⟨gc, 0, none⟩) C.length cp] 22, tHas w.heap.size (gl n m M) 68] ((w1.alloc (.cells #[.int .i64 (-1), .int .i64 (-1), .int .i64 (-1), .int .i64 (-1), .int .i64 (-1), .int .i64 (-1)] 71)).alloc (.cells #[.func (.func 127) #[] #[.pointer (some ⟨w.heap.size, 0, none⟩), .pointer (some ⟨w.heap.size + 1 + 1, 0, none⟩), .pointer (some ⟨w1.heap.size, 0, none⟩), .pointer (some ⟨w.heap.size + 1, 0, none⟩), .pointer (some ⟨w1.heap.size + 1, 0, none⟩)]] 96)) := L1
  have HL1 := Lib.hid L2
  clear L1 L2 hb HL
  go_upto_region 4 with fail
  generalize (w1.alloc (.cells #[.int .i64 (-1), .int .i64 (-1), .int .i64 (-1), .int .i64 (-1), .int .i64 (-1), .int .i64 (-1)] 71)).alloc (.cells #[.func (.func 127) #[] #[.pointer (some ⟨w.heap.size, 0, none⟩), .pointer (some ⟨w.heap.size + 1 + 1, 0, none⟩), .pointer (some ⟨w1.heap.size, 0, none⟩), .pointer (some ⟨w.heap.size + 1, 0, none⟩), .pointer (some ⟨w1.heap.size + 1, 0, none⟩)]] 96) = w5 at *
  have v0 := HL1.out.ownHas.cell 0
  simp only [List.getElem?_cons_zero] at v0
  have hgl := HGL.out
  have hok : WkOk n V first cap gc w.heap.size (w.heap.size + 1 + 1) w1.heap.size (w.heap.size + 1) (w1.heap.size + 1) (foot w1.heap.size) (I w1.heap.size) cont (plG (bM M) C n 0 0 k) :=
    ⟨by omega, by omega, by omega, by omega, by omega, fun h => by have := HFT.out _ _ (by omega) h; omega, fun h => by have := HFT.out _ _ (by omega) h; omega, fun h => by have := HFT.out _ _ (by omega) h; omega, fun h => by have := HFT.out _ _ (by omega) h; omega, fun h => by have := HFT.out _ _ (by omega) h; omega, fun h => by have := HFT.out _ _ (by omega) h; omega,
      fun j a b hc hi => HKP.out w1.heap.size j a b (by omega) hc hi, hcall, HV.out w1.heap.size (by omega)⟩
  have hwk : Wk n m M V first cap gc cp C w.heap.size (w.heap.size + 1 + 1) w1.heap.size (w.heap.size + 1) (w1.heap.size + 1) (I w1.heap.size) (fun _ => -1) 0 w5 :=
    ⟨HL1.out.tl.tl.tl.tl.ownHas, HL1.out.tl.tl.ownHas, HL1.out.tl.ownHas, HL1.out.tl.tl.tl.ownHas, HO.out.kept HL1.out.below, HL1.out.ownHas, HIW.out w1.heap.size w5 (by omega) HL1.out.ownHas.lt HL1.out.below⟩
  have hr := walk1_any n m M V first cap gc cp C w.heap.size (w.heap.size + 1 + 1) w1.heap.size (w.heap.size + 1) (w1.heap.size + 1) (foot w1.heap.size) (I w1.heap.size) cont (plG (bM M) C n 0 0 k) hn hm HGC.out HCH.out hok n 0 0 k [] (by omega) (by omega) hk rfl 0 [] (by simp) (fun _ => -1) w5 (okF_nil n) hwk
  rw [show ((0 : Nat) : Int) = 0 from rfl] at hr
  have HR := Lib.hid hr
  have HB := Lib.hid HL1.out.below
  clear hr hwk hok HL1 hcall hgl
  go_wp2_with fail
  refine HR.out.mono ?_
  rintro e w6 ⟨rfl, ⟨F, _, hW⟩, hC⟩
  rw [Nat.zero_add] at hW
  have HE := Lib.hid (show ∃ bp, w.heap.size ≤ bp ∧ I bp (runV cont 0 (plG (bM M) C n 0 0 k).length).1 w6 ∧ Chg (fun b => b < w.heap.size ∧ foot bp b) w w6 from
    ⟨w1.heap.size, by omega, hW.inv, hC.os.trans HB.out.os, hC.tape.trans HB.out.tape, hC.output.trans HB.out.output, Nat.le_trans HB.out.size hC.size, fun b hb hf => (hC.block b (Nat.lt_of_lt_of_le hb HB.out.size) (fun h => h.elim (fun h2 => by omega) (fun h3 => hf ⟨hb, h3⟩))).trans (HB.out.block b hb)⟩)
  clear hW hC HR
  go_wp2_with fail
  go_end0
  exact ⟨rfl, HE.out⟩
end Go.Proofs.Ytdimbnkgomfojab
end

section
namespace Go.Proofs.Ytdimbnkgomfojab
open Go.RowKit

/-- A list by its numbers. -/
def lstI (L : Nat) (g : Nat → Int) : List Int := (List.range L).map g
theorem lstI_len (L : Nat) (g : Nat → Int) : (lstI L g).length = L := by simp [lstI]
theorem lstI_get (L : Nat) (g : Nat → Int) (k : Nat) (h : k < L) : (lstI L g).getD k 0 = g k := by simp [lstI, List.getD, h]
theorem lstI_congr (L : Nat) (g g' : Nat → Int) (h : ∀ k, k < L → g k = g' k) : lstI L g = lstI L g' := by
  unfold lstI
  refine List.map_congr_left fun k hk => h k ?_
  simpa using hk
theorem lstI_zero (L : Nat) : List.replicate L (0 : Int) = lstI L (fun _ => 0) := by
  refine List.ext_getElem ?_ fun k h1 h2 => ?_
  · simp [lstI]
  · simp [lstI]
theorem lstI_set (L : Nat) (g g' : Nat → Int) (i : Nat) (x : Int) (hx : g' i = x) (ho : ∀ k, k < L → k ≠ i → g' k = g k) : (lstI L g).set i x = lstI L g' := by
  refine List.ext_getElem ?_ fun k h1 h2 => ?_
  · simp [lstI]
  · have hk : k < L := by simpa [lstI] using h2
    rw [List.getElem_set]
    by_cases e : i = k
    · subst e
      simp [lstI, hx]
    · rw [if_neg e]
      simp [lstI, ho k hk (fun h => e h.symm)]
theorem lstI_snoc (L : Nat) (g : Nat → Int) : lstI L g ++ [g L] = lstI (L + 1) g := by simp [lstI, List.range_succ]
theorem lstI_self (xs : List Int) : lstI xs.length (fun k => xs.getD k 0) = xs := by
  refine List.ext_getElem ?_ fun k h1 h2 => ?_
  · simp [lstI]
  · simp [lstI, List.getD, h2]

end Go.Proofs.Ytdimbnkgomfojab
end

section
namespace Go.Proofs.Ytdimbnkgomfojab
open Go.RowKit Go.WideShapes

def idx0 (n : Nat) : List Int := lstI n (fun q => (q : Int))
def uptI (k q : Nat) : Int := if q < k then (q : Int) else 0

set_option maxRecDepth 100000 in
set_option maxHeartbeats 1600000 in
theorem indices_any (n : Nat) (w : World) (hn : n ≤ 1048576) :
    Calls Try.prog 106 #[.int .i64 n] w fun e w' => ∃ g, e = .returned (.slice (some ⟨g, 0, none⟩) n n) ∧ Own w' w.heap.size (.slice (some ⟨g, 0, none⟩) n n) (idx0 n) ∧ Below w.heap.size w w' := by
  have hmk := run_make_row' (P := Try.prog) 22 3 (.int .i64 0) 8 Try.underlying22 Try.infoI rfl .i64 .i64 n (by omega) (by omega)
  go_enter Try.func106, Try.ntmps106
  go_upto_region 2 with fail
  have L2 := (Law.start w).own (below_new _) (own_made w n _ w.heap.size rfl (Nat.le_refl _) (by omega))
  rw [lstI_zero, lstI_congr n (fun _ => 0) (uptI 0) (fun k _ => by unfold uptI; rw [if_neg (by omega)])] at L2
  have HL2 := Lib.hid L2
  clear L2 hmk
  generalize w.alloc (.cells (madeCells #[.int .i64 0] n) 3) = w6 at *
  go_wp2_with fail
  go_loopw [9] (fun i wr => ∃ k : Nat, k ≤ n ∧ i = .int .i64 k ∧ Law w [tOwn (.slice (some ⟨w.heap.size, 0, none⟩) n n) (lstI n (uptI k))] wr) (fun i _ => n - (intOf i).toNat)
  case atStart => exact ⟨0, Nat.zero_le _, rfl, HL2.out⟩
  case round =>
    clear HL2
    obtain ⟨k, hk, rfl, L⟩ := hrel
    by_cases hlt : k < n
    · have o := L.ownInts
      have d1 := Own.cell (by rw [lstI_len]; exact o) k (by rw [lstI_len]; exact hlt)
      have d2 := Own.free (by rw [lstI_len]; exact o) k
      have hS := Law.store (ts := []) L (lstI_len _ _) k (k : Int)
      rw [lstI_set n _ (uptI (k + 1)) k _ (by unfold uptI; rw [if_pos (by omega)]) (fun q _ hq => by
        unfold uptI
        by_cases h : q < k
        · rw [if_pos h, if_pos (by omega)]
        · rw [if_neg h, if_neg (by omega)])] at hS
      have HS := Lib.hid hS
      generalize (lstI n (uptI k)).getD k 0 = z at *
      clear L hS o
      go_wp2_with fail
      go_roundw
      case rel => exact ⟨k + 1, by omega, by go_num, HS.out⟩
      case measure => simp [intOf]; omega
    · obtain rfl : k = n := by omega
      have HF := Lib.hid (show lstI k (uptI k) = idx0 k from lstI_congr k _ _ (fun q hq => by unfold uptI; rw [if_pos hq]))
      have HL := Lib.hid L
      clear L
      go_wp2_with fail
      go_ret
      exact ⟨_, rfl, by rw [← HF.out]; exact HL.out.ownLo, HL.out.below⟩
end Go.Proofs.Ytdimbnkgomfojab
end

section
namespace Go.Proofs.Ytdimbnkgomfojab
open Go.RowKit

theorem Try.infoL : (Try.prog.info? 22).map (fun i => (i.zero, i.size, i.bytes)) = some (some (.slice none 0 0), 1, 24) := by kernel_rfl

/-- v is a slice of the call's own that holds the slices vs, and these hold the rows rss, each on a block of its own. -/
structure OwnM (w : World) (lo : Nat) (v : Value) (vs : List Value) (rss : List (List Int)) : Prop where
  outer : w.ownsRow lo 22 1 v vs.length vs
  len : rss.length = vs.length
  rows : ∀ p ∈ vs.zip rss, Own w lo p.1 p.2
  dis : vs.Pairwise fun a b => ∀ k, a.ownBlock = some k → b.ownBlock ≠ some k
  apart : ∀ u ∈ vs, ∀ k, u.ownBlock = some k → v.ownBlock ≠ some k

theorem mem_zip_of {α β : Type} (l : List α) (r : List β) (h : r.length = l.length) (u : α) (hu : u ∈ l) : ∃ b, (u, b) ∈ l.zip r := by
  obtain ⟨i, hi, rfl⟩ := List.getElem_of_mem hu
  exact ⟨r[i], by rw [List.mem_iff_getElem]; exact ⟨i, by simp; omega, by simp⟩⟩

theorem OwnM.nil (w : World) (lo : Nat) : OwnM w lo (.slice none 0 0) [] [] := ⟨World.ownsRow_nil _ _ _ _, rfl, by simp, by simp, by simp⟩
theorem OwnM.lower {w : World} {lo lo' : Nat} {v : Value} {vs : List Value} {rss : List (List Int)} (h : OwnM w lo v vs rss) (hl : lo' ≤ lo) : OwnM w lo' v vs rss := by
  refine ⟨⟨h.outer.1, ?_⟩, h.len, fun p hp => (h.rows p hp).lower hl, h.dis, h.apart⟩
  rcases h.outer.2 with h | ⟨g, cap, cur, e, hb, r⟩
  · exact .inl h
  · exact .inr ⟨g, cap, cur, e, by omega, r⟩
theorem OwnM.lt {w : World} {lo : Nat} {v : Value} {vs : List Value} {rss : List (List Int)} (h : OwnM w lo v vs rss) :
    (∀ k, v.ownBlock = some k → lo ≤ k ∧ k < w.heap.size) ∧ ∀ u ∈ vs, ∀ k, u.ownBlock = some k → lo ≤ k ∧ k < w.heap.size := by
  refine ⟨World.ownsRow.lt h.outer, fun u hu k hk => ?_⟩
  obtain ⟨b, hb⟩ := mem_zip_of vs rss h.len u hu
  exact own_lt (h.rows _ hb) k hk
/-- What is not written stays. -/
theorem OwnM.stay {w w' : World} {lo : Nat} {v : Value} {vs : List Value} {rss : List (List Int)} (h : OwnM w lo v vs rss) {row : Option Nat} (hg : w.grownBy w' row)
    (h1 : v.ownBlock = none ∨ v.ownBlock ≠ row) (h2 : ∀ u ∈ vs, u.ownBlock = none ∨ u.ownBlock ≠ row) : OwnM w' lo v vs rss := by
  refine ⟨World.ownsRow.kept h.outer hg h1, h.len, fun p hp => ?_, h.dis, h.apart⟩
  exact World.ownsRow.kept (h.rows p hp) hg (h2 p.1 (List.of_mem_zip hp).1)

/-- The two forms in which a walk meets it. -/
theorem OwnM.cases {w : World} {lo : Nat} {v : Value} {vs : List Value} {rss : List (List Int)} (h : OwnM w lo v vs rss) :
    (v = .slice none 0 0 ∧ vs = []) ∨ ∃ g cap, v = .slice (some ⟨g, 0, none⟩) vs.length cap ∧ lo ≤ g ∧ g < w.heap.size ∧ vs.length ≤ cap ∧ cap ≤ maxLen := by
  rcases h.outer.2 with ⟨h1, h2⟩ | ⟨g, cap, cur, e, hb, hh, hn, hc, r⟩
  · exact .inl ⟨h1, by simpa using h2⟩
  · exact .inr ⟨g, cap, e, hb, (Array.getElem?_eq_some_iff.1 hh).1, hn, hc⟩
theorem OwnM.cell {w : World} {lo g cap : Nat} {vs : List Value} {rss : List (List Int)} (h : OwnM w lo (.slice (some ⟨g, 0, none⟩) vs.length cap) vs rss) (j : Nat) (hj : j < vs.length) :
    w.cell? ⟨g, j, none⟩ = some vs[j] := by
  rw [World.ownsRow.cellAt h.outer j (by omega)]
  simp [hj]
theorem OwnM.row {w : World} {lo : Nat} {v : Value} {vs : List Value} {rss : List (List Int)} (h : OwnM w lo v vs rss) (j : Nat) (hj : j < vs.length) : Own w lo vs[j] (rss[j]'(by rw [h.len]; exact hj)) :=
  h.rows (vs[j], rss[j]'(by rw [h.len]; exact hj)) (by rw [List.mem_iff_getElem]; exact ⟨j, by simp; rw [h.len]; omega, by simp⟩)

/-- A slice of slices, as a thing. -/
def tM (v : Value) (vs : List Value) (rss : List (List Int)) : Thing :=
  ⟨fun k => v.ownBlock = some k ∨ ∃ u ∈ vs, u.ownBlock = some k, fun w => OwnM w 0 v vs rss, fun w w' hs hk h => by
    have keep : ∀ (e : TypeId) (n : Nat) (u : Value) (xs : List Value), (∀ k, u.ownBlock = some k → w'.heap[k]? = w.heap[k]?) → w.ownsRow 0 e 1 u n xs → w'.ownsRow 0 e 1 u n xs := fun e n u xs hq h => by
      refine ⟨h.1, ?_⟩
      rcases h.2 with h2 | ⟨g, cap, cur, hv, hg, hh, r⟩
      · exact .inl h2
      · exact .inr ⟨g, cap, cur, hv, hg, by rw [hq g (by rw [hv]; rfl)]; exact hh, r⟩
    refine ⟨keep _ _ _ _ (fun k e => hk k (.inl e)) h.outer, h.len, fun p hp => ?_, h.dis, h.apart⟩
    exact keep _ _ _ _ (fun k e => hk k (.inr ⟨p.1, (List.of_mem_zip hp).1, e⟩)) (h.rows p hp)⟩

theorem Law.addM {w0 w w' : World} {ts : List Thing} (h : Law w0 ts w) (hb : Below w.heap.size w w') {v : Value} {vs : List Value} {rss : List (List Int)} (hm : OwnM w' w.heap.size v vs rss) : Law w0 (tM v vs rss :: ts) w' :=
  h.add hb (tM v vs rss) (hm.lower (Nat.zero_le _)) (fun k hk => by
    rcases hk with hk | ⟨u, hu, hk⟩
    · exact hm.lt.1 k hk
    · exact hm.lt.2 u hu k hk)
theorem Law.nilM {w0 w : World} {ts : List Thing} (h : Law w0 ts w) : Law w0 (tM (.slice none 0 0) [] [] :: ts) w := h.addM (Below.refl _ _) (OwnM.nil _ _)
theorem Law.ownM {w0 w : World} {v : Value} {vs : List Value} {rss : List (List Int)} {ts : List Thing} (h : Law w0 (tM v vs rss :: ts) w) : OwnM w 0 v vs rss := h.hd
theorem Law.ownMLo {w0 w : World} {v : Value} {vs : List Value} {rss : List (List Int)} {ts : List Thing} (h : Law w0 (tM v vs rss :: ts) w) : OwnM w w0.heap.size v vs rss := by
  have hm := h.ownM
  have hr := h.range _ (List.mem_cons_self ..)
  have up : ∀ (e : TypeId) (n : Nat) (u : Value) (xs : List Value), (∀ k, u.ownBlock = some k → (tM v vs rss).foot k) → w.ownsRow 0 e 1 u n xs → w.ownsRow w0.heap.size e 1 u n xs := fun e n u xs hq h => by
    refine ⟨h.1, ?_⟩
    rcases h.2 with h2 | ⟨g, cap, cur, hv, hg, r⟩
    · exact .inl h2
    · exact .inr ⟨g, cap, cur, hv, (hr g (hq g (by rw [hv]; rfl))).1, r⟩
  exact ⟨up _ _ _ _ (fun k e => .inl e) hm.outer, hm.len, fun p hp => up _ _ _ _ (fun k e => .inr ⟨p.1, (List.of_mem_zip hp).1, e⟩) (hm.rows p hp), hm.dis, hm.apart⟩

/-- A row is put behind the others. -/
theorem Law.pushM {w0 w w' : World} {ts : List Thing} {u : Value} {rs : List Int} {v v' : Value} {vs : List Value} {rss : List (List Int)} (h : Law w0 (tOwn u rs :: tM v vs rss :: ts) w)
    (hg : w.grownBy w' v.ownBlock) (ho : w'.ownsRow 0 22 1 v' (vs ++ [u]).length (vs ++ [u])) (hv : ∀ k, v'.ownBlock = some k → (v.ownBlock = some k ∨ k = w.heap.size) ∧ k < w'.heap.size) :
    Law w0 (tM v' (vs ++ [u]) (rss ++ [rs]) :: ts) w' := by
  have hu := h.ownInts
  have hM := h.tl.ownM
  have d1 := (List.pairwise_cons.1 h.dis).1
  have d2 := (List.pairwise_cons.1 (List.pairwise_cons.1 h.dis).2).1
  have rM := h.range (tM v vs rss) (by simp)
  have rU := h.range (tOwn u rs) (by simp)
  have rT : ∀ t ∈ ts, ∀ k, t.foot k → w0.heap.size ≤ k ∧ k < w.heap.size := fun t ht k hk => h.range t (by simp [ht]) k hk
  have huM : ∀ k, u.ownBlock = some k → ¬ (tM v vs rss).foot k := fun k hk => d1 (tM v vs rss) (by simp) k hk
  have hc : Chg (tM v vs rss).foot w w' := Chg.of_grown hg (fun k e => .inl e)
  have hne : ∀ x : Value, (∀ k, x.ownBlock = some k → v.ownBlock ≠ some k) → x.ownBlock = none ∨ x.ownBlock ≠ v.ownBlock := fun x hx => by
    cases e : x.ownBlock with
    | none => exact .inl rfl
    | some k => exact .inr (fun e2 => hx k e e2.symm)
  have hnew : OwnM w' 0 v' (vs ++ [u]) (rss ++ [rs]) := by
    refine ⟨ho, by simp [hM.len], ?_, ?_, ?_⟩
    · intro p hp
      rw [List.zip_append hM.len.symm] at hp
      rcases List.mem_append.1 hp with hp | hp
      · exact World.ownsRow.kept (hM.rows p hp) hg (hne p.1 (fun k hk => hM.apart p.1 (List.of_mem_zip hp).1 k hk))
      · simp at hp
        subst hp
        exact World.ownsRow.kept hu hg (hne u (fun k hk e => huM k hk (.inl e)))
    · rw [List.pairwise_append]
      refine ⟨hM.dis, by simp, fun a ha b hb k hk e => ?_⟩
      simp at hb
      subst hb
      exact huM k e (.inr ⟨a, ha, hk⟩)
    · intro x hx k hk e
      have hlt : k < w.heap.size ∧ v.ownBlock ≠ some k := by
        rcases List.mem_append.1 hx with hx | hx
        · exact ⟨(rM k (.inr ⟨x, hx, hk⟩)).2, hM.apart x hx k hk⟩
        · simp at hx
          subst hx
          exact ⟨(rU k hk).2, fun e => huM k hk (.inl e)⟩
      rcases (hv k e).1 with e | e
      · exact hlt.2 e
      · omega
  have hfoot : ∀ k, (tM v' (vs ++ [u]) (rss ++ [rs])).foot k → (tM v vs rss).foot k ∨ u.ownBlock = some k ∨ (k = w.heap.size ∧ k < w'.heap.size) := by
    intro k hk
    rcases hk with hk | ⟨x, hx, hk⟩
    · rcases (hv k hk).1 with e | e
      · exact .inl (.inl e)
      · exact .inr (.inr ⟨e, (hv k hk).2⟩)
    · rcases List.mem_append.1 hx with hx | hx
      · exact .inl (.inr ⟨x, hx, hk⟩)
      · simp at hx
        subst hx
        exact .inr (.inl hk)
  refine ⟨?_, ?_, ?_, ?_⟩
  · exact h.below.trans ⟨hc.os, hc.tape, hc.output, hc.size, fun k hk => hc.block k (by have := h.below.size; omega) (fun e => by have := (rM k e).1; omega)⟩
  · intro x hm
    rcases List.mem_cons.1 hm with rfl | hm
    · exact hnew
    · exact x.stable w w' hc.size (fun k hk => hc.block k (rT x hm k hk).2 (fun e => d2 x hm k e hk)) (h.holds x (by simp [hm]))
  · intro x hm k hk
    rcases List.mem_cons.1 hm with rfl | hm
    · rcases hfoot k hk with e | e | e
      · exact ⟨(rM k e).1, Nat.lt_of_lt_of_le (rM k e).2 hc.size⟩
      · exact ⟨(rU k e).1, Nat.lt_of_lt_of_le (rU k e).2 hc.size⟩
      · have := h.below.size
        omega
    · exact ⟨(rT x hm k hk).1, Nat.lt_of_lt_of_le (rT x hm k hk).2 hc.size⟩
  · refine List.pairwise_cons.2 ⟨fun x hm k e1 e2 => ?_, (List.pairwise_cons.1 (List.pairwise_cons.1 h.dis).2).2⟩
    rcases hfoot k e1 with e | e | e
    · exact d2 x hm k e e2
    · exact d1 x (by simp [hm]) k e e2
    · have := (rT x hm k e2).2
      omega

/-- append of one row, where nothing is drawn. -/
theorem wp_appendM {w0 w : World} {ops : Array Oper} {rest : List Oper} {o : Oper} {a : Act} {Q : Exit → Act → World → Prop} (hgd : o.guard = none) (s x : Operand)
    (ho : o.op = .call { callee := .builtin .append, args := #[s, x], argTypes := #[35, 35] }) {ts : List Thing} {u : Value} {rs : List Int} {v : Value} {vs : List Value} {rss : List (List Int)}
    (L : Law w0 (tOwn u rs :: tM v vs rss :: ts) w) (g0 : Nat) (hs : a.eval s = v) (hx : a.eval x = .slice (some ⟨g0, 0, none⟩) 1 1) (hnew : w.cell? ⟨g0, 0, none⟩ = some u) (hu1 : u.oneCell' = true) (hl : vs.length + 1 ≤ 1048576)
    (h : ∀ g cap w', Law w0 (tM (.slice (some ⟨g, 0, none⟩) (vs.length + 1) cap) (vs ++ [u]) (rss ++ [rs]) :: ts) w' → wpList Try.prog ops Q rest (a.put o.dst (.slice (some ⟨g, 0, none⟩) (vs.length + 1) cap)) w') :
    wpList Try.prog ops Q (o :: rest) a w := by
  obtain ⟨i0, hi, hz0, hz1, hz2⟩ := info_parts Try.infoL
  refine wpList_append_lies w hgd s x 35 ho 0 22 i0 (.slice none 0 0) 1 24 Try.underlying35 hi hz0 hz1 hz2 rfl (by decide) v vs.length vs hs L.tl.ownM.outer ⟨g0, 0, none⟩ 1 1 [u] hx rfl ?_ (by intro y hy; simp at hy; subst hy; exact hu1) (by decide) (by unfold maxLen; omega) (by omega) (Nat.zero_le _) _ rfl ?_
  · intro j y hy
    match j, hy with
    | 0, hy =>
      simp at hy
      subst hy
      rw [Addr.add_lit]
      exact hnew
  · intro g cap w' h1 h2 h3 h4
    refine h g cap w' (L.pushM h2 (by simpa using h1) (fun k hk => ?_))
    have e : g = k := by simpa [Value.ownBlock] using hk
    subst e
    exact ⟨h3, h4⟩

end Go.Proofs.Ytdimbnkgomfojab
end
