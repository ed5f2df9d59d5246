import Derived.Test.YtabfiafjcnilnaaFold9
import Derived.Test.YtabfiafjcnilnaaFold3
import Derived.Deep.Matrix
namespace Go.Proofs.Ytabfiafjcnilnaa
open Go.ChangeShapes Go.WideShapes Go.ChangeAt Go.RowKit Go.Joins

/-- What a slice of slices of ints that came in reads as. -/
def ReadsM (w : World) (a : Option Addr) (len : Nat) (rss : List (List Int)) : Prop :=
  len = rss.length ∧ (len = 0 ∨ ∃ b off, a = some ⟨b, off, none⟩ ∧ b < w.heap.size ∧ ∀ j (hj : j < rss.length), ∃ aj cj, w.cell? ⟨b, off + j, none⟩ = some (.slice aj rss[j].length cj) ∧ Reads w aj rss[j].length rss[j])
theorem ReadsM.kept {w w' : World} {a : Option Addr} {len : Nat} {rss : List (List Int)} (h : ReadsM w a len rss) (hb : Below w.heap.size w w') : ReadsM w' a len rss := by
  obtain ⟨h1, h2⟩ := h
  refine ⟨h1, ?_⟩
  rcases h2 with h2 | ⟨b, off, ha, hlt, hc⟩
  · exact .inl h2
  · refine .inr ⟨b, off, ha, Nat.lt_of_lt_of_le hlt hb.size, fun j hj => ?_⟩
    obtain ⟨aj, cj, e, r⟩ := hc j hj
    exact ⟨aj, cj, (hb.cell (p := ⟨b, off + j, none⟩) hlt).trans e, r.kept hb⟩
theorem ReadsM.row {w : World} {a : Option Addr} {len : Nat} {rss : List (List Int)} (h : ReadsM w a len rss) (j : Nat) (hj : j < rss.length) :
    ∃ b off aj cj, a = some ⟨b, off, none⟩ ∧ b < w.heap.size ∧ w.cell? ⟨b, off + j, none⟩ = some (.slice aj rss[j].length cj) ∧ Reads w aj rss[j].length rss[j] := by
  obtain ⟨h1, h2⟩ := h
  rcases h2 with h2 | ⟨b, off, ha, hlt, hc⟩
  · omega
  · obtain ⟨aj, cj, e, r⟩ := hc j hj
    exact ⟨b, off, aj, cj, ha, hlt, e, r⟩
theorem Law.readsM {w0 w : World} {ts : List Thing} (h : Law w0 ts w) {a : Option Addr} {len : Nat} {rss : List (List Int)} (hr : ReadsM w0 a len rss) : ReadsM w a len rss := hr.kept h.below
theorem OwnM.reads {w : World} {lo : Nat} {v : Value} {vs : List Value} {rss : List (List Int)} (h : OwnM w lo v vs rss) : ∃ a cap, v = .slice a rss.length cap ∧ ReadsM w a rss.length rss := by
  have hl := h.len
  rcases h.cases with ⟨rfl, rfl⟩ | ⟨g, cp, rfl, _, hg, _⟩
  · have : rss.length = 0 := by simpa using hl
    exact ⟨none, 0, by rw [this], rfl, .inl this⟩
  · refine ⟨_, cp, by rw [hl], rfl, .inr ⟨g, 0, rfl, hg, fun j hj => ?_⟩⟩
    have hc := h.cell j (by omega)
    obtain ⟨aj, cj, e, r⟩ := (h.row j (by omega)).reads
    rw [Nat.zero_add, hc, e]
    exact ⟨aj, cj, rfl, r⟩

theorem Try.cellsLI : Try.prog.cellsOf 22 = 1 := by kernel_rfl
theorem readsM_of {H : Type} {enc : TypeId × Value → H} {W : World} {a0 : Option Addr} {len cap fuel : Nat} {x : DataW H × List MemPlace}
    (hf : DataW.trod enc Try.prog W 0 (fun _ => true) true fuel 23 [.slice a0 len cap] = some x) :
    len ≤ 9223372036854775807 ∧ ∃ rss, ReadsM W a0 len rss ∧ ∀ r ∈ rss, r.length ≤ 9223372036854775807 := by
  rcases Deep.open_int_rows Try.underlying23 Try.underlying22 Try.underlying3 Try.cellsLI Try.cellsI hf with ⟨hcs, hx⟩ | ⟨a, len', cap', A, L, C, Z, hcs, _, hl, hm, hx, hrow⟩
  · simp at hcs
    obtain ⟨rfl, rfl, rfl⟩ := hcs
    exact ⟨by omega, [], ⟨rfl, .inl rfl⟩, by simp⟩
  · simp at hcs
    obtain ⟨rfl, rfl, rfl⟩ := hcs
    unfold maxLen at hm
    refine ⟨by omega, (List.range len).map (fun r => (Z r).take (L r)), ⟨by simp, ?_⟩, ?_⟩
    · by_cases h0 : len = 0
      · exact .inl h0
      · obtain ⟨b, off, spot⟩ := a
        have hspot : spot = none := by simpa [Addr.add] using World.cell?_spot (hrow 0 (by omega)).1
        subst hspot
        refine .inr ⟨b, off, rfl, World.block_lt_of_cell? _ _ (by have := (hrow 0 (by omega)).1; simpa [Addr.add] using this), fun j hj => ?_⟩
        simp only [List.length_map, List.length_range] at hj
        obtain ⟨e, r1, r2, r3, r4, r5, r6⟩ := hrow j (by omega)
        rw [add_plain] at e
        have hlen : ((Z j).take (L j)).length = L j := by simp; omega
        simp only [List.getElem_map, List.getElem_range]
        rw [hlen]
        refine ⟨A j, C j, e, by rw [hlen], ?_⟩
        by_cases hz : L j = 0
        · exact .inl hz
        · cases hA : A j with
          | none => have := r5 hA; omega
          | some a' =>
            obtain ⟨_, hc⟩ := r6 a' hA
            obtain ⟨b', off', spot'⟩ := a'
            have hspot' : spot' = none := by simpa [Addr.add] using World.cell?_spot (hc 0 (by omega))
            subst hspot'
            refine .inr ⟨b', off', rfl, World.block_lt_of_cell? _ _ (by have := hc 0 (by omega); simpa [Addr.add] using this), fun c hcl => ?_⟩
            have := hc c (by omega)
            rw [add_plain] at this
            rw [this]
            simp [List.getD, hcl]
    · intro r hr
      obtain ⟨j, hj, rfl⟩ := List.mem_map.1 hr
      obtain ⟨_, r1, r2, r3, _⟩ := hrow j (by have := List.mem_range.1 hj; omega)
      unfold maxLen at r2
      simp
      omega

def szM (left : Int) (rss : List (List Int)) : Int := if left - rss.length - total rss < 0 then -1 else left - rss.length - total rss

set_option maxHeartbeats 800000 in
theorem szIntSS_any (a : Option Addr) (cap : Nat) (rss : List (List Int)) (left : Int) (w : World) (hl : rss.length ≤ 9223372036854775807) (hx : ∀ r ∈ rss, r.length ≤ 9223372036854775807) (h0 : 0 ≤ left) (h1 : left ≤ 1048576)
    (hr : ReadsM w a rss.length rss) :
    Calls Try.prog 8 #[.slice a rss.length cap, .int .i64 left] w fun e w' => e = .returned (.int .i64 (szM left rss)) ∧ Below w.heap.size w w' := by
  by_cases h : left - rss.length < 0
  · have Hs := Lib.hid (show -1 = szM left rss by rw [szM, if_pos (by omega)])
    clear hr hx
    go_enter Try.func8, Try.ntmps8
    go_wp2_with fail
    go_ret
    exact ⟨ret_int Hs.out, Below.refl _ _⟩
  · have HX := Lib.hid hx
    have HR := Lib.hid hr
    clear hx hr
    go_enter Try.func8, Try.ntmps8
    go_wp2_with fail
    go_loopw [1, 5] (fun q i wr => ∃ k : Nat, k ≤ rss.length ∧ i = .int .i64 k ∧ q = .int .i64 (left - rss.length - total (rss.take k)) ∧ 0 ≤ left - rss.length - total (rss.take k) ∧ Below w.heap.size w wr) (fun _ i _ => rss.length - (intOf i).toNat)
    case atStart => exact ⟨0, Nat.zero_le _, rfl, by simp [total], by simp [total]; omega, Below.refl _ _⟩
    case round =>
      obtain ⟨k, hk, rfl, rfl, hpos, hB⟩ := hrel
      by_cases hlt : k < rss.length
      · obtain ⟨b, off, aj, cj, ha, hb0, c1, r1⟩ := (HR.out.kept hB).row k hlt
        subst ha
        have hxl := HX.out _ (List.getElem_mem hlt)
        have hts := total_succ rss k hlt
        have htt := total_take rss (k + 1)
        have HT := Lib.hid (show left - rss.length - total (rss.take (k + 1)) = left - rss.length - total (rss.take k) - rss[k].length by rw [hts]; push_cast; omega)
        have HM := Lib.hid (show left - rss.length - total (rss.take (k + 1)) < 0 → -1 = szM left rss from fun h => by rw [szM, if_pos (by omega)])
        obtain ⟨cur, hcur⟩ : ∃ cur : Int, cur = left - rss.length - total (rss.take k) := ⟨_, rfl⟩
        rw [← hcur] at HT hpos ⊢
        have hcl : cur ≤ 1048576 := by omega
        generalize hxs : rss[k].length = xl at *
        have HB := Lib.hid hB
        clear hts htt hcur hB r1 hxs HR HX
        go_wp2_with fail
        refine (szIntS_any aj xl cj cur _ hxl hpos hcl).mono ?_
        rintro e w2 ⟨rfl, rfl⟩
        by_cases hn : cur - xl < 0
        · rw [show szN cur xl = -1 by rw [szN, if_pos hn]]
          have Hd := Lib.hid (HM.out (by rw [HT.out]; exact hn))
          clear HM HT c1
          go_wp2_with fail
          go_ret
          exact ⟨ret_int Hd.out, HB.out⟩
        · rw [show szN cur xl = cur - xl by rw [szN, if_neg hn]]
          clear HM c1
          go_wp2_with fail
          go_roundw
          case rel => exact ⟨k + 1, by omega, by go_num, by rw [HT.out], by rw [HT.out]; omega, HB.out⟩
          case measure => simp [intOf]; omega
      · obtain rfl : k = rss.length := by omega
        rw [List.take_length] at hpos ⊢
        have Hd := Lib.hid (show left - rss.length - total rss = szM left rss by rw [szM, if_neg (by omega)])
        have HB := Lib.hid hB
        clear hB HR HX
        go_wp2_with fail
        go_ret
        exact ⟨ret_int Hd.out, HB.out⟩

/-- A row is put into a place that held none. -/
theorem Law.putM {w0 w : World} {ts : List Thing} {u : Value} {rs : List Int} {g n cap : Nat} {vs : List Value} {rss : List (List Int)} (h : Law w0 (tOwn u rs :: tM (.slice (some ⟨g, 0, none⟩) n cap) vs rss :: ts) w)
    (hn : vs.length = n) (k : Nat) (hk : k < n) : Law w0 (tM (.slice (some ⟨g, 0, none⟩) n cap) (vs.set k u) (rss.set k rs) :: ts) (w.setCell ⟨g, k, none⟩ u) := by
  subst hn
  have hu := h.ownInts
  have hM := h.tl.ownM
  have d1 := (List.pairwise_cons.1 h.dis).1
  have d2 := (List.pairwise_cons.1 (List.pairwise_cons.1 h.dis).2).1
  have rM := h.range (tM (.slice (some ⟨g, 0, none⟩) vs.length cap) vs rss) (by simp)
  have rU := h.range (tOwn u rs) (by simp)
  have huM : ∀ k, u.ownBlock = some k → ¬ (tM (.slice (some ⟨g, 0, none⟩) vs.length cap) vs rss).foot k := fun k hk => d1 _ (by simp) k hk
  obtain ⟨ho, hg⟩ := World.ownsRow.stored hM.outer k u
  have hc : Chg (tM (.slice (some ⟨g, 0, none⟩) vs.length cap) vs rss).foot w (w.setCell ⟨g, k, none⟩ u) := Chg.of_grown hg (fun k e => .inl e)
  have hne : ∀ x : Value, (∀ k, x.ownBlock = some k → k ≠ g) → x.ownBlock = none ∨ x.ownBlock ≠ some g := fun x hx => by
    cases e : x.ownBlock with
    | none => exact .inl rfl
    | some k => exact .inr (fun e2 => hx k e (by simpa using e2))
  have hgu : ∀ k, u.ownBlock = some k → k ≠ g := fun k hk e => huM k hk (.inl (by rw [e]; rfl))
  have hgv : ∀ x ∈ vs, ∀ k, x.ownBlock = some k → k ≠ g := fun x hx k hk e => hM.apart x hx k hk (by rw [e]; rfl)
  have hd := List.pairwise_iff_getElem.1 hM.dis
  have hmem : ∀ x ∈ vs.set k u, x = u ∨ x ∈ vs := fun x hx => by
    rcases List.mem_or_eq_of_mem_set hx with hx | hx
    · exact .inr hx
    · exact .inl hx
  have hnew : OwnM (w.setCell ⟨g, k, none⟩ u) 0 (.slice (some ⟨g, 0, none⟩) vs.length cap) (vs.set k u) (rss.set k rs) := by
    refine ⟨by rw [List.length_set]; exact ho, by simp [hM.len], ?_, ?_, ?_⟩
    · intro p hp
      obtain ⟨i, hi, rfl⟩ := List.getElem_of_mem hp
      simp only [List.length_zip, List.length_set] at hi
      rw [List.getElem_zip]
      by_cases e : i = k
      · subst e
        have hk2 : Own (w.setCell ⟨g, i, none⟩ u) 0 u rs := World.ownsRow.kept hu hg (hne u hgu)
        simpa using hk2
      · rw [List.getElem_set_ne (fun h => e h.symm), List.getElem_set_ne (fun h => e h.symm)]
        exact World.ownsRow.kept (hM.row i (by omega)) hg (hne _ (hgv _ (List.getElem_mem (by omega))))
    · rw [List.pairwise_iff_getElem]
      intro i j hi hj hij b hb e
      have hi' : i < vs.length := by rw [List.length_set] at hi; exact hi
      have hj' : j < vs.length := by rw [List.length_set] at hj; exact hj
      by_cases e1 : i = k
      · subst e1
        rw [List.getElem_set_self] at hb
        rw [List.getElem_set_ne (by omega)] at e
        exact huM b hb (.inr ⟨_, List.getElem_mem (l := vs) hj', e⟩)
      · rw [List.getElem_set_ne (fun h => e1 h.symm)] at hb
        by_cases e2 : j = k
        · subst e2
          rw [List.getElem_set_self] at e
          exact huM b e (.inr ⟨_, List.getElem_mem (l := vs) hi', hb⟩)
        · rw [List.getElem_set_ne (fun h => e2 h.symm)] at e
          exact hd i j hi' hj' hij b hb e
    · intro x hx b hb e
      have e : g = b := by simpa [Value.ownBlock] using e
      rcases hmem x hx with rfl | hx
      · exact hgu b hb e.symm
      · exact hgv x hx b hb e.symm
  have hfoot : ∀ b, (tM (.slice (some ⟨g, 0, none⟩) vs.length cap) (vs.set k u) (rss.set k rs)).foot b → (tM (.slice (some ⟨g, 0, none⟩) vs.length cap) vs rss).foot b ∨ u.ownBlock = some b := by
    intro b hb
    rcases hb with hb | ⟨x, hx, hb⟩
    · exact .inl (.inl hb)
    · rcases hmem x hx with rfl | hx
      · exact .inr hb
      · exact .inl (.inr ⟨x, hx, hb⟩)
  have rT : ∀ t ∈ ts, ∀ k, t.foot k → w0.heap.size ≤ k ∧ k < w.heap.size := fun t ht k hk => h.range t (by simp [ht]) k hk
  refine ⟨?_, ?_, ?_, ?_⟩
  · exact h.below.trans ⟨hc.os, hc.tape, hc.output, hc.size, fun k hk => hc.block k (by have := h.below.size; omega) (fun e => by have := (rM k e).1; omega)⟩
  · intro x hm
    rcases List.mem_cons.1 hm with rfl | hm
    · exact hnew
    · exact x.stable w _ hc.size (fun k hk => hc.block k (rT x hm k hk).2 (fun e => d2 x hm k e hk)) (h.holds x (by simp [hm]))
  · intro x hm b hb
    rcases List.mem_cons.1 hm with rfl | hm
    · rcases hfoot b hb with e | e
      · exact ⟨(rM b e).1, Nat.lt_of_lt_of_le (rM b e).2 hc.size⟩
      · exact ⟨(rU b e).1, Nat.lt_of_lt_of_le (rU b e).2 hc.size⟩
    · exact ⟨(rT x hm b hb).1, Nat.lt_of_lt_of_le (rT x hm b hb).2 hc.size⟩
  · refine List.pairwise_cons.2 ⟨fun x hm b e1 e2 => ?_, (List.pairwise_cons.1 (List.pairwise_cons.1 h.dis).2).2⟩
    rcases hfoot b e1 with e | e
    · exact d2 x hm b e e2
    · exact d1 x (by simp [hm]) b e e2

theorem own_madeM {w : World} {lo n : Nat} (h : w.ownsRow lo 22 1 (.slice (some ⟨lo, 0, none⟩) n n) n (madeCells #[Value.slice none 0 0] n).toList) :
    OwnM w lo (.slice (some ⟨lo, 0, none⟩) n n) (List.replicate n (.slice none 0 0)) (List.replicate n []) := by
  rw [toList_madeCells_one] at h
  refine ⟨by rw [List.length_replicate]; exact h, by simp, fun p hp => ?_, ?_, ?_⟩
  · have h1 := (List.of_mem_zip hp).1
    have h2 := (List.of_mem_zip hp).2
    obtain ⟨a, b⟩ := p
    rw [(List.mem_replicate.1 h1).2, (List.mem_replicate.1 h2).2]
    exact Own.nil _ _
  · rw [List.pairwise_replicate]
    exact .inr (fun k hk => by simp [Value.ownBlock] at hk)
  · intro u hu k hk
    rw [(List.mem_replicate.1 hu).2] at hk
    simp [Value.ownBlock] at hk
def fillL {α : Type} (l : List α) (z : α) (n k : Nat) : List α := l.take k ++ List.replicate (n - k) z
theorem fillL_zero {α : Type} (l : List α) (z : α) (n : Nat) : fillL l z n 0 = List.replicate n z := by simp [fillL]
theorem fillL_full {α : Type} (l : List α) (z : α) : fillL l z l.length l.length = l := by simp [fillL]
theorem fillL_set {α : Type} (l : List α) (z : α) (n k : Nat) (hk : k < n) (hl : k < l.length) : (fillL l z n k).set k l[k] = fillL l z n (k + 1) := by
  unfold fillL
  have e : n - k = (n - (k + 1)) + 1 := by omega
  have ln : (l.take k).length = k := by simp; omega
  rw [List.set_append, if_neg (by omega), ln, Nat.sub_self, e, List.replicate_succ, List.set_cons_zero, List.take_succ_eq_append_getElem hl, List.append_assoc]
  rfl

set_option maxHeartbeats 1600000 in
theorem toIntSS_any (a : Option Addr) (cap : Nat) (rss : List (List Int)) (w : World) (hl : rss.length ≤ 1048576) (hx : ∀ r ∈ rss, r.length ≤ 1048576) (hr : ReadsM w a rss.length rss) :
    Calls Try.prog 11 #[.slice a rss.length cap] w fun e w' => ∃ v vs, e = .returned v ∧ OwnM w' w.heap.size v vs rss ∧ Below w.heap.size w w' := by
  obtain ⟨i0, hi, hz0, hz1, hz2⟩ := info_parts Try.infoL
  have HX := Lib.hid hx
  have HR := Lib.hid hr
  clear hx hr
  go_enter Try.func11, Try.ntmps11
  go_wp2_with (at_make; refine wpList_make_full _ rfl _ _ 23 rfl w.heap.size 22 i0 (.slice none 0 0) 1 Try.underlying23 hi hz0 hz1 .i64 .i64 _ _ rss.length rfl rfl rfl rfl ?b1 ?b2 ?b3 ?_)
  case b1 => rw [hz2]; omega
  case b2 => unfold maxLen; omega
  case b3 => exact Nat.le_refl _
  intro w1 hown hg
  have L1 := (Law.start w).addM ((Below.refl _ _).grown hg (Nat.le_refl _) (by simp)) (own_madeM hown)
  have HL := Lib.hid L1
  clear hown hg L1 hi hz0 hz1 hz2
  go_wp2_with fail
  go_loopw [4] (fun i wr => ∃ (k : Nat) (vs : List Value), k ≤ rss.length ∧ vs.length = rss.length ∧ i = .int .i64 k ∧ Law w [tM (.slice (some ⟨w.heap.size, 0, none⟩) rss.length rss.length) vs (fillL rss [] rss.length k)] wr) (fun i _ => rss.length - (intOf i).toNat)
  case atStart => exact ⟨0, List.replicate rss.length (.slice none 0 0), Nat.zero_le _, by simp, rfl, by rw [fillL_zero]; exact HL.out⟩
  case round =>
    clear HL
    obtain ⟨k, vs, hk, hvl, rfl, L⟩ := hrel
    have HV := Lib.hid hvl
    by_cases hlt : k < rss.length
    · obtain ⟨b, off, aj, cj, ha, hb0, c1, r1⟩ := (L.readsM HR.out).row k hlt
      subst ha
      have hxl := HX.out _ (List.getElem_mem hlt)
      have HF := Lib.hid (fillL_set rss [] rss.length k hlt hlt)
      have HRr := Lib.hid r1
      have HL := Lib.hid L
      generalize rss[k] = xs at *
      clear L r1 hvl
      go_wp2_with fail
      refine (toIntS_any aj xs.length cj xs _ hxl HRr.out).mono ?_
      rintro e w2 ⟨u, rfl, hO, hb⟩
      obtain ⟨au, pu, hu, _⟩ := hO.reads
      subst hu
      have L2 := HL.out.own hb hO
      have hM2 := L2.tl.ownM
      have hc0 := World.ownsRow.cellAt (by have := hM2.outer; rw [HV.out] at this; exact this) k (by omega)
      have hfz := World.ownsRow.frozenAt (by have := hM2.outer; rw [HV.out] at this; exact this) k
      have hcz : w2.cell? ⟨w.heap.size, k, none⟩ = some (vs[k]'(by rw [HV.out]; exact hlt)) := by
        rw [hc0]
        simp [HV.out, hlt]
      clear hc0
      have L3 := L2.putM HV.out k hlt
      rw [HF.out] at L3
      have HL3 := Lib.hid L3
      have HVS := Lib.hid (show (vs.set k (.slice au xs.length pu)).length = rss.length by rw [List.length_set]; exact HV.out)
      clear L2 L3 hM2 HL hO hb c1 HRr HF
      go_wp2_with fail
      go_roundw
      case rel => exact ⟨k + 1, _, by omega, HVS.out, by go_num, HL3.out⟩
      case measure => simp [intOf]; omega
    · obtain rfl : k = rss.length := by omega
      rw [fillL_full] at L
      have HL := Lib.hid L
      clear L
      go_wp2_with fail
      go_ret
      exact ⟨_, vs, rfl, HL.out.ownMLo, HL.out.below⟩

end Go.Proofs.Ytabfiafjcnilnaa
