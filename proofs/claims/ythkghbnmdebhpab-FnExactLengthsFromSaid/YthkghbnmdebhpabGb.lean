/- A slice of slices taken apart, and some of its rows put into another one. No condition. -/
import Derived.Test.YthkghbnmdebhpabGa
import Derived.Test.YthkghbnmdebhpabFe
import Derived.Test.YthkghbnmdebhpabSa
namespace Go.Proofs.Ythkghbnmdebhpab
open Go.RowKit Go.WideShapes

theorem Law.perm {w0 w : World} {ts ts' : List Thing} (h : Law w0 ts w) (hp : ts.Perm ts') : Law w0 ts' w :=
  ⟨h.below, fun t ht => h.holds t (hp.mem_iff.2 ht), fun t ht => h.range t (hp.mem_iff.2 ht), h.dis.perm hp (fun h k e1 e2 => h k e2 e1)⟩
/-- The outer row alone. -/
def tRowO (v : Value) (vs : List Value) : Thing :=
  ⟨fun k => v.ownBlock = some k, fun w => w.ownsRow 0 22 1 v vs.length vs, fun _ _ _ hk h => by
    refine ⟨h.1, ?_⟩
    rcases h.2 with h2 | ⟨g, cap, cur, hv, hg, hh, r⟩
    · exact .inl h2
    · exact .inr ⟨g, cap, cur, hv, hg, by rw [hk g (by rw [hv]; rfl)]; exact hh, r⟩⟩
/-- The rows, each a thing. -/
def tRows (vs : List Value) (rss : List (List Int)) : List Thing := (vs.zip rss).map fun p => tOwn p.1 p.2
theorem tRows_foot {vs : List Value} {rss : List (List Int)} {t : Thing} (h : t ∈ tRows vs rss) : ∃ u r, (u, r) ∈ vs.zip rss ∧ t = tOwn u r := by
  unfold tRows at h
  obtain ⟨p, hp, rfl⟩ := List.mem_map.1 h
  exact ⟨p.1, p.2, hp, rfl⟩
theorem Law.apartM {w0 w : World} {ts : List Thing} {v : Value} {vs : List Value} {rss : List (List Int)} (h : Law w0 (tM v vs rss :: ts) w) : Law w0 (tRowO v vs :: (tRows vs rss ++ ts)) w := by
  have hM := h.ownM
  have hr := h.range (tM v vs rss) (by simp)
  have hd := List.pairwise_cons.1 h.dis
  have hfo : ∀ t ∈ tRows vs rss, ∀ k, t.foot k → (tM v vs rss).foot k := fun t ht k hk => by
    obtain ⟨u, r, hm, rfl⟩ := tRows_foot ht
    exact .inr ⟨u, (List.of_mem_zip hm).1, hk⟩
  refine ⟨h.below, ?_, ?_, ?_⟩
  · intro t ht
    rcases List.mem_cons.1 ht with rfl | ht
    · exact hM.outer
    · rcases List.mem_append.1 ht with ht | ht
      · obtain ⟨u, r, hm, rfl⟩ := tRows_foot ht
        exact hM.rows _ hm
      · exact h.holds t (by simp [ht])
  · intro t ht k hk
    rcases List.mem_cons.1 ht with rfl | ht
    · exact hr k (.inl hk)
    · rcases List.mem_append.1 ht with ht | ht
      · exact hr k (hfo t ht k hk)
      · exact h.range t (by simp [ht]) k hk
  · refine List.pairwise_cons.2 ⟨fun t ht k e1 e2 => ?_, ?_⟩
    · rcases List.mem_append.1 ht with ht | ht
      · obtain ⟨u, r, hm, rfl⟩ := tRows_foot ht
        exact hM.apart u (List.of_mem_zip hm).1 k e2 e1
      · exact hd.1 t ht k (.inl e1) e2
    · rw [List.pairwise_append]
      refine ⟨?_, hd.2, fun a ha b hb k e1 e2 => hd.1 b hb k (hfo a ha k e1) e2⟩
      unfold tRows
      rw [List.pairwise_map]
      have hp := hM.dis
      have : (vs.zip rss).Pairwise (fun p q => ∀ k, p.1.ownBlock = some k → q.1.ownBlock ≠ some k) := by
        have h2 : ((vs.zip rss).map Prod.fst).Pairwise (fun a b => ∀ k, a.ownBlock = some k → b.ownBlock ≠ some k) := by
          rw [List.map_fst_zip (by rw [hM.len]; exact Nat.le_refl _)]
          exact hp
        rwa [List.pairwise_map] at h2
      exact this
theorem tRows_cons (vs : List Value) (rss : List (List Int)) (k : Nat) (h1 : k < vs.length) (h2 : k < rss.length) : tRows (vs.drop k) (rss.drop k) = tOwn vs[k] rss[k] :: tRows (vs.drop (k + 1)) (rss.drop (k + 1)) := by
  unfold tRows
  rw [List.drop_eq_getElem_cons h1, List.drop_eq_getElem_cons h2]
  rfl
/-- What goes on, goes on by numbers in the bounds. -/
theorem goOn_bd (n d : Nat) : ∀ l, ∀ Q ∈ goOn n d l, Q.length = d ∧ ∀ x ∈ Q, 0 ≤ x ∧ x ≤ n := by
  induction d with
  | zero => intro l Q hQ; simp [goOn] at hQ; subst hQ; simp
  | succ d ih =>
    intro l Q hQ
    rw [goOn, List.mem_flatMap] at hQ
    obtain ⟨m, hm, hQ⟩ := hQ
    rw [List.mem_range] at hm
    split at hQ
    · obtain ⟨T, hT, rfl⟩ := List.mem_map.1 hQ
      obtain ⟨h1, h2⟩ := ih m T hT
      refine ⟨by simp [h1], fun x hx => ?_⟩
      rcases List.mem_cons.1 hx with rfl | hx
      · omega
      · exact h2 x hx
    · simp at hQ

/-- All lengths of n numbers that have given factors. -/
def clsL (n : Nat) (fs : List Int) : List (List Int) := (goOn n n 0).filter fun Q => decide (facs Q = fs)
theorem filt_yes (L : List (List Int)) (p : List Int → Bool) (k : Nat) (hk : k < L.length) (h : p L[k] = true) : (L.take k).filter p ++ [L[k]] = (L.take (k + 1)).filter p := by
  rw [List.take_succ_eq_append_getElem hk, List.filter_append]
  simp [h]
theorem filt_no (L : List (List Int)) (p : List Int → Bool) (k : Nat) (hk : k < L.length) (h : p L[k] = false) : (L.take k).filter p = (L.take (k + 1)).filter p := by
  rw [List.take_succ_eq_append_getElem hk, List.filter_append]
  simp [h]

set_option maxRecDepth 100000 in
set_option maxHeartbeats 3200000 in
theorem feClass_any (a : Option Addr) (p : Nat) (fs : List Int) (w : World) (h6 : fs.length ≤ 6) (hr : Reads w a fs.length fs) :
    Calls Try.prog 52 #[.slice a fs.length p] w fun e w' => ∃ v vs, e = .returned v ∧ OwnM w' w.heap.size v vs (clsL fs.length fs) ∧ (vs = [] → v = .slice none 0 0) ∧ Below w.heap.size w w' := by
  have hall := fun W => feAll_any fs.length h6 fs.length 0 [] (by simp) (by simp [lastN]) (by omega) W 0 (.slice none 0 0) (Own.nil _ _)
  simp only [List.nil_append, List.map_id'] at hall
  have hlen := Nat.le_trans (goOn_len fs.length fs.length 0) (pow_n1 fs.length fs.length h6 h6)
  have hbd := goOn_bd fs.length fs.length 0
  obtain ⟨R, hR⟩ : ∃ R, R = clsL fs.length fs := ⟨_, rfl⟩
  rw [← hR]
  unfold clsL at hR
  generalize goOn fs.length fs.length 0 = LL at *
  have HA := Lib.hid (hall w)
  have HBD := Lib.hid (show ∀ Q ∈ LL, Q.length ≤ 1000 ∧ ∀ k, -1000 ≤ Q.getD k 0 ∧ Q.getD k 0 ≤ 1000 from fun Q hQ => by
    obtain ⟨h1, h2⟩ := hbd Q hQ
    refine ⟨by omega, fun k => ?_⟩
    by_cases hk : k < Q.length
    · have := h2 (Q.getD k 0) (by simp [List.getD, hk])
      omega
    · rw [List.getD_eq_getElem?_getD, List.getElem?_eq_none (by omega)]
      simp)
  have HR := Lib.hid hR
  have HRD := Lib.hid hr
  clear hall hbd hR hr
  go_enter Try.func52, Try.ntmps52
  go_wp2_with fail
  refine HA.out.mono ?_
  rintro e w1 ⟨v, vs, rfl, hM, hnil, hb⟩
  have L1 := ((Law.start w).addM hb hM).apartM
  rw [List.append_nil] at L1
  have hvl := hM.len
  obtain ⟨va, vp, hv⟩ := hM.formR
  subst hv
  have HL1 := Lib.hid L1.nilM
  have HVL := Lib.hid hvl
  clear L1 hM hnil hb hvl HA
  go_wp2_with fail
  go_loopw [3, 10] (fun o i wr => ∃ (k : Nat) (os : List Value), k ≤ LL.length ∧ i = .int .i64 k ∧ (os = [] → o = .slice none 0 0) ∧ Law w (tM o os ((LL.take k).filter fun Q => decide (facs Q = fs)) :: tRowO (.slice va LL.length vp) vs :: tRows (vs.drop k) (LL.drop k)) wr) (fun _ i _ => LL.length - (intOf i).toNat)
  case atStart => exact ⟨0, [], Nat.zero_le _, rfl, fun _ => rfl, by simpa using HL1.out⟩
  case round =>
    clear HL1
    obtain ⟨k, os, hk, rfl, hno, L⟩ := hrel
    obtain ⟨wo, rfl⟩ : ∃ wo : World, wo = wr := ⟨_, rfl⟩
    by_cases hlt : k < LL.length
    · have hvk : k < vs.length := by have := HVL.out; omega
      rw [tRows_cons vs LL k hvk hlt] at L
      have hro : wo.ownsRow 0 22 1 (.slice va LL.length vp) vs.length vs := L.holds (tRowO (.slice va LL.length vp) vs) (by simp)
      obtain ⟨g, hva⟩ : ∃ g, va = some ⟨g, 0, none⟩ := by
        rcases hro.2 with ⟨h1, _⟩ | ⟨g, cp, cur, h1, _⟩
        · injection h1 with _ h2 _
          omega
        · injection h1 with h2 _ _
          exact ⟨g, h2⟩
      subst hva
      have hcell : wo.cell? ⟨g, k, none⟩ = some vs[k] := by
        rw [← HVL.out] at hro
        rw [World.ownsRow.cellAt hro k (by rw [HVL.out]; omega)]
        simp [hvk]
      have hu : Own wo 0 vs[k] LL[k] := L.holds (tOwn vs[k] LL[k]) (by simp)
      have hy := filt_yes LL (fun Q => decide (facs Q = fs)) k hlt
      have hn := filt_no LL (fun Q => decide (facs Q = fs)) k hlt
      have hbd := HBD.out LL[k] (List.getElem_mem hlt)
      have hkI : (k : Int) < LL.length := by omega
      have hcl : ((LL.take k).filter fun Q => decide (facs Q = fs)).length ≤ 117649 := by
        refine Nat.le_trans (List.length_filter_le _ _) ?_
        rw [List.length_take]
        omega
      have hol := L.ownM.len
      obtain ⟨ua, up, huv, hur⟩ := hu.reads
      have L2 := L.perm (ts' := tOwn vs[k] LL[k] :: tM _ os ((LL.take k).filter fun Q => decide (facs Q = fs)) :: tRowO (.slice (some ⟨g, 0, none⟩) LL.length vp) vs :: tRows (vs.drop (k + 1)) (LL.drop (k + 1))) (by
        refine List.Perm.trans ?_ (List.perm_middle (l₁ := [_, _]) (l₂ := tRows (vs.drop (k + 1)) (LL.drop (k + 1)))).symm.symm
        exact List.Perm.refl _)
      have hC : ∀ C : List (List Int), C = (LL.take k).filter (fun Q => decide (facs Q = fs)) → True := fun _ _ => trivial
      clear hC
      have hy2 : facs LL[k] = fs → ((LL.take k).filter fun Q => decide (facs Q = fs)) ++ [LL[k]] = (LL.take (k + 1)).filter fun Q => decide (facs Q = fs) := fun h => hy (by simp [h])
      have hn2 : ¬ facs LL[k] = fs → ((LL.take k).filter fun Q => decide (facs Q = fs)) = (LL.take (k + 1)).filter fun Q => decide (facs Q = fs) := fun h => hn (by simp [h])
      clear hy hn hro hu
      rw [huv] at L2 hcell
      have hfl : (facs LL[k]).length ≤ 1048576 := by rw [facs_len]; omega
      generalize LL[k] = QQ at *
      generalize (LL.take k).filter (fun Q => decide (facs Q = fs)) = C at *
      have HF := Lib.hid (feFactors_any ua up QQ wo hbd.1 hbd.2 hur)
      have HFL := Lib.hid hfl
      have HLE := Lib.hid (show os.length + 1 ≤ 1048576 by omega)
      have HL := Lib.hid L2
      have HY := Lib.hid hy2
      have HN := Lib.hid hn2
      generalize facs QQ = fq at *
      clear L L2 hbd hcl hol huv hur hfl hy2 hn2
      go_wp2_with fail
      refine HF.out.mono ?_
      rintro e w2 ⟨v2, rfl, O2, hb2⟩
      obtain ⟨fa, fp, rfl, _⟩ := O2.reads
      have L3 := HL.out.own hb2 O2
      have HS : Hid (Calls Try.prog 57 #[.slice fa fq.length fp, .slice a fs.length p] w2 fun e w' => e = .returned (.bool (decide (fq = fs))) ∧ Drawn w2 w') := Lib.hid (l1Same_any fa a fq.length fs.length fp p fq fs _ HFL.out rfl rfl (own_rd L3.ownInts) (L3.reads HRD.out))
      have HL3 := Lib.hid L3
      clear L3 O2 hb2 HL HF hcell
      by_cases he : fq = fs
      · rw [decide_eq_true he] at HS
        have HY2 := Lib.hid (HY.out he)
        clear he HY HN
        go_wp2_with fail
        refine HS.out.mono ?_
        rintro e w3 ⟨rfl, hd⟩
        have HL4 := Lib.hid ((HL3.out.kept hd.below).tl.kept (below_new (.cells #[.slice ua QQ.length up] 22)))
        have HCE := Lib.hid (show (w3.alloc (.cells #[.slice ua QQ.length up] 22)).cell? ⟨w3.heap.size, 0, none⟩ = some (.slice ua QQ.length up) by rw [World.cell?_alloc_at _ _ _ _ rfl]; rfl)
        clear hd HL3 HS
        go_wp2_with (at_builtin; refine wp_appendM rfl _ _ rfl HL4.out w3.heap.size rfl rfl HCE.out rfl HLE.out ?_)
        intro g1 cap1 w4 L5
        have HL5 := Lib.hid L5
        clear L5 HL4 HCE
        go_wp2_with fail
        go_roundw
        case rel => exact ⟨k + 1, os ++ [.slice ua QQ.length up], by omega, by go_num, fun h => by simp at h, by rw [← HY2.out]; exact HL5.out⟩
        case measure => simp [intOf]; omega
      · rw [decide_eq_false he] at HS
        have HN2 := Lib.hid (HN.out he)
        clear he HY HN
        go_wp2_with fail
        refine HS.out.mono ?_
        rintro e w3 ⟨rfl, hd⟩
        have HL4 := Lib.hid (HL3.out.kept hd.below).tl.tl
        clear hd HL3 HS
        go_wp2_with fail
        go_roundw
        case rel => exact ⟨k + 1, os, by omega, by go_num, hno, by rw [← HN2.out]; exact HL4.out⟩
        case measure => simp [intOf]; omega
    · obtain rfl : k = LL.length := by omega
      rw [List.take_length, ← HR.out] at L
      have HL := Lib.hid L
      clear L hlt
      go_wp2_with fail
      go_ret
      exact ⟨_, os, rfl, HL.out.ownMLo, hno, HL.out.below⟩

end Go.Proofs.Ythkghbnmdebhpab
