import Derived.Test.YtabfiafjcnilnaaFold7
import Derived.Test.YtabfiafjcnilnaaFold8
import Derived.IntWalk
import Derived.Deep.DeepCutAuto
namespace Go.Proofs.Ytabfiafjcnilnaa
open Go.RowKit Go.WideShapes

theorem mem_getD (rss : List (List Int)) (P : List Int → Prop) (h : ∀ r ∈ rss, P r) (k : Nat) (hk : k < rss.length) : P rss[k] := h _ (List.getElem_mem hk)

set_option maxHeartbeats 800000 in
theorem eqIntSS_same (rss : List (List Int)) (lo lo' : Nat) (v v' : Value) (vs vs' : List Value) (w : World) (hl : rss.length ≤ 1048576) (hx : ∀ r ∈ rss, r.length ≤ 1048576)
    (h1 : OwnM w lo v vs rss) (h2 : OwnM w lo' v' vs' rss) :
    Calls Try.prog 14 #[v, v'] w fun e w' => e = .returned (.bool true) ∧ Below w.heap.size w w' := by
  obtain ⟨a, cap, rfl, hc⟩ := h1.form
  obtain ⟨a', cap', rfl, hc'⟩ := h2.form
  obtain ⟨n, hn⟩ : ∃ n, n = rss.length := ⟨_, rfl⟩
  have e1 : vs.length = n := by rw [hn]; exact h1.len.symm
  have e2 : vs'.length = n := by rw [hn]; exact h2.len.symm
  have R : ∀ k, k < n → ∃ g g' u u', a = some ⟨g, 0, none⟩ ∧ a' = some ⟨g', 0, none⟩ ∧ g < w.heap.size ∧ g' < w.heap.size ∧ w.cell? ⟨g, k, none⟩ = some u ∧ w.cell? ⟨g', k, none⟩ = some u' ∧
      ∃ xs : List Int, xs.length ≤ 1048576 ∧ Own w lo u xs ∧ Own w lo' u' xs := by
    intro k hk
    obtain ⟨g, hg, hcg⟩ := hc k (by omega)
    obtain ⟨g', hg', hcg'⟩ := hc' k (by omega)
    exact ⟨g, g', _, _, hg, hg', World.block_lt_of_cell? _ _ hcg, World.block_lt_of_cell? _ _ hcg', hcg, hcg', _, hx _ (List.getElem_mem (by omega : k < rss.length)), h1.row k (by omega), h2.row k (by omega)⟩
  rw [e1, e2]
  clear hc hc' h1 h2 hx e1 e2
  subst hn
  generalize rss.length = n at *
  have HR := Lib.hid R
  clear R
  go_enter Try.func14, Try.ntmps14
  go_wp2_with fail
  go_loopw [5] (fun i wr => ∃ k : Nat, k ≤ n ∧ i = .int .i64 k ∧ Below w.heap.size w wr) (fun i _ => n - (intOf i).toNat)
  case atStart => exact ⟨0, Nat.zero_le _, rfl, Below.refl _ _⟩
  case round =>
    obtain ⟨k, hk, rfl, hB⟩ := hrel
    by_cases hlt : k < n
    · obtain ⟨g, g', u, u', rfl, rfl, hg, hg', c1, c2, xs, hxl, o1, o2⟩ := HR.out k hlt
      have c1 := (hB.cell (p := ⟨g, k, none⟩) hg).trans c1
      have c2 := (hB.cell (p := ⟨g', k, none⟩) hg').trans c2
      have O1 := Lib.hid o1
      have O2 := Lib.hid o2
      have HB := Lib.hid hB
      clear o1 o2 hg hg' hB
      go_upto_region 6 with fail
      go_cut [26] (fun t w' => t = .bool false ∧ Below wr.heap.size wr w')
      case first =>
        have hd : Below wr.heap.size wr wr.drew := (Below.refl _ _).drew
        go_region_with ((go_at_call 13; refine (eqIntS_same xs lo lo' u u' _ hxl ((O1.out.kept HB.out).kept hd) ((O2.out.kept HB.out).kept hd)).mono ?_; rintro e w2 ⟨rfl, hb⟩))
        all_goals (go_wp2_with fail; go_meet; exact ⟨rfl, below_on hd hb⟩)
      obtain ⟨rfl, hb⟩ := hcut
      have HB2 := Lib.hid (below_on HB.out hb)
      clear hb c1 c2
      go_wp2_with fail
      go_roundw
      case rel => exact ⟨k + 1, by omega, by go_num, HB2.out⟩
      case measure => simp [intOf]; omega
    · go_wp2_with fail
      go_ret
      exact ⟨rfl, hB⟩

def total (rss : List (List Int)) : Nat := (rss.map List.length).sum
theorem total_nil : total [] = 0 := rfl
theorem total_cons (r : List Int) (rs : List (List Int)) : total (r :: rs) = r.length + total rs := by simp [total]
theorem total_append (l r : List (List Int)) : total (l ++ r) = total l + total r := by simp [total]
theorem total_le (rss : List (List Int)) : ∀ r ∈ rss, r.length ≤ total rss := by
  induction rss with
  | nil => simp
  | cons a l ih =>
    intro r hr
    rw [total_cons]
    rcases List.mem_cons.1 hr with rfl | hr
    · omega
    · have := ih r hr; omega
theorem total_take (rss : List (List Int)) (k : Nat) : total (rss.take k) ≤ total rss := by
  have h := total_append (rss.take k) (rss.drop k)
  rw [List.take_append_drop] at h
  omega
theorem total_succ (rss : List (List Int)) (k : Nat) (hk : k < rss.length) : total (rss.take (k + 1)) = total (rss.take k) + rss[k].length := by
  rw [List.take_succ_eq_append_getElem hk, total_append, total_cons, total_nil, Nat.add_zero]

/-- What a mark of all rows leaves. -/
def runs : Int → List (List Int) → List (List Int)
  | _, [] => []
  | m, r :: rs => run m r.length :: runs (m + r.length) rs
theorem runs_len (rss : List (List Int)) : ∀ m, (runs m rss).length = rss.length := by
  induction rss with
  | nil => intro m; rfl
  | cons a l ih => intro m; simp [runs, ih]
theorem runs_append (l r : List (List Int)) : ∀ m, runs m (l ++ r) = runs m l ++ runs (m + total l) r := by
  induction l with
  | nil => intro m; simp [runs, total]
  | cons a l ih =>
    intro m
    rw [List.cons_append, runs, runs, ih, total_cons, List.cons_append]
    congr 3
    push_cast
    omega
theorem runs_get (rss : List (List Int)) (m : Int) (k : Nat) (hk : k < rss.length) : (runs m rss)[k]'(by rw [runs_len]; exact hk) = run (m + total (rss.take k)) rss[k].length := by
  have e : runs m rss = runs m (rss.take k) ++ (run (m + total (rss.take k)) rss[k].length :: runs (m + total (rss.take k) + rss[k].length) (rss.drop (k + 1))) := by
    conv => lhs; rw [← List.take_append_drop k rss, List.drop_eq_getElem_cons hk, runs_append, runs]
  have l : (runs m (rss.take k)).length = k := by rw [runs_len]; simp; omega
  have h : (runs m rss)[k]? = some (run (m + total (rss.take k)) rss[k].length) := by
    rw [e, List.getElem?_append_right (by omega), l, Nat.sub_self]
    rfl
  rw [List.getElem?_eq_getElem (by rw [runs_len]; exact hk)] at h
  injection h
/-- .. behind k rows. -/
def runsK (rss : List (List Int)) (m : Int) (k : Nat) : List (List Int) := runs m (rss.take k) ++ rss.drop k
theorem runsK_zero (rss : List (List Int)) (m : Int) : runsK rss m 0 = rss := by simp [runsK, runs]
theorem runsK_full (rss : List (List Int)) (m : Int) : runsK rss m rss.length = runs m rss := by simp [runsK]
theorem runsK_get (rss : List (List Int)) (m : Int) (k : Nat) (hk : k < rss.length) : (runsK rss m k)[k]? = some rss[k] := by
  have l : (runs m (rss.take k)).length = k := by rw [runs_len]; simp; omega
  unfold runsK
  rw [List.getElem?_append_right (by omega), l, Nat.sub_self, List.drop_eq_getElem_cons hk]
  rfl
theorem runsK_set (rss : List (List Int)) (m : Int) (k : Nat) (hk : k < rss.length) : (runsK rss m k).set k (run (m + total (rss.take k)) rss[k].length) = runsK rss m (k + 1) := by
  have l : (runs m (rss.take k)).length = k := by rw [runs_len]; simp; omega
  unfold runsK
  rw [List.set_append, if_neg (by omega), l, Nat.sub_self, List.drop_eq_getElem_cons hk, List.set_cons_zero, List.take_succ_eq_append_getElem hk, runs_append, List.append_assoc]
  rfl

/-- One of the rows is written. -/
theorem OwnM.write {w w' : World} {lo : Nat} {v : Value} {vs : List Value} {rss : List (List Int)} (h : OwnM w lo v vs rss) (k : Nat) (hk : k < vs.length) {ys : List Int}
    (hO : Own w' lo vs[k] ys) (hg : w.grownBy w' vs[k].ownBlock) : OwnM w' lo v vs (rss.set k ys) := by
  have hne : ∀ x : Value, (∀ b, vs[k].ownBlock = some b → x.ownBlock ≠ some b) → x.ownBlock = none ∨ x.ownBlock ≠ vs[k].ownBlock := fun x hx => by
    cases e : vs[k].ownBlock with
    | none =>
      cases e2 : x.ownBlock with
      | none => exact .inl rfl
      | some b => exact .inr (by simp)
    | some b => exact .inr (hx b e)
  have hd := List.pairwise_iff_getElem.1 h.dis
  refine ⟨World.ownsRow.kept h.outer hg (hne v (fun b hb => h.apart _ (List.getElem_mem hk) b hb)), by rw [List.length_set]; exact h.len, fun p hp => ?_, h.dis, h.apart⟩
  obtain ⟨i, hi, rfl⟩ := List.getElem_of_mem hp
  simp only [List.length_zip, List.length_set] at hi
  have hi1 : i < vs.length := by omega
  rw [List.getElem_zip]
  by_cases e : i = k
  · subst e
    simpa using hO
  · rw [List.getElem_set_ne (fun h => e h.symm)]
    refine World.ownsRow.kept (h.row i hi1) hg (hne vs[i] (fun b hb hb2 => ?_))
    rcases Nat.lt_or_gt_of_ne e with hlt | hlt
    · exact hd i k hi1 hk hlt b hb2 hb
    · exact hd k i hk hi1 hlt b hb hb2
theorem Law.markM {w0 w w' : World} {ts ts' : List Thing} {v : Value} {vs : List Value} {rss rss' : List (List Int)} (h : Law w0 (ts ++ tM v vs rss :: ts') w) (hc : Chg (tM v vs rss).foot w w') {lo : Nat}
    (hs : OwnM w' lo v vs rss') : Law w0 (ts ++ tM v vs rss' :: ts') w' := h.write hc (tM v vs rss') rfl (hs.lower (Nat.zero_le _))

set_option maxHeartbeats 800000 in
theorem markIntSS_any (rss : List (List Int)) (lo : Nat) (v : Value) (vs : List Value) (m : Int) (w : World) (hl : rss.length ≤ 1048576) (hx : total rss ≤ 1048576) (h0 : 0 ≤ m) (h1 : m ≤ 4000000000)
    (hM : OwnM w lo v vs rss) :
    Calls Try.prog 18 #[v, .int .i64 m] w fun e w' => e = .returned (.int .i64 (m + total rss)) ∧ OwnM w' lo v vs (runs m rss) ∧ Chg (tM v vs rss).foot w w' := by
  obtain ⟨a, cap, rfl, hc⟩ := hM.form
  obtain ⟨n, hn⟩ : ∃ n, n = vs.length := ⟨_, rfl⟩
  have HN := Lib.hid (show vs.length = rss.length from hM.len.symm)
  have HM := Lib.hid hM
  clear hc hM
  go_enter Try.func18, Try.ntmps18
  go_wp2_with fail
  go_loopw [1, 5] (fun q i wr => ∃ k : Nat, k ≤ vs.length ∧ i = .int .i64 k ∧ q = .int .i64 (m + total (rss.take k)) ∧ OwnM wr lo (.slice a vs.length cap) vs (runsK rss m k) ∧ Chg (tM (.slice a vs.length cap) vs rss).foot w wr) (fun _ i _ => vs.length - (intOf i).toNat)
  case atStart => exact ⟨0, Nat.zero_le _, rfl, by simp [total], by rw [runsK_zero]; exact HM.out, Chg.refl _ _⟩
  case round =>
    obtain ⟨k, hk, rfl, rfl, hMr, hC⟩ := hrel
    clear HM
    by_cases hlt : k < vs.length
    · have hkr : k < rss.length := by have := HN.out; omega
      obtain ⟨a', cap', hv, hc⟩ := hMr.form
      injection hv with ha hb hcp
      subst ha
      obtain ⟨g, rfl, c1⟩ := hc k hlt
      have ht := total_take rss k
      have hO := hMr.row k hlt
      have hg1 : (runsK rss m k)[k]'(by rw [hMr.len]; exact hlt) = rss[k] := by
        have := runsK_get rss m k hkr
        rw [List.getElem?_eq_getElem (by rw [hMr.len]; exact hlt)] at this
        injection this
      rw [hg1] at hO
      have HO := Lib.hid hO
      have hrl := total_le rss _ (List.getElem_mem hkr)
      have hts := total_succ rss k hkr
      have HT := Lib.hid (show m + total (rss.take (k + 1)) = m + total (rss.take k) + rss[k].length by rw [hts]; push_cast; omega)
      have HS := Lib.hid (runsK_set rss m k hkr)
      obtain ⟨t, htt⟩ : ∃ t, t = total (rss.take k) := ⟨_, rfl⟩
      rw [← htt] at HT HS ht ⊢
      generalize hxs : rss[k] = xs at *
      have HMr := Lib.hid hMr
      have HC := Lib.hid hC
      clear hb hcp hc hO hg1 hts hMr hC htt hxs
      go_wp2_with fail
      refine (markIntS_any lo vs[k] xs (m + t) _ (by omega) (by omega) (by omega) HO.out).mono ?_
      rintro e w2 ⟨rfl, O2, hg⟩
      have hM2 := HMr.out.write k hlt O2 hg
      have hC2 := HC.out.trans (Chg.of_grown (foot := (tM (.slice (some ⟨g, 0, none⟩) vs.length cap) vs rss).foot) hg (fun b hb => .inr ⟨vs[k], List.getElem_mem hlt, hb⟩))
      rw [HS.out] at hM2
      have HM2 := Lib.hid hM2
      have HC2 := Lib.hid hC2
      clear hM2 hC2 O2 hg c1 HMr HC HO
      go_wp2_with fail
      go_roundw
      case rel => exact ⟨k + 1, by omega, by go_num, by rw [HT.out], HM2.out, HC2.out⟩
      case measure => simp [intOf]; omega
    · obtain rfl : k = vs.length := by omega
      have HMr := Lib.hid hMr
      have HC := Lib.hid hC
      clear hMr hC
      go_wp2_with fail
      go_ret
      refine ⟨ret_int ?_, ?_, HC.out⟩
      · rw [HN.out, List.take_length]
      · have := HMr.out
        rw [HN.out] at this ⊢
        rw [runsK_full] at this
        exact this

set_option maxHeartbeats 800000 in
theorem heldIntSS_any (rss : List (List Int)) (lo : Nat) (v : Value) (vs : List Value) (m : Int) (w : World) (hl : rss.length ≤ 1048576) (hx : total rss ≤ 1048576) (h0 : 0 ≤ m) (h1 : m ≤ 4000000000)
    (hM : OwnM w lo v vs (runs m rss)) :
    Calls Try.prog 19 #[v, .int .i64 m] w fun e w' => e = .returned (.int .i64 (m + total rss)) ∧ Below w.heap.size w w' := by
  obtain ⟨a, cap, rfl, hc⟩ := hM.form
  have HN := Lib.hid (show vs.length = rss.length by rw [← hM.len, runs_len])
  have HM := Lib.hid hM
  clear hc hM
  go_enter Try.func19, Try.ntmps19
  go_wp2_with fail
  go_loopw [1, 5] (fun q i wr => ∃ k : Nat, k ≤ vs.length ∧ i = .int .i64 k ∧ q = .int .i64 (m + total (rss.take k)) ∧ Below w.heap.size w wr) (fun _ i _ => vs.length - (intOf i).toNat)
  case atStart => exact ⟨0, Nat.zero_le _, rfl, by simp [total], Below.refl _ _⟩
  case round =>
    obtain ⟨k, hk, rfl, rfl, hB⟩ := hrel
    by_cases hlt : k < vs.length
    · have hkr : k < rss.length := by have := HN.out; omega
      obtain ⟨a', cap', hv, hc⟩ := HM.out.form
      injection hv with ha hb hcp
      subst ha
      obtain ⟨g, rfl, c0⟩ := hc k hlt
      have c1 := (hB.cell (p := ⟨g, k, none⟩) (World.block_lt_of_cell? _ _ c0)).trans c0
      have ht := total_take rss k
      have hO := (HM.out.row k hlt).kept hB
      rw [runs_get rss m k hkr] at hO
      have HO := Lib.hid hO
      have hrl := total_le rss _ (List.getElem_mem hkr)
      have hts := total_succ rss k hkr
      have HT := Lib.hid (show m + total (rss.take (k + 1)) = m + total (rss.take k) + rss[k].length by rw [hts]; push_cast; omega)
      obtain ⟨t, htt⟩ : ∃ t, t = total (rss.take k) := ⟨_, rfl⟩
      rw [← htt] at HT HO ht ⊢
      generalize hxs : rss[k].length = xl at *
      have HB := Lib.hid hB
      clear hb hcp hc hO hts hB htt hxs c0
      go_wp2_with fail
      refine (heldIntS_below lo vs[k] xl (m + t) _ (by omega) (by omega) (by omega) HO.out).mono ?_
      rintro e w2 ⟨rfl, hb⟩
      have HB2 := Lib.hid (below_on HB.out hb)
      clear hb c1 HO
      go_wp2_with fail
      go_roundw
      case rel => exact ⟨k + 1, by omega, by go_num, by rw [HT.out], HB2.out⟩
      case measure => simp [intOf]; omega
    · obtain rfl : k = vs.length := by omega
      have HB := Lib.hid hB
      clear hB
      go_wp2_with fail
      go_ret
      exact ⟨ret_int (by rw [HN.out, List.take_length]), HB.out⟩

end Go.Proofs.Ytabfiafjcnilnaa
