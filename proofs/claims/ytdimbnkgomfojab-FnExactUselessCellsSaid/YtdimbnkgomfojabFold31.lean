import Derived.Test.YtdimbnkgomfojabFold24
import Derived.Test.YtdimbnkgomfojabFold28
import Derived.Test.YtdimbnkgomfojabFold30
import Derived.BigRegion
namespace Go.Proofs.Ytdimbnkgomfojab
open Go.RowKit Go.WideShapes

/-- Whether a placement holds a cell. -/
def hasC (Q P : List Int) : Bool := P.getD (Q.getD 0 0).toNat 0 == Q.getD 1 0
/-- Whether a cell is in all of some placements, or in none. -/
def nuP (all : Bool) (LL : List (List Int)) (Q : List Int) : Bool := if all then (LL.filter (hasC Q)).length == LL.length else (LL.filter (hasC Q)).length == 0

theorem cellsL_in (xs : List Int) (n m : Nat) : ∀ Q ∈ cellsL xs n m, ∃ i j : Nat, Q = [(i : Int), (j : Int)] ∧ i < n ∧ j < m := by
  intro Q hQ
  unfold cellsL cellsU at hQ
  rcases List.mem_append.1 hQ with h | h
  · obtain ⟨a, ha, h⟩ := List.mem_flatMap.1 h
    unfold rowC at h
    obtain ⟨b, hb, rfl⟩ := List.mem_map.1 h
    exact ⟨a, b, rfl, List.mem_range.1 ha, List.mem_range.1 (List.mem_filter.1 hb).1⟩
  · simp [rowC] at h

set_option maxRecDepth 100000 in
set_option maxHeartbeats 6400000 in
theorem lcTimes_any (all : Bool) (n m : Nat) (xs : List Int) (w : World) (hx : xs.length ≤ 1048576) (hg : goodB n m xs = true) (lo : Nat) (s : Value) (hO : Own w lo s xs) :
    Calls Try.prog 97 #[.agg #[.int .i64 n, .int .i64 m, s], .bool all] w fun e w' => ∃ v vs, e = .returned v ∧ OwnM w' w.heap.size v vs ((cellsL xs n m).filter (nuP all (LG n m (bt xs)))) ∧ Below w.heap.size w w' := by
  have L0 := (Law.start w).box (.int .i64 n) (.int .i64 m) s 28
  have HO := Lib.hid hO
  obtain ⟨a, cap, rfl, _⟩ := hO.reads
  obtain ⟨g1, g2, g3, _⟩ := good_facts hg
  have hn6 : n ≤ 6 := by omega
  have hm6 : m ≤ 6 := by omega
  have HLL := Lib.hid (fun W h => lcLargest_any n m xs W hx hn6 hm6 (by omega) (good_cell hg) lo (.slice a xs.length cap) h)
  have HBO := Lib.hid (fun W h => boCells_any n m xs W hx hg lo (.slice a xs.length cap) h)
  have HPL := Lib.hid (LG_rows n m (bt xs))
  have HLN := Lib.hid (LG_len n m hn6 hm6 (bt xs))
  have HCE := Lib.hid (cellsL_in xs n m)
  have HBD : Hid ((cellsL xs n m).length ≤ 42) := Lib.hid (cellsU_len xs m n 0 hn6 hm6 (by omega))
  clear hg g1 g2 g3 hO
  generalize LG n m (bt xs) = LL at *
  generalize cellsL xs n m = CL at *
  obtain ⟨p, hp⟩ : ∃ p, p = nuP all LL := ⟨_, rfl⟩
  rw [← hp]
  have HP := Lib.hid hp
  obtain ⟨FL, hfl⟩ : ∃ FL, FL = CL.filter p := ⟨_, rfl⟩
  rw [← hfl]
  have HFL := Lib.hid hfl
  have HL := Lib.hid L0
  clear hp hfl L0
  go_enter Try.func97, Try.ntmps97
  go_wp2_with fail
  refine (HLL.out _ (HO.out.kept HL.out.below)).mono ?_
  rintro e w1 ⟨g, cp, lvs, rfl, hM, hb⟩
  have L1 := HL.out.addM hb hM
  have ⟨_, k1, k2, k3, _⟩ := L1.tl.ownBox
  have HL1 := Lib.hid L1
  clear L1 hM hb HL HLL
  go_wp2_with fail
  refine (HBO.out _ (HO.out.kept HL1.out.below)).mono ?_
  rintro e w2 ⟨v, vs, rfl, hM, hb⟩
  have hvl := hM.len
  obtain ⟨va, vp, hv⟩ := hM.formR
  subst hv
  have L2 := (HL1.out.addM hb hM).apartM
  have L3 := (L2.perm (List.perm_append_comm (l₁ := tRowO (.slice va CL.length vp) vs :: tRows vs CL) (l₂ := [tM (.slice (some ⟨g, 0, none⟩) LL.length cp) lvs LL, tBox w.heap.size (.int .i64 n) (.int .i64 m) (.slice a xs.length cap)]))).nilM
  have HL3 := Lib.hid L3
  have HVL := Lib.hid hvl
  clear L2 L3 hM hb hvl HL1 HBO k1 k2 k3
  go_wp2_with fail
  go_loopw [6, 17] (fun o i wr => ∃ (k : Nat) (os : List Value), k ≤ CL.length ∧ i = .int .i64 k ∧ (os = [] → o = .slice none 0 0) ∧ Law w (tM o os ((CL.take k).filter p) :: tM (.slice (some ⟨g, 0, none⟩) LL.length cp) lvs LL :: tBox w.heap.size (.int .i64 n) (.int .i64 m) (.slice a xs.length cap) :: tRowO (.slice va CL.length vp) vs :: tRows (vs.drop k) (CL.drop k)) wr) (fun _ i _ => CL.length - (intOf i).toNat)
  case atStart => exact ⟨0, [], Nat.zero_le _, rfl, fun _ => rfl, by simpa using HL3.out⟩
  case round =>
    clear HL3
    obtain ⟨k, os, hk, rfl, hno, L⟩ := hrel
    obtain ⟨wo, rfl⟩ : ∃ wo : World, wo = wr := ⟨_, rfl⟩
    by_cases hlt : k < CL.length
    · have hvk : k < vs.length := by have := HVL.out; omega
      rw [tRows_cons vs CL k hvk hlt] at L
      have hro : wo.ownsRow 0 22 1 (.slice va CL.length vp) vs.length vs := L.holds (tRowO (.slice va CL.length vp) vs) (by simp)
      obtain ⟨gv0, hva⟩ : ∃ g, va = some ⟨g, 0, none⟩ := by
        rcases hro.2 with ⟨h1, _⟩ | ⟨g, cp, cur, h1, _⟩
        · injection h1 with _ h2 _
          omega
        · injection h1 with h2 _ _
          exact ⟨g, h2⟩
      subst hva
      have hcell : wo.cell? ⟨gv0, k, none⟩ = some vs[k] := by
        rw [← HVL.out] at hro
        rw [World.ownsRow.cellAt hro k (by rw [HVL.out]; omega)]
        simp [hvk]
      have hu : Own wo 0 vs[k] CL[k] := L.holds (tOwn vs[k] CL[k]) (by simp)
      have hy := filt_yes CL p k hlt
      have hn := filt_no CL p k hlt
      have hmem : CL[k] ∈ CL := List.getElem_mem hlt
      obtain ⟨qi, qj, hQ, hqi, hqj⟩ := HCE.out CL[k] hmem
      have hkI : (k : Int) < CL.length := by omega
      have hkB : (k : Int) < 42 := by have := HBD.out; omega
      have hcl : ((CL.take k).filter p).length ≤ 42 := by
        refine Nat.le_trans (List.length_filter_le _ _) ?_
        rw [List.length_take]
        have := HBD.out
        omega
      have hol := L.ownM.len
      obtain ⟨oa, oc, hoe⟩ := L.ownM.formR
      subst hoe
      obtain ⟨ua, up, huv, hur⟩ := hu.reads
      have L2 := L.perm (ts' := tOwn vs[k] CL[k] :: tM _ os ((CL.take k).filter p) :: tM (.slice (some ⟨g, 0, none⟩) LL.length cp) lvs LL :: tBox w.heap.size (.int .i64 n) (.int .i64 m) (.slice a xs.length cap) :: tRowO (.slice (some ⟨gv0, 0, none⟩) CL.length vp) vs :: tRows (vs.drop (k + 1)) (CL.drop (k + 1))) (by
        exact List.perm_middle (l₁ := [_, _, _, _]) (l₂ := tRows (vs.drop (k + 1)) (CL.drop (k + 1))))
      rw [hQ] at huv hur L2 hy hn
      rw [huv] at L2 hcell
      simp only [List.length_cons, List.length_nil, Nat.zero_add, Nat.reduceAdd] at huv hur L2 hcell
      obtain ⟨-, hur⟩ := hur
      obtain ⟨ub, uo, rfl, hult, huc⟩ : ∃ b off, ua = some ⟨b, off, none⟩ ∧ b < wo.heap.size ∧ ∀ j, j < 2 → wo.cell? ⟨b, off + j, none⟩ = some (.int .i64 ([(qi : Int), (qj : Int)].getD j 0)) := by
        rcases hur with h | h
        · omega
        · exact h
      have hpp : p [(qi : Int), (qj : Int)] = nuP all LL [(qi : Int), (qj : Int)] := by rw [HP.out]
      have HU0 := Lib.hid (show wo.cell? ⟨ub, uo, none⟩ = some (.int .i64 (qi : Int)) from huc 0 (by omega))
      have HU1 := Lib.hid (show wo.cell? ⟨ub, uo + 1, none⟩ = some (.int .i64 (qj : Int)) from huc 1 (by omega))
      clear hro hu hmem huv hur huc hQ
      generalize (CL.take k).filter p = C at *
      rw [hpp] at hy hn
      have hosB : os.length + 1 ≤ 1048576 := by omega
      have HLE := Lib.hid hosB
      have HL := Lib.hid L2
      have HY := Lib.hid hy
      have HN := Lib.hid hn
      clear L L2 hcl hol hpp hy hn hosB hult
      obtain ⟨FF, hff⟩ : ∃ FF, FF = hasC [(qi : Int), (qj : Int)] := ⟨_, rfl⟩
      have HFF := Lib.hid hff
      clear hff
      have hqn : (qi : Int) < n := by omega
      have hq0 : (0 : Int) ≤ qi := by omega
      go_wp2_with fail
      go_loopw [9, 23] (fun c i wr => ∃ (l : Nat), l ≤ LL.length ∧ i = .int .i64 l ∧ c = .int .i64 (((LL.take l).filter FF).length : Nat) ∧ Law w (tOwn (.slice (some ⟨ub, uo, none⟩) 2 up) [(qi : Int), (qj : Int)] :: tM (.slice oa C.length oc) os C :: tM (.slice (some ⟨g, 0, none⟩) LL.length cp) lvs LL :: tBox w.heap.size (.int .i64 n) (.int .i64 m) (.slice a xs.length cap) :: tRowO (.slice (some ⟨gv0, 0, none⟩) CL.length vp) vs :: tRows (vs.drop (k + 1)) (CL.drop (k + 1))) wr ∧ Below wo.heap.size wo wr) (fun _ i _ => LL.length - (intOf i).toNat)
      case atStart => exact ⟨0, Nat.zero_le _, rfl, rfl, HL.out, Below.refl _ _⟩
      case round =>
        clear HL
        obtain ⟨l, hl, rfl, rfl, L, hbw⟩ := hrel
        by_cases hll : l < LL.length
        · have hMl : OwnM wr 0 (.slice (some ⟨g, 0, none⟩) LL.length cp) lvs LL := L.holds (tM (.slice (some ⟨g, 0, none⟩) LL.length cp) lvs LL) (by simp)
          have hll2 : l < lvs.length := by rw [← hMl.len]; exact hll
          have hce : wr.cell? ⟨g, l, none⟩ = some lvs[l] := by
            have h2 := hMl
            rw [hMl.len] at h2
            exact h2.cell l hll2
          obtain ⟨pa, pp, hpv, hpr⟩ := (hMl.row l hll2).reads
          have hpl := HPL.out LL[l] (List.getElem_mem hll)
          rw [hpl] at hpv hpr
          obtain ⟨-, hpr⟩ := hpr
          obtain ⟨pb, po, rfl, _, hpc⟩ : ∃ b off, pa = some ⟨b, off, none⟩ ∧ b < wr.heap.size ∧ ∀ j, j < n → wr.cell? ⟨b, off + j, none⟩ = some (.int .i64 (LL[l].getD j 0)) := by
            rcases hpr with h | h
            · omega
            · exact h
          rw [hpv] at hce
          have hp0 := hpc qi hqi
          have hlI : (l : Int) < LL.length := by omega
          have hlB : (l : Int) < 117649 := by have := HLN.out; omega
          have hfy := filt_yes LL FF l hll
          have hfn := filt_no LL FF l hll
          have hfl : ((LL.take l).filter FF).length ≤ l := by
            refine Nat.le_trans (List.length_filter_le _ _) ?_
            rw [List.length_take]
            omega
          have hFv : FF LL[l] = (LL[l].getD qi 0 == (qj : Int)) := by rw [HFF.out]; rfl
          have HFY : Hid (FF LL[l] = true → ((LL.take (l + 1)).filter FF).length = ((LL.take l).filter FF).length + 1) := Lib.hid (fun h => by rw [← hfy h]; simp)
          have HFN : Hid (FF LL[l] = false → ((LL.take (l + 1)).filter FF).length = ((LL.take l).filter FF).length) := Lib.hid (fun h => by rw [← hfn h])
          rw [hFv] at HFY HFN
          have hu0 := (hbw.cell (p := ⟨ub, uo, none⟩) (World.block_lt_of_cell? _ _ HU0.out)).trans HU0.out
          have hu1 := (hbw.cell (p := ⟨ub, uo + 1, none⟩) (World.block_lt_of_cell? _ _ HU1.out)).trans HU1.out
          have HLl := Lib.hid (And.intro L hbw)
          generalize LL[l].getD qi 0 = z at *
          generalize ((LL.take l).filter FF).length = cnt at *
          clear hfy hfn hpr hpc hpl hMl hFv L hbw
          go_wp2_with fail
          go_region
          cases hz : (z == (qj : Int))
          · have HX := Lib.hid (HFN.out hz)
            have HLd := Lib.hid (And.intro HLl.out.1.drew HLl.out.2.drew)
            clear HFY HFN HLl hu0 hu1 hce hp0
            go_wp2_with fail
            go_roundw
            case rel => exact ⟨l + 1, hll, by go_num, by rw [HX.out], HLd.out⟩
            case measure => simp only [intOf]; exact Nat.sub_lt_sub_left hll (by omega)
          · have HX := Lib.hid (HFY.out hz)
            have HLd := Lib.hid (And.intro HLl.out.1.drew HLl.out.2.drew)
            have hcB : (cnt : Int) < 117649 := by omega
            clear HFY HFN HLl hu0 hu1 hce hp0
            go_wp2_with fail
            go_roundw
            case rel => exact ⟨l + 1, hll, by go_num, by rw [HX.out]; go_num, HLd.out⟩
            case measure => simp only [intOf]; exact Nat.sub_lt_sub_left hll (by omega)
        · obtain rfl : l = LL.length := by omega
          rw [List.take_length] at *
          have hT : nuP true LL [(qi : Int), (qj : Int)] = ((((LL.filter FF).length : Nat) : Int) == ((LL.length : Nat) : Int)) := by
            rw [HFF.out, nuP, if_pos rfl]
            by_cases h : (LL.filter (hasC [(qi : Int), (qj : Int)])).length = LL.length
            · simp [h]
            · rw [beq_eq_false_iff_ne.2 h, beq_eq_false_iff_ne.2 (by omega)]
          have hF : nuP false LL [(qi : Int), (qj : Int)] = ((((LL.filter FF).length : Nat) : Int) == 0) := by
            rw [HFF.out, nuP, if_neg (by simp)]
            by_cases h : (LL.filter (hasC [(qi : Int), (qj : Int)])).length = 0
            · simp [h]
            · rw [beq_eq_false_iff_ne.2 h, beq_eq_false_iff_ne.2 (by omega)]
          have hcl2 : (LL.filter FF).length ≤ LL.length := List.length_filter_le _ _
          have HLw := Lib.hid L
          generalize (LL.filter FF).length = cnt at *
          clear L hbw hll
          cases all
          · rw [hF] at HY HN
            cases hz : ((cnt : Int) == 0)
            · have HX := Lib.hid (HN.out hz)
              have HLd := Lib.hid HLw.out.tl
              clear HY HN HLw hT hF
              go_wp2_with fail
              go_roundw
              case rel => exact ⟨k + 1, os, hlt, by go_num, hno, by rw [← HX.out]; exact HLd.out⟩
              case measure => simp only [intOf]; exact Nat.sub_lt_sub_left hlt (by omega)
            · have HX := Lib.hid (HY.out hz)
              have HL4 := Lib.hid (HLw.out.kept (below_new (.cells #[.slice (some ⟨ub, uo, none⟩) 2 up] 22)))
              have HCE2 := Lib.hid (show (wr.alloc (.cells #[.slice (some ⟨ub, uo, none⟩) 2 up] 22)).cell? ⟨wr.heap.size, 0, none⟩ = some (.slice (some ⟨ub, uo, none⟩) 2 up) by rw [World.cell?_alloc_at _ _ _ _ rfl]; rfl)
              clear HY HN HLw hT hF
              go_wp2_with (at_builtin; refine wp_appendM rfl _ _ rfl HL4.out wr.heap.size rfl rfl HCE2.out rfl HLE.out ?_)
              intro g1 cap1 w4 L5
              have HL5 := Lib.hid L5
              clear L5 HL4 HCE2
              go_wp2_with fail
              go_roundw
              case rel => exact ⟨k + 1, os ++ [.slice (some ⟨ub, uo, none⟩) 2 up], hlt, by go_num, fun h => by simp at h, by rw [← HX.out]; exact HL5.out⟩
              case measure => simp only [intOf]; exact Nat.sub_lt_sub_left hlt (by omega)
          · rw [hT] at HY HN
            cases hz : ((cnt : Int) == (LL.length : Int))
            · have HX := Lib.hid (HN.out hz)
              have HLd := Lib.hid HLw.out.tl
              clear HY HN HLw hT hF
              go_wp2_with fail
              go_roundw
              case rel => exact ⟨k + 1, os, hlt, by go_num, hno, by rw [← HX.out]; exact HLd.out⟩
              case measure => simp only [intOf]; exact Nat.sub_lt_sub_left hlt (by omega)
            · have HX := Lib.hid (HY.out hz)
              have HL4 := Lib.hid (HLw.out.kept (below_new (.cells #[.slice (some ⟨ub, uo, none⟩) 2 up] 22)))
              have HCE2 := Lib.hid (show (wr.alloc (.cells #[.slice (some ⟨ub, uo, none⟩) 2 up] 22)).cell? ⟨wr.heap.size, 0, none⟩ = some (.slice (some ⟨ub, uo, none⟩) 2 up) by rw [World.cell?_alloc_at _ _ _ _ rfl]; rfl)
              clear HY HN HLw hT hF
              go_wp2_with (at_builtin; refine wp_appendM rfl _ _ rfl HL4.out wr.heap.size rfl rfl HCE2.out rfl HLE.out ?_)
              intro g1 cap1 w4 L5
              have HL5 := Lib.hid L5
              clear L5 HL4 HCE2
              go_wp2_with fail
              go_roundw
              case rel => exact ⟨k + 1, os ++ [.slice (some ⟨ub, uo, none⟩) 2 up], hlt, by go_num, fun h => by simp at h, by rw [← HX.out]; exact HL5.out⟩
              case measure => simp only [intOf]; exact Nat.sub_lt_sub_left hlt (by omega)
    · obtain rfl : k = CL.length := by omega
      rw [List.take_length, ← HFL.out] at L
      have HL := Lib.hid L
      clear L hlt
      go_wp2_with fail
      go_ret
      exact ⟨_, os, rfl, HL.out.ownMLo, HL.out.below⟩

end Go.Proofs.Ytdimbnkgomfojab
