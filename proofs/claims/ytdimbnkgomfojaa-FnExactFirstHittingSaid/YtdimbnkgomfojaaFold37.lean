import Derived.Test.YtdimbnkgomfojaaFold34
import Derived.Test.YtdimbnkgomfojaaFold33
import Derived.Test.YtdimbnkgomfojaaFold35
import Derived.Test.YtdimbnkgomfojaaFold36
import Derived.Test.YtdimbnkgomfojaaFold6
import Derived.Test.YtdimbnkgomfojaaFold32

section
namespace Go.Proofs.Ytdimbnkgomfojaa
open Go.RowKit Go.WideShapes

/-- What PermutationsHitting answers. -/
def permR (r c : Int) (xs : List Int) (k : Int) : MR := if sqB r c xs && inB 0 k 6 then ⟨(prm r.toNat r.toNat []).filter (hitP (bt xs) r.toNat k), true⟩ else ⟨[], false⟩
theorem total_rows (rss : List (List Int)) (c : Nat) (h : ∀ r ∈ rss, r.length ≤ c) : total rss ≤ c * rss.length := by
  induction rss with
  | nil => simp [total]
  | cons a l ih =>
    have h1 := h a (by simp)
    have h2 := ih (fun r hr => h r (by simp [hr]))
    rw [total_cons, List.length_cons, Nat.mul_succ]
    omega
theorem permR_len (r c : Int) (xs : List Int) (k : Int) : (permR r c xs k).zz.length ≤ 1048576 ∧ total (permR r c xs k).zz ≤ 1048576 := by
  unfold permR
  split
  · rename_i h
    rw [Bool.and_eq_true] at h
    obtain ⟨hg, _⟩ := sq_facts h.1
    obtain ⟨g1, _⟩ := good_facts hg
    have hb := prm_bd r.toNat r.toNat (by omega) (by omega) []
    have hl := List.length_filter_le (hitP (bt xs) r.toNat k) (prm r.toNat r.toNat [])
    have ht := total_rows ((prm r.toNat r.toNat []).filter (hitP (bt xs) r.toNat k)) 6 (fun P hP => by
      have := (prm_cell r.toNat P (List.mem_filter.1 hP).1).1
      omega)
    show ((prm r.toNat r.toNat []).filter (hitP (bt xs) r.toNat k)).length ≤ _ ∧ total ((prm r.toNat r.toNat []).filter (hitP (bt xs) r.toNat k)) ≤ _
    omega
  · simp [total]
theorem Pgh.below {bl bgr n m : Nat} {M : Nat → Int} {HL : List (List Int)} {bp c : Nat} {w w' : World} (h : Pgh bl bgr n m M HL bp c w) (hb : Below w.heap.size w w') : Pgh bl bgr n m M HL bp c w' := by
  obtain ⟨v, vs, hM, hn, hv, hk, hx⟩ := h.rows
  exact ⟨Nat.lt_of_lt_of_le h.lt hb.size, ⟨v, vs, hM.stayB hb, hn, hv, hk, hx.kept hb hx.lt⟩, h.grid.kept hb h.grid.lt⟩

set_option maxRecDepth 100000 in
set_option maxHeartbeats 1600000 in
theorem phWalk_any (n : Nat) (M : Nat → Int) (k : Int) (bl bgr : Nat) (w : World) (hn : n ≤ 6) (hgc : ∀ k, k < 6 → 0 ≤ M k ∧ M k < 64) (d3 : bl ≠ bgr) (B : Has w bl [.slice none 0 0] 26) (G : Has w bgr (gl n n M) 59) :
    Calls Try.prog 90 #[gv n n M, .int .i64 k, .func (.func 91) #[] #[.pointer (some ⟨bl, 0, none⟩), .pointer (some ⟨bgr, 0, none⟩)]] w fun e w' => e = .returned (.tuple #[]) ∧
      (∃ v vs, OwnM w' w.heap.size v vs ((prm n n []).filter (hitP (bN M) n k)) ∧ Has w' bl [v] 26) ∧ Chg (fun b => b = bl) w w' := by
  have hbl := B.lt
  have hbg := G.lt
  have hbd := prm_bd n n hn hn []
  have hlf := List.length_filter_le (hitP (bN M) n k) (prm n n [])
  have h := walkHit_any n M k 91 #[.pointer (some ⟨bl, 0, none⟩), .pointer (some ⟨bgr, 0, none⟩)] (fun b => b = bl) (fun bp c W => Pgh bl bgr n n M ((prm n n []).filter (hitP (bN M) n k)) bp c W) true (prm n n []) w hn hgc rfl
    (fun _ _ => by kernel_rfl)
    (fun bp c w1 w2 hb hc hi => hi.stay (by omega) (by omega) (by omega) (by omega) hc)
    (fun bp c w1 w2 hi hb => hi.below hb)
    (fun bp hb c P hP w1 hi => by
      have hmem := List.mem_of_getElem? hP
      have hl := (prm_cell n P (List.mem_filter.1 hmem).1).1
      refine (pg1_any bl bgr n n M _ bp c P w1 hn (by omega) (by omega) d3 hP (lst_pl P n hl) (by omega) hi).mono ?_
      rintro e w2 ⟨rfl, hp, hc⟩
      exact ⟨rfl, hp, hc.os, hc.tape, hc.output, hc.size, fun b hb2 hn2 => hc.block b hb2 (fun h2 => hn2 (h2.elim (fun e => .inl ⟨by omega, e⟩) .inr))⟩)
    (fun bp w1 hb hlt hbw => ⟨hlt, ⟨.slice none 0 0, [], by rw [List.take_zero]; exact OwnM.nil _ _, fun _ => rfl, fun k hk => by simp [Value.ownBlock] at hk, fun u hu => by simp at hu, B.kept hbw hbl⟩, G.kept hbw hbg⟩)
  refine h.mono ?_
  rintro e w' ⟨rfl, bp, hz, hi, hc⟩
  obtain ⟨v, vs, hM, _, hv, hk, hb⟩ := hi.rows
  rw [if_pos rfl, List.take_length] at hM
  refine ⟨rfl, ⟨v, vs, hM.raise (fun k hk2 => by have := hv k hk2; omega) (fun u hu k hk2 => by have := hk u hu k hk2; omega), hb⟩, hc.os, hc.tape, hc.output, hc.size, fun b hb2 hn2 => hc.block b hb2 (fun h2 => hn2 h2.2)⟩

set_option maxRecDepth 100000 in
set_option maxHeartbeats 3200000 in
theorem implPerms_any (r c : Int) (xs : List Int) (k : Int) (w : World) (hx : xs.length ≤ 1048576) (lo : Nat) (s : Value) (hO : Own w lo s xs) :
    Calls Try.prog 42 #[.agg #[.int .i64 r, .int .i64 c, s], .int .i64 k] w fun e w' => AnsM (permR r c xs k) w e w' := by
  have L0 := (Law.start w).box (.int .i64 r) (.int .i64 c) s 29
  obtain ⟨a, cap, rfl, hr⟩ := hO.reads
  have hr0 := L0.reads hr
  clear hO
  obtain ⟨R1, C1, M, hM, hc⟩ := squareOf_any r c a cap xs _ hx hr0
  cases hs : sqB r c xs
  · rw [show permR r c xs k = ⟨[], false⟩ by simp [permR, hs]]
    rw [hs] at hc
    have HC := Lib.hid hc
    clear hs hr0 hM hc
    go_enter Try.func42, Try.ntmps42
    go_wp2_with fail
    refine HC.out.mono ?_
    rintro e w1 ⟨rfl, hb⟩
    have HB := Lib.hid ((L0.kept hb).kept (below_new (.cells #[.int .i64 R1, .int .i64 C1, .int .i64 (M 0), .int .i64 (M 1), .int .i64 (M 2), .int .i64 (M 3), .int .i64 (M 4), .int .i64 (M 5)] 59))).below
    clear L0 hb
    go_wp2_with fail
    go_ret2
    exact ⟨_, [], rfl, OwnM.nil _ _, HB.out⟩
  · rw [hs] at hc
    obtain ⟨rfl, rfl, hMM⟩ := hM hs
    clear hM
    obtain ⟨hg, he⟩ := sq_facts hs
    obtain ⟨g1, g2, g3, _⟩ := good_facts hg
    subst he
    obtain ⟨n, rfl⟩ := Int.eq_ofNat_of_zero_le (show 0 ≤ R1 by omega)
    have hgc : ∀ k, 0 ≤ M k ∧ M k < 64 := fun k => by rw [hMM k]; exact good_cell hg k
    have hBM : bN M = bt xs := by funext a b; simp only [bN, bt, hMM]
    have hn6 : n ≤ 6 := by omega
    have HC := Lib.hid hc
    have HL := Lib.hid L0
    cases hk : inB 0 k 6
    · rw [show permR n n xs k = ⟨[], false⟩ by simp [permR, hk]]
      have HK := Lib.hid (at_bool (rookCount_any k) hk)
      clear hs hr0 hMM hc hg g1 g2 g3 hgc hBM hk L0
      go_enter Try.func42, Try.ntmps42
      go_wp2_with fail
      refine HC.out.mono ?_
      rintro e w1 ⟨rfl, hb⟩
      have HB := Lib.hid (((HL.out.kept hb).kept (below_new (.cells #[.int .i64 n, .int .i64 n, .int .i64 (M 0), .int .i64 (M 1), .int .i64 (M 2), .int .i64 (M 3), .int .i64 (M 4), .int .i64 (M 5)] 59))).below)
      clear HL hb HC
      go_wp2_with fail
      refine (HK.out _).mono ?_
      rintro e w2 ⟨rfl, rfl⟩
      go_wp2_with fail
      go_ret2
      exact ⟨_, [], rfl, OwnM.nil _ _, HB.out⟩
    · rw [show permR n n xs k = ⟨(prm n n []).filter (hitP (bt xs) n k), true⟩ by simp [permR, hs, hk]]
      have HK := Lib.hid (at_bool (rookCount_any k) hk)
      have hw := fun bl bgr W d3 B G => phWalk_any n M k bl bgr W hn6 (fun k _ => hgc k) d3 B G
      rw [hBM] at hw
      generalize (prm n n []).filter (hitP (bt xs) n k) = LL at *
      have HW := Lib.hid hw
      clear hs hr0 hMM hc hg g1 g2 g3 hgc hBM hk L0 hw
      go_enter Try.func42, Try.ntmps42
      go_wp2_with fail
      refine HC.out.mono ?_
      rintro e w1 ⟨rfl, hb⟩
      have L1 := (HL.out.kept hb).has (gl n n M) 59
      rw [show w1.alloc (.cells (gl n n M).toArray 59) = w1.alloc (.cells #[.int .i64 n, .int .i64 n, .int .i64 (M 0), .int .i64 (M 1), .int .i64 (M 2), .int .i64 (M 3), .int .i64 (M 4), .int .i64 (M 5)] 59) from rfl] at L1
      have HL1 := Lib.hid L1
      clear HL hb HC L1
      go_wp2_with fail
      refine (HK.out _).mono ?_
      rintro e w2 ⟨rfl, rfl⟩
      go_upto_region 4 with fail
      generalize w1.alloc (.cells #[.int .i64 n, .int .i64 n, .int .i64 (M 0), .int .i64 (M 1), .int .i64 (M 2), .int .i64 (M 3), .int .i64 (M 4), .int .i64 (M 5)] 59) = w5 at *
      have L2 := HL1.out.has [.slice none 0 0] 26
      rw [show w5.alloc (.cells ([.slice none 0 0] : List Value).toArray 26) = w5.alloc (.cells #[.slice none 0 0] 26) from rfl] at L2
      have HL2 := Lib.hid L2
      have hne : w5.heap.size ≠ w1.heap.size := by have := HL1.out.ownHas.lt; omega
      have HLO := Lib.hid HL1.out.below.size
      clear L2 HL1
      go_upto_region 5 with fail
      obtain ⟨bl, hbl⟩ : ∃ bl, bl = w5.heap.size := ⟨_, rfl⟩
      rw [← hbl] at HL2 hne HLO ⊢
      generalize w5.alloc (.cells #[.slice none 0 0] 26) = w6 at *
      have ⟨e0, e1, e2, e3, e4, e5, e6, e7, _⟩ := HL2.out.tl.ownHas.eight
      have HWR := Lib.hid (HW.out bl w1.heap.size w6 hne HL2.out.ownHas HL2.out.tl.ownHas)
      have HSZ := Lib.hid HL2.out.below.size
      clear hbl
      go_wp2_with fail
      refine HWR.out.mono ?_
      rintro e w7 ⟨rfl, ⟨v, vs, hM, hB⟩, hC⟩
      obtain ⟨oa, ocap, rfl⟩ := hM.formR
      have x0 := hB.one.1
      have HE := Lib.hid (show OwnM w7 w.heap.size (.slice oa LL.length ocap) vs LL ∧ Below w.heap.size w w7 from
        ⟨hM.lower HSZ.out, ⟨hC.os.trans HL2.out.below.os, hC.tape.trans HL2.out.below.tape, hC.output.trans HL2.out.below.output, Nat.le_trans HSZ.out hC.size, fun b hb => (hC.block b (Nat.lt_of_lt_of_le hb HSZ.out) (fun e => by have := HLO.out; omega)).trans (HL2.out.below.block b hb)⟩⟩)
      clear hM hB hC HWR HL2 e0 e1 e2 e3 e4 e5 e6 e7
      go_wp2_with fail
      go_ret2
      exact ⟨_, _, rfl, HE.out.1, HE.out.2⟩
end Go.Proofs.Ytdimbnkgomfojaa
end

section
namespace Go.Proofs.Ytdimbnkgomfojaa
open Go.RowKit Go.WideShapes

set_option maxRecDepth 100000 in
set_option maxHeartbeats 6400000 in
theorem specPerms_any (r c : Int) (xs : List Int) (k0 : Int) (w : World) (hx : xs.length ≤ 1048576) (lo : Nat) (s : Value) (hO : Own w lo s xs) :
    Calls Try.prog 41 #[.agg #[.int .i64 r, .int .i64 c, s], .int .i64 k0] w fun e w' => AnsM (permR r c xs k0) w e w' := by
  have L0 := (Law.start w).box (.int .i64 r) (.int .i64 c) s 29
  have HO := Lib.hid hO
  obtain ⟨a, cap, rfl, hr⟩ := hO.reads
  have hr0 := L0.reads hr
  clear hO
  cases hs : sqB r c xs
  · rw [show permR r c xs k0 = ⟨[], false⟩ by simp [permR, hs]]
    have HC := Lib.hid (at_boolB (hiGood_any r c xs _ hx a cap hr0) hs)
    clear hs hr0
    go_enter Try.func41, Try.ntmps41
    go_wp2_with fail
    refine HC.out.mono ?_
    rintro e w1 ⟨rfl, hb⟩
    have HB := Lib.hid (L0.kept hb).below
    clear L0 hb
    go_wp2_with fail
    go_ret2
    exact ⟨_, [], rfl, OwnM.nil _ _, HB.out⟩
  · obtain ⟨hg, he⟩ := sq_facts hs
    obtain ⟨g1, g2, g3, _⟩ := good_facts hg
    subst he
    obtain ⟨n, rfl⟩ := Int.eq_ofNat_of_zero_le (show 0 ≤ r by omega)
    have HC := Lib.hid (at_boolB (hiGood_any n n xs _ hx a cap hr0) hs)
    have HL := Lib.hid L0
    cases hk : inB 0 k0 6
    · rw [show permR n n xs k0 = ⟨[], false⟩ by simp [permR, hk]]
      have HK := Lib.hid (at_bool (l1In_any k0 0 6) hk)
      clear hs hr0 hg g1 g2 g3 L0 hk
      go_enter Try.func41, Try.ntmps41
      go_wp2_with fail
      refine HC.out.mono ?_
      rintro e w1 ⟨rfl, hb⟩
      have HB := Lib.hid (HL.out.kept hb).below
      clear HL hb
      go_wp2_with fail
      refine (HK.out _).mono ?_
      rintro e w2 ⟨rfl, hw⟩
      subst w2
      go_wp2_with fail
      go_ret2
      exact ⟨_, [], rfl, OwnM.nil _ _, HB.out⟩
    · rw [show permR n n xs k0 = ⟨(prm n n []).filter (hitP (bt xs) n k0), true⟩ by simp [permR, hs, hk]]
      have HK := Lib.hid (at_bool (l1In_any k0 0 6) hk)
      have hn6 : n ≤ 6 := by omega
      have HA := Lib.hid (fun W => hiAll_any n hn6 n [] (by simp) W 0 (.slice none 0 0) (Own.nil _ _))
      have hcel := fun Q h => prm_cell n Q h
      have hbd := prm_bd n n hn6 hn6 []
      generalize prm n n [] = LL at *
      have HH := Lib.hid (fun (Q : List Int) (W : World) (qa : Option Addr) (qp : Nat) (h : Q ∈ LL) (hr : Reads W qa n Q) (ho : Own W lo (.slice a xs.length cap) xs) => hiHits_any n n n xs Q W hx (by omega) hn6 (good_cell hg) (fun j hj => by have := (hcel Q h).2 j hj; omega) lo _ ho qa qp hr)
      have HCL := Lib.hid hcel
      have HBD := Lib.hid hbd
      obtain ⟨p, hp⟩ : ∃ p, p = hitP (bt xs) n k0 := ⟨_, rfl⟩
      rw [← hp]
      have HP := Lib.hid hp
      obtain ⟨FL, hfl⟩ : ∃ FL, FL = LL.filter p := ⟨_, rfl⟩
      rw [← hfl]
      have HFL := Lib.hid hfl
      clear hs hr0 hg g1 g2 g3 L0 hk hcel hbd hp hfl
      go_enter Try.func41, Try.ntmps41
      go_wp2_with fail
      refine HC.out.mono ?_
      rintro e w1 ⟨rfl, hb⟩
      have L1 := HL.out.kept hb
      have ⟨_, k1, k2, k3, _⟩ := L1.ownBox
      have HL1 := Lib.hid L1
      clear HL hb L1 HC
      go_wp2_with fail
      refine (HK.out _).mono ?_
      rintro e w2 ⟨rfl, hw⟩
      subst w2
      go_wp2_with fail
      refine (HA.out _).mono ?_
      rintro e w2 ⟨v, vs, rfl, hM, hnil, hb⟩
      have L2 := (HL1.out.addM hb hM).apartM
      have hvl := hM.len
      obtain ⟨va, vp, hv⟩ := hM.formR
      subst hv
      have L3 := (L2.perm (List.perm_append_comm (l₁ := tRowO (.slice va LL.length vp) vs :: tRows vs LL) (l₂ := [tBox w.heap.size (.int .i64 n) (.int .i64 n) (.slice a xs.length cap)]))).nilM
      have HL3 := Lib.hid L3
      have HVL := Lib.hid hvl
      clear L2 L3 hM hnil hb hvl HA HL1 k1 k2 k3
      go_wp2_with fail
      go_loopw [6, 21] (fun o i wr => ∃ (k : Nat) (os : List Value), k ≤ LL.length ∧ i = .int .i64 k ∧ (os = [] → o = .slice none 0 0) ∧ Law w (tM o os ((LL.take k).filter p) :: tBox w.heap.size (.int .i64 n) (.int .i64 n) (.slice a xs.length cap) :: tRowO (.slice va LL.length vp) vs :: tRows (vs.drop k) (LL.drop k)) wr) (fun _ i _ => LL.length - (intOf i).toNat)
      case atStart => exact ⟨0, [], Nat.zero_le _, rfl, fun _ => rfl, by simpa using HL3.out⟩
      case round =>
        clear HL3
        obtain ⟨k, os, hk, rfl, hno, L⟩ := hrel
        obtain ⟨wo, rfl⟩ : ∃ wo : World, wo = wr := ⟨_, rfl⟩
        by_cases hlt : k < LL.length
        · have hvk : k < vs.length := by have := HVL.out; omega
          rw [tRows_cons vs LL k hvk hlt] at L
          have hro : wo.ownsRow 0 22 1 (.slice va LL.length vp) vs.length vs := L.holds (tRowO (.slice va LL.length vp) vs) (by simp)
          obtain ⟨g, hva⟩ : ∃ g, va = some ⟨g, 0, none⟩ := by
            rcases hro.2 with ⟨h1, _⟩ | ⟨g, cp, cur, h1, _⟩
            · injection h1 with _ h2 _
              omega
            · injection h1 with h2 _ _
              exact ⟨g, h2⟩
          subst hva
          have hcell : wo.cell? ⟨g, k, none⟩ = some vs[k] := by
            rw [← HVL.out] at hro
            rw [World.ownsRow.cellAt hro k (by rw [HVL.out]; omega)]
            simp [hvk]
          have hu : Own wo 0 vs[k] LL[k] := L.holds (tOwn vs[k] LL[k]) (by simp)
          have hy := filt_yes LL p k hlt
          have hn := filt_no LL p k hlt
          have hmem : LL[k] ∈ LL := List.getElem_mem hlt
          have hql := (HCL.out LL[k] hmem).1
          have hkI : (k : Int) < LL.length := by omega
          have hbd := HBD.out
          have hkB : (k : Int) < 46656 := by omega
          have hcl : ((LL.take k).filter p).length ≤ 46656 := by
            refine Nat.le_trans (List.length_filter_le _ _) ?_
            rw [List.length_take]
            have := HBD.out
            omega
          have hol := L.ownM.len
          obtain ⟨ua, up, huv, hur⟩ := hu.reads
          have L2 := L.perm (ts' := tOwn vs[k] LL[k] :: tM _ os ((LL.take k).filter p) :: tBox w.heap.size (.int .i64 n) (.int .i64 n) (.slice a xs.length cap) :: tRowO (.slice (some ⟨g, 0, none⟩) LL.length vp) vs :: tRows (vs.drop (k + 1)) (LL.drop (k + 1))) (by
            exact List.perm_middle (l₁ := [_, _, _]) (l₂ := tRows (vs.drop (k + 1)) (LL.drop (k + 1))))
          have ⟨_, k1, k2, k3, _⟩ := L2.tl.tl.ownBox
          rw [huv] at L2 hcell
          have HC := Lib.hid (fun (W : World) (hr : Reads W ua n (LL[k]'hlt)) (ho : Own W lo (.slice a xs.length cap) xs) => HH.out (LL[k]'hlt) W ua up hmem hr ho)
          have hpp : p LL[k] = (((hitN (bt xs) LL[k] n : Nat) : Int) == k0) := by rw [HP.out]; rfl
          rw [hql] at hcell hur L2
          clear hro hu hmem huv hql
          generalize LL[k] = QQ at *
          generalize (LL.take k).filter p = C at *
          rw [hpp] at hy hn
          generalize hitN (bt xs) QQ n = h at *
          have HOk := Lib.hid (HO.out.kept L2.below)
          have HLE := Lib.hid (show os.length + 1 ≤ 1048576 by omega)
          have HL := Lib.hid L2
          have HUR := Lib.hid hur
          clear L L2 hcl hol hur hpp
          cases hz : (((h : Nat) : Int) == k0)
          · have HN := Lib.hid (hn hz)
            clear hy hn
            go_wp2_with fail
            refine (HC.out _ HUR.out HOk.out).mono ?_
            rintro e w3 ⟨rfl, hb⟩
            have HL4 := Lib.hid (HL.out.kept hb).tl
            clear hb HL hcell k1 k2 k3
            go_wp2_with fail
            go_roundw
            case rel => exact ⟨k + 1, os, hlt, by go_num, hno, by rw [← HN.out]; exact HL4.out⟩
            case measure => simp only [intOf]; exact Nat.sub_lt_sub_left hlt (by omega)
          · have HY := Lib.hid (hy hz)
            clear hy hn
            go_wp2_with fail
            refine (HC.out _ HUR.out HOk.out).mono ?_
            rintro e w3 ⟨rfl, hb⟩
            have HL4 := Lib.hid ((HL.out.kept hb).kept (below_new (.cells #[.slice ua n up] 22)))
            have HCE := Lib.hid (show (w3.alloc (.cells #[.slice ua n up] 22)).cell? ⟨w3.heap.size, 0, none⟩ = some (.slice ua n up) by rw [World.cell?_alloc_at _ _ _ _ rfl]; rfl)
            clear hb HL hcell k1 k2 k3
            go_wp2_with (at_builtin; refine wp_appendM rfl _ _ rfl HL4.out w3.heap.size rfl rfl HCE.out rfl HLE.out ?_)
            intro g1 cap1 w4 L5
            have HL5 := Lib.hid L5
            clear L5 HL4 HCE
            go_wp2_with fail
            go_roundw
            case rel => exact ⟨k + 1, os ++ [.slice ua n up], hlt, by go_num, fun h => by simp at h, by rw [← HY.out]; exact HL5.out⟩
            case measure => simp only [intOf]; exact Nat.sub_lt_sub_left hlt (by omega)
        · obtain rfl : k = LL.length := by omega
          rw [List.take_length, ← HFL.out] at L
          have HL := Lib.hid L
          clear L hlt
          go_wp2_with fail
          go_ret2
          exact ⟨_, os, rfl, HL.out.ownMLo, HL.out.below⟩
end Go.Proofs.Ytdimbnkgomfojaa
end
