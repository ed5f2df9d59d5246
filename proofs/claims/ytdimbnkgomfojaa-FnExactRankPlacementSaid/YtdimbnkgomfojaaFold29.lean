import Derived.Test.YtdimbnkgomfojaaFold21
import Derived.Test.YtdimbnkgomfojaaFold28
namespace Go.Proofs.Ytdimbnkgomfojaa
open Go.RowKit Go.WideShapes

theorem findIdx_at (L : List (List Int)) (P : List Int) (k : Nat) (hk : k < L.length) (h : ∀ q, q < k → L.getD q [] ≠ P) (he : L.getD k [] = P) : L.findIdx (fun Q => Q == P) = k := by
  rw [List.findIdx_eq hk]
  refine ⟨by simpa [List.getD, hk] using he, fun j hj => ?_⟩
  have := h j hj
  simp [List.getD, show j < L.length by omega] at this
  simpa using this
theorem findIdx_none (L : List (List Int)) (P : List Int) (h : ∀ q, q < L.length → L.getD q [] ≠ P) : L.findIdx (fun Q => Q == P) = L.length := by
  rw [List.findIdx_eq_length]
  intro Q hQ
  obtain ⟨i, hi, rfl⟩ := List.getElem_of_mem hQ
  have := h i hi
  simp [List.getD, hi] at this
  simpa using this

set_option maxRecDepth 100000 in
set_option maxHeartbeats 6400000 in
theorem specRank_any (r c : Int) (xs P : List Int) (w : World) (hx : xs.length ≤ 1048576) (hp : P.length ≤ 1048576) (lo : Nat) (s : Value) (lo2 : Nat) (s2 : Value) (hO : Own w lo s xs) (hO2 : Own w lo2 s2 P) :
    Calls Try.prog 32 #[.agg #[.int .i64 r, .int .i64 c, s], s2] w fun e w' => AnsIO (rankB r c xs P) w e w' := by
  have L0 := (Law.start w).box (.int .i64 r) (.int .i64 c) s 29
  have HO := Lib.hid hO
  obtain ⟨a, cap, rfl, hr⟩ := hO.reads
  have hcap : ∃ a2 p2, s2 = .slice a2 P.length p2 ∧ Reads w a2 P.length P ∧ P.length ≤ p2 := by
    obtain ⟨a2, p2, e, h⟩ := hO2.reads
    refine ⟨a2, p2, e, h, ?_⟩
    rcases hO2.cases with ⟨e1, e2⟩ | ⟨g, cp, e1, _, _, h3, _⟩
    · rw [e2]; simp
    · rw [e] at e1
      injection e1 with _ _ e3
      omega
  obtain ⟨a2, p2, rfl, hr2, hp2⟩ := hcap
  have hr0 := L0.reads hr
  clear hO hO2
  have HR2 := Lib.hid hr2
  cases hg : goodB r c xs
  · rw [show rankB r c xs P = ⟨0, false⟩ by simp [rankB, okPl, hg]]
    have HC := Lib.hid (at_boolB (boGood_any r c a cap xs _ hx hr0) hg)
    have HL := Lib.hid L0
    clear L0 hg hr0 hr2
    go_enter Try.func32, Try.ntmps32
    go_wp2_with fail
    refine HC.out.mono ?_
    rintro e w1 ⟨rfl, hb⟩
    have HB := Lib.hid (HL.out.kept hb).below
    clear HL hb
    go_wp2_with fail
    go_ret2
    exact ⟨rfl, HB.out⟩
  · obtain ⟨g1, g2, g3, _⟩ := good_facts hg
    obtain ⟨n, rfl⟩ := Int.eq_ofNat_of_zero_le (show 0 ≤ r by omega)
    obtain ⟨m, rfl⟩ := Int.eq_ofNat_of_zero_le (show 0 ≤ c by omega)
    have HC := Lib.hid (at_boolB (boGood_any n m a cap xs _ hx hr0) hg)
    have hgood := fun (W : World) (hO : Own W lo (.slice a xs.length cap) xs) (hr : Reads W a2 P.length P) => roGood_any n m xs P a2 p2 W hx hp hp2 hg lo _ hO hr
    cases hq : placeP n m xs P
    · rw [show rankB n m xs P = ⟨0, false⟩ by simp [rankB, okPl, hg, hq]]
      rw [hq] at hgood
      have HG := Lib.hid hgood
      have HL := Lib.hid L0
      clear L0 hg hr0 hr2 hq hgood g1 g2 g3
      go_enter Try.func32, Try.ntmps32
      go_wp2_with fail
      refine HC.out.mono ?_
      rintro e w1 ⟨rfl, hb⟩
      have L1 := HL.out.kept hb
      have hOw := HO.out.kept L1.below
      have hRw := L1.reads HR2.out
      have ⟨_, k0, k1, k2, _⟩ := L1.ownBox
      have HL1 := Lib.hid L1
      clear HL hb L1
      go_wp2_with fail
      refine (HG.out _ hOw hRw).mono ?_
      rintro e w2 ⟨rfl, hb⟩
      have HB := Lib.hid (HL1.out.kept hb).below
      clear HL1 hb hOw hRw k0 k1 k2
      go_wp2_with fail
      go_ret2
      exact ⟨rfl, HB.out⟩
    · rw [hq] at hgood
      have HG := Lib.hid hgood
      obtain ⟨hpn, _⟩ := placeP_facts hq
      have hcl : rcnt P ≤ 6 := by have := rcnt_le P; omega
      have hn6 : n ≤ 6 := by omega
      have hm6 : m ≤ 6 := by omega
      have hwr : wR m (bt xs) n 0 0 (rcnt P) ≤ 117649 := Nat.le_trans (wR_le m (by omega) (bt xs) n 0 0 (rcnt P)) (pow7 n hn6)
      have hall := allL_all m (bt xs) n (rcnt P) 1000000 (by omega)
      have hrow : ∀ Q ∈ pl m (bt xs) n 0 0 (rcnt P), Q.length = n := fun Q hQ => pl_rows m (bt xs) n 0 0 (rcnt P) Q hQ
      have hroll := fun (W : World) (hO : Own W lo (.slice a xs.length cap) xs) => roAll_any n m xs hx hn6 hm6 (by omega) (good_cell hg) n 0 0 (rcnt P) 1000000 [] (by omega) rfl (fun c _ => by simp [hasI_nil]) hcl (by omega) (by omega) W lo _ 0 (.slice none 0 0) hO (Own.nil _ _)
      rw [hall] at hroll
      simp only [show ((1000000 : Nat) : Int) = 1000000 from rfl] at hroll
      have hrk : rankB n m xs P = ⟨(((pl m (bt xs) n 0 0 (rcnt P)).findIdx (fun Q => Q == P) : Nat) : Int), true⟩ := by
        rw [← findIdx_same (pl m (bt xs) n 0 0 (rcnt P)) P n hn6 hpn hrow]
        simp [rankB, okPl, hg, hq]
      rw [hrk]
      have hlen := pl_len m (bt xs) n 0 0 (rcnt P)
      rw [← hlen] at hwr
      have HRW := Lib.hid (show ∀ Q ∈ pl m (bt xs) n 0 0 (rcnt P), Q.length ≤ 1048576 from fun Q hQ => by rw [hrow Q hQ]; omega)
      generalize pl m (bt xs) n 0 0 (rcnt P) = LL at *
      have HRA := Lib.hid hroll
      obtain ⟨z, hz⟩ : ∃ z, z = LL.findIdx (fun Q => Q == P) := ⟨_, rfl⟩
      rw [← hz]
      have HZ := Lib.hid hz
      have HN := Lib.hid (show ∀ W, Reads W a2 P.length P → Calls Try.prog 66 #[.slice a2 P.length p2] W fun e w' => e = .returned (.int .i64 (rcnt P)) ∧ W = w' from fun W h => roCount_any a2 p2 P W hp h)
      have HP := Lib.hid hp
      have HL := Lib.hid L0
      generalize rcnt P = kk at *
      clear L0 hg hr0 hr2 hq hgood g1 g2 g3 hpn hall hrow hroll hrk hlen hz hp hp2
      go_enter Try.func32, Try.ntmps32
      go_wp2_with fail
      refine HC.out.mono ?_
      rintro e w1 ⟨rfl, hb⟩
      have L1 := HL.out.kept hb
      have hOw := HO.out.kept L1.below
      have hRw := L1.reads HR2.out
      have ⟨_, k0, k1, k2, _⟩ := L1.ownBox
      have HL1 := Lib.hid L1
      clear HL hb L1
      go_wp2_with fail
      refine (HG.out _ hOw hRw).mono ?_
      rintro e w2 ⟨rfl, hb⟩
      have L2 := HL1.out.kept hb
      clear HL1 hb hOw hRw k0 k1 k2 HC HG
      obtain ⟨_, e0, e1, e2, _⟩ := L2.drew.ownBox
      have HL := Lib.hid L2.drew
      clear L2
      go_upto_region 4 with fail
      go_region_held3 (fun w' => w'.cell? ⟨w.heap.size, 0, none⟩ = some (.int .i64 n) ∧ w'.cell? ⟨w.heap.size, 1, none⟩ = some (.int .i64 m) ∧ w'.cell? ⟨w.heap.size, 2, none⟩ = some (.slice a xs.length cap)) (first | (repeat' apply And.intro) <;> first | with_reducible assumption | assumption) ((first
        | (go_at_call 66; ((with_reducible refine (HN.out _ (HL.out.reads HR2.out)).mono ?_); rintro e wA ⟨rfl, rfl⟩))
        | (go_at_call 57; ((with_reducible refine (HRA.out _ (HO.out.kept HL.out.below)).mono ?_); rintro e wB ⟨vB, vsB, rfl, OB, hnB, hbB⟩; obtain ⟨ga, gp, rfl⟩ := OB.formR; replace HL := Lib.hid (HL.out.addM hbB OB); clear OB hbB; obtain ⟨_, z0, z1, z2, _⟩ := HL.out.boxOf (n := w.heap.size) (x := .int .i64 n) (y := .int .i64 m) (z := .slice a xs.length cap) (by simp)))
        | fail))
      clear z0 z1 z2
      go_wp2_with fail
      go_loopw [6, 23] (fun rk i wr => ∃ k : Nat, k ≤ LL.length ∧ rk = .int .i64 k ∧ i = .int .i64 k ∧ Hid (∀ q, q < k → LL.getD q [] ≠ P) ∧ Law w [tM (.slice ga LL.length gp) vsB LL, tBox w.heap.size (.int .i64 n) (.int .i64 m) (.slice a xs.length cap)] wr) (fun _ i _ => LL.length - (intOf i).toNat)
      case atStart => exact ⟨0, Nat.zero_le _, rfl, rfl, (fun q h => by omega : ∀ q, q < 0 → LL.getD q [] ≠ P), HL.out⟩
      case round =>
        clear HL
        obtain ⟨k, hk, rfl, rfl, HE, L⟩ := hrel
        by_cases hlt : k < LL.length
        · have hM := L.ownM
          have hvl : k < vsB.length := by rw [← hM.len]; exact hlt
          rcases hM.cases with ⟨_, h⟩ | ⟨g, cap3, hv, _⟩
          · subst h
            simp at hvl
          · injection hv with ha hb1 hb2
            subst ha
            clear hb1 hb2
            rw [hM.len] at hM
            have hcell := hM.cell k hvl
            have hrow := hM.row k hvl
            obtain ⟨qa, qp, hqv, hqr⟩ := hrow.reads
            rw [hqv] at hcell
            have hQ : LL.getD k [] = LL[k] := by simp [List.getD, hlt]
            have hyes := fun (h : LL[k] = P) => findIdx_at LL P k hlt HE.out (hQ.trans h)
            have hno : LL[k] ≠ P → ∀ q, q < k + 1 → LL.getD q [] ≠ P := fun h q hq => by
              by_cases e : q = k
              · subst e; rw [hQ]; exact h
              · exact HE.out q (by omega)
            have hql := HRW.out LL[k] (List.getElem_mem hlt)
            have hkI : (k : Int) < LL.length := by omega
            have hsm := fun W (h1 : Reads W qa LL[k].length LL[k]) (h2 : Reads W a2 P.length P) => l1Same_any qa a2 LL[k].length P.length qp p2 LL[k] P W hql rfl rfl h1 h2
            generalize LL[k] = QQ at *
            have hr2 := L.reads HR2.out
            by_cases he : QQ = P
            · rw [decide_eq_true he] at hsm
              have HS := Lib.hid hsm
              have HY := Lib.hid (HZ.out.trans (hyes he))
              have HL := Lib.hid L
              clear hsm hyes hno he L hM hrow HE hQ
              go_wp2_with fail
              refine (HS.out _ hqr hr2).mono ?_
              rintro e w4 ⟨rfl, hd⟩
              have HB := Lib.hid (HL.out.kept hd.below).below
              clear hd HL hcell hqr hr2
              go_wp2_with fail
              go_ret2
              rw [HY.out]
              exact ⟨rfl, HB.out⟩
            · rw [decide_eq_false he] at hsm
              have HS := Lib.hid hsm
              have HN2 := Lib.hid (hno he)
              have HL := Lib.hid L
              clear hsm hyes hno he L hM hrow HE hQ
              go_wp2_with fail
              refine (HS.out _ hqr hr2).mono ?_
              rintro e w4 ⟨rfl, hd⟩
              have HL2 := Lib.hid (HL.out.kept hd.below)
              clear hd HL hcell hqr hr2
              go_wp2_with fail
              go_roundw
              case rel => exact ⟨k + 1, by omega, by go_num, by go_num, HN2.out, HL2.out⟩
              case measure => simp [intOf]; omega
        · obtain rfl : k = LL.length := by omega
          have HY := Lib.hid (HZ.out.trans (findIdx_none LL P HE.out))
          have HB := Lib.hid L.below
          clear L HE hlt
          go_wp2_with fail
          go_ret2
          rw [HY.out]
          exact ⟨rfl, HB.out⟩

end Go.Proofs.Ytdimbnkgomfojaa
