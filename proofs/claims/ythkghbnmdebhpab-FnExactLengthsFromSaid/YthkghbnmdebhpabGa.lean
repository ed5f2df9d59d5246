/- All lengths that go on a list, in the specification. No condition but the sizes. -/
import Derived.Test.YthkghbnmdebhpabFa
import Derived.Test.YthkghbnmdebhpabMg
import Derived.Test.YthkghbnmdebhpabAp
import Derived.Test.YthkghbnmdebhpabI
import Derived.Deep.DeepCutAuto
namespace Go.Proofs.Ythkghbnmdebhpab
open Go.RowKit Go.WideShapes

/-- The lists that go on with m, before the m-th number. -/
def goC (n d l m : Nat) (P : List Int) : List (List Int) := ((List.range m).flatMap fun q => if l ≤ q then (goOn n d q).map (fun t => (q : Int) :: t) else []).map (fun Q => P ++ Q)
theorem goC_first (n d l : Nat) (P : List Int) : goC n d l l P = [] := by
  unfold goC
  rw [List.map_eq_nil_iff, List.flatMap_eq_nil_iff]
  intro q hq
  rw [List.mem_range] at hq
  rw [if_neg (by omega)]
theorem goC_succ (n d l m : Nat) (P : List Int) (h : l ≤ m) : goC n d l (m + 1) P = goC n d l m P ++ (goOn n d m).map (fun Q => (P ++ [(m : Int)]) ++ Q) := by
  unfold goC
  rw [List.range_succ, List.flatMap_append, List.map_append]
  congr 1
  simp [h]
theorem goC_last (n d l : Nat) (P : List Int) : goC n d l (n + 1) P = (goOn n (d + 1) l).map (fun Q => P ++ Q) := rfl
theorem goOn_len (n d : Nat) : ∀ l, (goOn n d l).length ≤ (n + 1) ^ d := by
  induction d with
  | zero => intro l; simp [goOn]
  | succ d ih =>
    intro l
    rw [goOn]
    have h : ∀ m, ((List.range m).flatMap fun q => if l ≤ q then (goOn n d q).map (fun t => (q : Int) :: t) else []).length ≤ m * (n + 1) ^ d := by
      intro m
      induction m with
      | zero => simp
      | succ m ihm =>
        rw [List.range_succ, List.flatMap_append, List.length_append, Nat.succ_mul]
        refine Nat.add_le_add ihm ?_
        simp only [List.flatMap_cons, List.flatMap_nil, List.append_nil]
        split
        · rw [List.length_map]; exact ih m
        · simp
    rw [Nat.pow_succ, Nat.mul_comm]
    exact h (n + 1)
theorem goC_len (n d l m : Nat) (P : List Int) (hm : m ≤ n + 1) : (goC n d l m P).length ≤ (n + 1) ^ (d + 1) := by
  have h : ∀ m, (goC n d l m P).length ≤ m * (n + 1) ^ d := by
    intro m
    induction m with
    | zero => simp [goC]
    | succ m ih =>
      by_cases hl : l ≤ m
      · rw [goC_succ n d l m P hl, List.length_append, List.length_map, Nat.succ_mul]
        exact Nat.add_le_add ih (goOn_len n d m)
      · have : goC n d l (m + 1) P = goC n d l m P := by
          unfold goC
          rw [List.range_succ, List.flatMap_append, List.map_append]
          simp [hl]
        rw [this, Nat.succ_mul]
        omega
  have h2 := h m
  have h3 : m * (n + 1) ^ d ≤ (n + 1) * (n + 1) ^ d := Nat.mul_le_mul_right _ hm
  rw [Nat.pow_succ, Nat.mul_comm]
  omega
theorem pow_n1 (n e : Nat) (hn : n ≤ 6) (he : e ≤ 6) : (n + 1) ^ e ≤ 117649 := by
  have h1 : (n + 1) ^ e ≤ 7 ^ e := Nat.pow_le_pow_left (by omega) e
  have h2 : 7 ^ e ≤ 7 ^ 6 := Nat.pow_le_pow_right (by omega) he
  have h3 : 7 ^ 6 = 117649 := rfl
  omega

/-- From where a list goes on. -/
def lastN (P : List Int) (l : Nat) : Prop := if P = [] then l = 0 else P.getD (P.length - 1) 0 = l
theorem lastN_snoc (P : List Int) (m : Nat) : lastN (P ++ [(m : Int)]) m := by
  unfold lastN
  rw [if_neg (by simp)]
  simp [List.getD]

set_option maxRecDepth 100000 in
set_option maxHeartbeats 3200000 in
theorem feAll_any (n : Nat) (hn : n ≤ 6) : ∀ (d l : Nat) (P : List Int), P.length + d = n → lastN P l → l ≤ n → ∀ (w : World) (lop : Nat) (pv : Value), Own w lop pv P →
    Calls Try.prog 81 #[pv, .int .i64 n] w fun e w' => ∃ v vs, e = .returned v ∧ OwnM w' w.heap.size v vs ((goOn n d l).map (fun Q => P ++ Q)) ∧ (vs = [] → v = .slice none 0 0) ∧ Below w.heap.size w w' := by
  intro d
  induction d with
  | zero =>
    intro l P hf hlast hl w lop pv hP
    have HP := Lib.hid hP
    obtain ⟨pa, pcap, rfl, _⟩ := hP.reads
    have hPl : P.length = n := by omega
    have hPle : P.length ≤ 1048576 := by omega
    have HPL := Lib.hid hPle
    rw [show (goOn n 0 l).map (fun Q => P ++ Q) = [P] by simp [goOn]]
    rw [← hPl]
    clear hP hf hlast hl hPl hPle hn
    go_enter Try.func81, Try.ntmps81
    go_wp2_with fail
    refine (l1Own_any P _ HPL.out _ (HP.out).src).mono ?_
    rintro e w1 ⟨v, rfl, hO, hb⟩
    obtain ⟨va, vp, rfl, _⟩ := hO.reads
    have L1 := (Law.start w).own hb hO
    have HS := Lib.hid (OwnM.single L1.ownLo L1.below.size)
    have HB := Lib.hid (below_on L1.below (below_new (.cells #[.slice va P.length vp] 22)))
    clear hb hO L1
    go_wp2_with fail
    go_ret
    exact ⟨_, _, rfl, HS.out, fun h => by simp at h, HB.out⟩
  | succ d ih =>
    intro l P hf hlast hl w lop pv hP
    have HP := Lib.hid hP
    obtain ⟨pa, pcap, rfl, hrP⟩ := hP.reads
    have hPle : P.length ≤ 1048576 := by omega
    have HPL := Lib.hid hPle
    have hne : ¬ (P.length : Int) = n := by omega
    have hne2 : ((P.length : Int) == (n : Int)) = false := by rw [beq_eq_false_iff_ne]; exact hne
    have hih : ∀ (q : Nat) (W : World) (pv : Value), q ≤ n → Own W 0 pv (P ++ [(q : Int)]) → Calls Try.prog 81 #[pv, .int .i64 n] W fun e w' => ∃ v vs, e = .returned v ∧ OwnM w' W.heap.size v vs ((goOn n d q).map (fun Q => (P ++ [(q : Int)]) ++ Q)) ∧ (vs = [] → v = .slice none 0 0) ∧ Below W.heap.size W w' :=
      fun q W pv hq h => ih q (P ++ [(q : Int)]) (by simp; omega) (lastN_snoc P q) hq W 0 pv h
    have HI := Lib.hid hih
    obtain ⟨R, hR⟩ : ∃ R, R = (goOn n (d + 1) l).map (fun Q => P ++ Q) := ⟨_, rfl⟩
    rw [← hR]
    rw [← goC_last] at hR
    have HR := Lib.hid hR
    have HC1 := Lib.hid (goC_first n d l P)
    have HC2 := Lib.hid (fun m (h : l ≤ m) => goC_succ n d l m P h)
    have HLN := Lib.hid (fun m (h : m ≤ n + 1) => (show (goC n d l m P).length ≤ 117649 from Nat.le_trans (goC_len n d l m P h) (pow_n1 n (d + 1) hn (by omega))))
    have HLO := Lib.hid (fun m => (show ((goOn n d m).map (fun Q => (P ++ [(m : Int)]) ++ Q)).length ≤ 117649 by rw [List.length_map]; exact Nat.le_trans (goOn_len n d m) (pow_n1 n d hn (by omega))))
    clear hR hih ih hP
    have HPL2 := Lib.hid (show P.length + 1 ≤ 1048576 by omega)
    by_cases hP0 : P = []
    · have hl0 : l = 0 := by unfold lastN at hlast; rwa [if_pos hP0] at hlast
      have hz : ¬ (0 : Int) < P.length := by rw [hP0]; simp
      clear hlast hrP hP0
      go_enter Try.func81, Try.ntmps81
      go_upto_region 8 with fail
      clear hz hne
      go_wp2_with fail
      go_loopw [6, 7] (fun o ci wr => ∃ (m : Nat) (vs : List Value), l ≤ m ∧ m ≤ n + 1 ∧ ci = .int .i64 m ∧ (vs = [] → o = .slice none 0 0) ∧ Law w [tM o vs (goC n d l m P)] wr) (fun _ ci _ => ((n : Int) + 1 - intOf ci).toNat)
      case atStart => exact ⟨l, [], Nat.le_refl _, by omega, (by rw [hl0]; rfl), fun _ => rfl, by rw [HC1.out]; exact (Law.start w).nilM⟩
      case round =>
        obtain ⟨m, vs, hlm, hm, rfl, hno, L⟩ := hrel
        by_cases hlt : m ≤ n
        · have hmI : (m : Int) ≤ n := by omega
          have h2 := HC2.out m hlm
          have h3 := HLN.out m hm
          have h4 := HLO.out m
          have hI := fun W pv => HI.out m W pv hlt
          generalize goC n d l m P = C at *
          generalize (goOn n d m).map (fun Q => (P ++ [(m : Int)]) ++ Q) = D at *
          have HX := Lib.hid h2
          have HLE := Lib.hid (show C.length + D.length ≤ 1048576 by omega)
          have HI2 := Lib.hid hI
          have HL := Lib.hid L
          clear L h2 h3 h4 hI HC1 HC2 HLN HLO HR
          go_wp2_with fail
          refine (l1Own_any P _ HPL.out _ ((HP.out.kept HL.out.below).src)).mono ?_
          rintro e wA ⟨vA, rfl, OA, hbA⟩
          have HL2 := Lib.hid ((HL.out.own hbA OA).kept (below_new (.cells #[.int .i64 (m : Int)] 3)))
          have HCE := Lib.hid (show (wA.alloc (.cells #[.int .i64 (m : Int)] 3)).cell? ⟨wA.heap.size, 0, none⟩ = some (.int .i64 (m : Int)) by rw [World.cell?_alloc_at _ _ _ _ rfl]; rfl)
          clear OA hbA HL
          go_wp2_with (at_builtin; refine wp_appendI rfl _ _ rfl (m : Int) HL2.out wA.heap.size rfl rfl HCE.out (by have := HPL2.out; omega) (P ++ [(m : Int)]) rfl ?_)
          intro g1 cap1 w3 L3
          have HL3 := Lib.hid L3
          clear L3 HL2 HCE
          go_wp2_with fail
          refine (HI2.out _ _ HL3.out.ownInts).mono ?_
          rintro e wB ⟨vB, vsB, rfl, OB, hnB, hbB⟩
          have HL4 := Lib.hid ((HL3.out.addM hbB OB).swap.tl)
          clear OB hbB HL3
          go_wp2_with (at_builtin; refine wp_joinE rfl _ _ rfl HL4.out hnB hno rfl rfl HLE.out ?_)
          intro v5 vs5 w5 L5 hn5
          have HL5 := Lib.hid L5
          clear L5 HL4
          go_wp2_with fail
          go_roundw
          case rel => exact ⟨m + 1, vs5, by omega, by omega, by go_num, hn5, by rw [HX.out]; exact HL5.out⟩
          case measure => simp [intOf]; omega
        · obtain rfl : m = n + 1 := by omega
          have hmI : ¬ ((n + 1 : Nat) : Int) ≤ n := by omega
          rw [← HR.out] at L
          have HL := Lib.hid L
          clear L hlt HC1 HC2 HLN HLO HR
          go_wp2_with fail
          go_ret
          first | exact ⟨_, vs, rfl, HL.out.ownMLo, hno, HL.out.below⟩ | exact ⟨_, rfl, vs, HL.out.ownMLo, hno, HL.out.below⟩
    · have hPp : 0 < P.length := List.length_pos_iff.2 hP0
      have hlv : P.getD (P.length - 1) 0 = l := by unfold lastN at hlast; rwa [if_neg hP0] at hlast
      obtain ⟨b, off, rfl, hbl, hc⟩ := reads_row hrP hPp
      have hcl := hc (P.length - 1) (by omega)
      rw [hlv] at hcl
      have hz : (0 : Int) < P.length := by omega
      have hk0 : (0 : Int) ≤ (P.length : Int) - 1 := by omega
      have hk2 : ((P.length : Int) - 1).toNat = P.length - 1 := by omega
      have hk3 : (P.length : Int) - 1 < P.length := by omega
      have hk4 : IntKind.i64.wrap ((P.length : Int) - 1) = (P.length : Int) - 1 := IntWalk.i64_in _ (by omega)
      clear hlast hrP hP0 hlv hc hbl
      go_enter Try.func81, Try.ntmps81
      go_upto_region 8 with fail
      clear hne
      go_wp2_with fail
      go_loopw [6, 7] (fun o ci wr => ∃ (m : Nat) (vs : List Value), l ≤ m ∧ m ≤ n + 1 ∧ ci = .int .i64 m ∧ (vs = [] → o = .slice none 0 0) ∧ Law w [tM o vs (goC n d l m P)] wr) (fun _ ci _ => ((n : Int) + 1 - intOf ci).toNat)
      case atStart => exact ⟨l, [], Nat.le_refl _, by omega, rfl, fun _ => rfl, by rw [HC1.out]; exact (Law.start w).nilM⟩
      case round =>
        obtain ⟨m, vs, hlm, hm, rfl, hno, L⟩ := hrel
        by_cases hlt : m ≤ n
        · have hmI : (m : Int) ≤ n := by omega
          have h2 := HC2.out m hlm
          have h3 := HLN.out m hm
          have h4 := HLO.out m
          have hI := fun W pv => HI.out m W pv hlt
          generalize goC n d l m P = C at *
          generalize (goOn n d m).map (fun Q => (P ++ [(m : Int)]) ++ Q) = D at *
          have HX := Lib.hid h2
          have HLE := Lib.hid (show C.length + D.length ≤ 1048576 by omega)
          have HI2 := Lib.hid hI
          have HL := Lib.hid L
          clear L h2 h3 h4 hI HC1 HC2 HLN HLO HR
          go_wp2_with fail
          refine (l1Own_any P _ HPL.out _ ((HP.out.kept HL.out.below).src)).mono ?_
          rintro e wA ⟨vA, rfl, OA, hbA⟩
          have HL2 := Lib.hid ((HL.out.own hbA OA).kept (below_new (.cells #[.int .i64 (m : Int)] 3)))
          have HCE := Lib.hid (show (wA.alloc (.cells #[.int .i64 (m : Int)] 3)).cell? ⟨wA.heap.size, 0, none⟩ = some (.int .i64 (m : Int)) by rw [World.cell?_alloc_at _ _ _ _ rfl]; rfl)
          clear OA hbA HL
          go_wp2_with (at_builtin; refine wp_appendI rfl _ _ rfl (m : Int) HL2.out wA.heap.size rfl rfl HCE.out (by have := HPL2.out; omega) (P ++ [(m : Int)]) rfl ?_)
          intro g1 cap1 w3 L3
          have HL3 := Lib.hid L3
          clear L3 HL2 HCE
          go_wp2_with fail
          refine (HI2.out _ _ HL3.out.ownInts).mono ?_
          rintro e wB ⟨vB, vsB, rfl, OB, hnB, hbB⟩
          have HL4 := Lib.hid ((HL3.out.addM hbB OB).swap.tl)
          clear OB hbB HL3
          go_wp2_with (at_builtin; refine wp_joinE rfl _ _ rfl HL4.out hnB hno rfl rfl HLE.out ?_)
          intro v5 vs5 w5 L5 hn5
          have HL5 := Lib.hid L5
          clear L5 HL4
          go_wp2_with fail
          go_roundw
          case rel => exact ⟨m + 1, vs5, by omega, by omega, by go_num, hn5, by rw [HX.out]; exact HL5.out⟩
          case measure => simp [intOf]; omega
        · obtain rfl : m = n + 1 := by omega
          have hmI : ¬ ((n + 1 : Nat) : Int) ≤ n := by omega
          rw [← HR.out] at L
          have HL := Lib.hid L
          clear L hlt HC1 HC2 HLN HLO HR
          go_wp2_with fail
          go_ret
          first | exact ⟨_, vs, rfl, HL.out.ownMLo, hno, HL.out.below⟩ | exact ⟨_, rfl, vs, HL.out.ownMLo, hno, HL.out.below⟩

end Go.Proofs.Ythkghbnmdebhpab
