/- All strictly rising lists of numbers, shorter ones first, in the specification. No condition but the sizes. -/
import Derived.Test.YtdimbnkgomfojabMg
import Derived.Test.YtdimbnkgomfojabAp
import Derived.Test.YtdimbnkgomfojabI
import Derived.Deep.DeepCutAuto
namespace Go.Proofs.Ytdimbnkgomfojab
open Go.RowKit Go.WideShapes

/-- All strictly rising lists of d numbers from l on, less than n. -/
def chz (n : Nat) : Nat → Nat → List (List Int)
  | 0, _ => [[]]
  | d + 1, l => (List.range n).flatMap fun q => if l ≤ q then (chz n d (q + 1)).map (fun t => (q : Int) :: t) else []
def chC (n d l m : Nat) (P : List Int) : List (List Int) := ((List.range m).flatMap fun q => if l ≤ q then (chz n d (q + 1)).map (fun t => (q : Int) :: t) else []).map (fun Q => P ++ Q)
theorem chC_first (n d l : Nat) (P : List Int) : chC n d l l P = [] := by
  unfold chC
  rw [List.map_eq_nil_iff, List.flatMap_eq_nil_iff]
  intro q hq
  rw [List.mem_range] at hq
  rw [if_neg (by omega)]
theorem chC_succ (n d l m : Nat) (P : List Int) (h : l ≤ m) : chC n d l (m + 1) P = chC n d l m P ++ (chz n d (m + 1)).map (fun Q => (P ++ [(m : Int)]) ++ Q) := by
  unfold chC
  rw [List.range_succ, List.flatMap_append, List.map_append]
  congr 1
  simp [h]
theorem chC_last (n d l : Nat) (P : List Int) : chC n d l n P = (chz n (d + 1) l).map (fun Q => P ++ Q) := rfl
theorem chz_len (n d : Nat) : ∀ l, (chz n d l).length ≤ n ^ d := by
  induction d with
  | zero => intro l; simp [chz]
  | succ d ih =>
    intro l
    rw [chz]
    have h : ∀ m, ((List.range m).flatMap fun q => if l ≤ q then (chz n d (q + 1)).map (fun t => (q : Int) :: t) else []).length ≤ m * n ^ d := by
      intro m
      induction m with
      | zero => simp
      | succ m ihm =>
        rw [List.range_succ, List.flatMap_append, List.length_append, Nat.succ_mul]
        refine Nat.add_le_add ihm ?_
        simp only [List.flatMap_cons, List.flatMap_nil, List.append_nil]
        split
        · rw [List.length_map]; exact ih (m + 1)
        · simp
    rw [Nat.pow_succ, Nat.mul_comm]
    exact h n
theorem chC_len (n d l m : Nat) (P : List Int) (hm : m ≤ n) : (chC n d l m P).length ≤ n ^ (d + 1) := by
  have h : ∀ m, (chC n d l m P).length ≤ m * n ^ d := by
    intro m
    induction m with
    | zero => simp [chC]
    | succ m ih =>
      by_cases hl : l ≤ m
      · rw [chC_succ n d l m P hl, List.length_append, List.length_map, Nat.succ_mul]
        exact Nat.add_le_add ih (chz_len n d (m + 1))
      · have : chC n d l (m + 1) P = chC n d l m P := by
          unfold chC
          rw [List.range_succ, List.flatMap_append, List.map_append]
          simp [hl]
        rw [this, Nat.succ_mul]
        omega
  have h2 := h m
  have h3 : m * n ^ d ≤ n * n ^ d := Nat.mul_le_mul_right _ hm
  rw [Nat.pow_succ, Nat.mul_comm]
  omega
theorem pow_n0 (n e : Nat) (hn : n ≤ 6) (he : e ≤ 6) : n ^ e ≤ 117649 := by
  have h1 : n ^ e ≤ 7 ^ e := Nat.pow_le_pow_left (by omega) e
  have h2 : 7 ^ e ≤ 7 ^ 6 := Nat.pow_le_pow_right (by omega) he
  have h3 : 7 ^ 6 = 117649 := rfl
  omega

/-- From where a list goes on. -/
def lastS (P : List Int) (l : Nat) : Prop := if P = [] then l = 0 else P.getD (P.length - 1) 0 + 1 = l
theorem lastS_snoc (P : List Int) (m : Nat) : lastS (P ++ [(m : Int)]) (m + 1) := by
  unfold lastS
  rw [if_neg (by simp)]
  simp [List.getD]

set_option maxRecDepth 100000 in
set_option maxHeartbeats 3200000 in
theorem chosen_any (n z : Nat) (hn : n ≤ 6) (hz6 : z ≤ n) : ∀ (d l : Nat) (P : List Int), P.length + d = z → lastS P l → l ≤ n → ∀ (w : World) (lop : Nat) (pv : Value), Own w lop pv P →
    Calls Try.prog 113 #[.int .i64 n, .int .i64 z, pv] w fun e w' => ∃ v vs, e = .returned v ∧ OwnM w' w.heap.size v vs ((chz n d l).map (fun Q => P ++ Q)) ∧ (vs = [] → v = .slice none 0 0) ∧ Below w.heap.size w w' := by
  intro d
  induction d with
  | zero =>
    intro l P hf hlast hl w lop pv hP
    have HP := Lib.hid hP
    obtain ⟨pa, pcap, rfl, _⟩ := hP.reads
    have hPl : P.length = z := by omega
    have hPle : P.length ≤ 1048576 := by omega
    have HPL := Lib.hid hPle
    rw [show (chz n 0 l).map (fun Q => P ++ Q) = [P] by simp [chz]]
    rw [← hPl]
    clear hP hf hlast hl hPl hPle hn
    go_enter Try.func113, Try.ntmps113
    go_wp2_with fail
    refine (l1Own_any P _ HPL.out _ (HP.out).src).mono ?_
    rintro e w1 ⟨v, rfl, hO, hb⟩
    obtain ⟨va, vp, rfl, _⟩ := hO.reads
    have L1 := (Law.start w).own hb hO
    have HS := Lib.hid (OwnM.single L1.ownLo L1.below.size)
    have HB := Lib.hid (below_on L1.below (below_new (.cells #[.slice va P.length vp] 22)))
    clear hb hO L1
    go_wp2_with fail
    go_ret
    exact ⟨_, _, rfl, HS.out, fun h => by simp at h, HB.out⟩
  | succ d ih =>
    intro l P hf hlast hl w lop pv hP
    have HP := Lib.hid hP
    obtain ⟨pa, pcap, rfl, hrP⟩ := hP.reads
    have hPle : P.length ≤ 1048576 := by omega
    have HPL := Lib.hid hPle
    have hne : ¬ (P.length : Int) = z := by omega
    have hne2 : ((P.length : Int) == (z : Int)) = false := by rw [beq_eq_false_iff_ne]; exact hne
    have hih : ∀ (q : Nat) (W : World) (pv : Value), q < n → Own W 0 pv (P ++ [(q : Int)]) → Calls Try.prog 113 #[.int .i64 n, .int .i64 z, pv] W fun e w' => ∃ v vs, e = .returned v ∧ OwnM w' W.heap.size v vs ((chz n d (q + 1)).map (fun Q => (P ++ [(q : Int)]) ++ Q)) ∧ (vs = [] → v = .slice none 0 0) ∧ Below W.heap.size W w' :=
      fun q W pv hq h => ih (q + 1) (P ++ [(q : Int)]) (by simp; omega) (lastS_snoc P q) hq W 0 pv h
    have HI := Lib.hid hih
    obtain ⟨R, hR⟩ : ∃ R, R = (chz n (d + 1) l).map (fun Q => P ++ Q) := ⟨_, rfl⟩
    rw [← hR]
    rw [← chC_last] at hR
    have HR := Lib.hid hR
    have HC1 := Lib.hid (chC_first n d l P)
    have HC2 := Lib.hid (fun m (h : l ≤ m) => chC_succ n d l m P h)
    have HLN := Lib.hid (fun m (h : m ≤ n) => (show (chC n d l m P).length ≤ 117649 from Nat.le_trans (chC_len n d l m P h) (pow_n0 n (d + 1) hn (by omega))))
    have HLO := Lib.hid (fun m => (show ((chz n d (m + 1)).map (fun Q => (P ++ [(m : Int)]) ++ Q)).length ≤ 117649 by rw [List.length_map]; exact Nat.le_trans (chz_len n d (m + 1)) (pow_n0 n d hn (by omega))))
    clear hR hih ih hP
    have HPL2 := Lib.hid (show P.length + 1 ≤ 1048576 by omega)
    by_cases hP0 : P = []
    · have hl0 : l = 0 := by unfold lastS at hlast; rwa [if_pos hP0] at hlast
      have hz : ¬ (0 : Int) < P.length := by rw [hP0]; simp
      clear hlast hrP hP0
      go_enter Try.func113, Try.ntmps113
      go_upto_region 8 with fail
      clear hz hne
      go_wp2_with fail
      go_loopw [7, 8] (fun ci o wr => ∃ (m : Nat) (vs : List Value), l ≤ m ∧ m ≤ n ∧ ci = .int .i64 m ∧ (vs = [] → o = .slice none 0 0) ∧ Law w [tM o vs (chC n d l m P)] wr) (fun ci _ _ => ((n : Int) - intOf ci).toNat)
      case atStart => exact ⟨l, [], Nat.le_refl _, by omega, (by rw [hl0]; rfl), fun _ => rfl, by rw [HC1.out]; exact (Law.start w).nilM⟩
      case round =>
        obtain ⟨m, vs, hlm, hm, rfl, hno, L⟩ := hrel
        by_cases hlt : m < n
        · have hmI : (m : Int) < n := by omega
          have h2 := HC2.out m hlm
          have h3 := HLN.out m hm
          have h4 := HLO.out m
          have hI := fun W pv => HI.out m W pv hlt
          generalize chC n d l m P = C at *
          generalize (chz n d (m + 1)).map (fun Q => (P ++ [(m : Int)]) ++ Q) = D at *
          have HX := Lib.hid h2
          have HLE := Lib.hid (show C.length + D.length ≤ 1048576 by omega)
          have HI2 := Lib.hid hI
          have HL := Lib.hid L
          clear L h2 h3 h4 hI HC1 HC2 HLN HLO HR
          go_wp2_with fail
          refine (l1Own_any P _ HPL.out _ ((HP.out.kept HL.out.below).src)).mono ?_
          rintro e wA ⟨vA, rfl, OA, hbA⟩
          have HL2 := Lib.hid ((HL.out.own hbA OA).kept (below_new (.cells #[.int .i64 (m : Int)] 3)))
          have HCE := Lib.hid (show (wA.alloc (.cells #[.int .i64 (m : Int)] 3)).cell? ⟨wA.heap.size, 0, none⟩ = some (.int .i64 (m : Int)) by rw [World.cell?_alloc_at _ _ _ _ rfl]; rfl)
          clear OA hbA HL
          go_wp2_with (at_builtin; refine wp_appendI rfl _ _ rfl (m : Int) HL2.out wA.heap.size rfl rfl HCE.out (by have := HPL2.out; omega) (P ++ [(m : Int)]) rfl ?_)
          intro g1 cap1 w3 L3
          have HL3 := Lib.hid L3
          clear L3 HL2 HCE
          go_wp2_with fail
          refine (HI2.out _ _ HL3.out.ownInts).mono ?_
          rintro e wB ⟨vB, vsB, rfl, OB, hnB, hbB⟩
          have HL4 := Lib.hid ((HL3.out.addM hbB OB).swap.tl)
          clear OB hbB HL3
          go_wp2_with (at_builtin; refine wp_joinE rfl _ _ rfl HL4.out hnB hno rfl rfl HLE.out ?_)
          intro v5 vs5 w5 L5 hn5
          have HL5 := Lib.hid L5
          clear L5 HL4
          go_wp2_with fail
          go_roundw
          case rel => exact ⟨m + 1, vs5, by omega, by omega, by go_num, hn5, by rw [HX.out]; exact HL5.out⟩
          case measure => simp [intOf]; omega
        · obtain rfl : m = n := by omega
          have hmI : ¬ (m : Int) < m := by omega
          rw [← HR.out] at L
          have HL := Lib.hid L
          clear L hlt HC1 HC2 HLN HLO HR
          go_wp2_with fail
          go_ret
          first | exact ⟨_, vs, rfl, HL.out.ownMLo, hno, HL.out.below⟩ | exact ⟨_, rfl, vs, HL.out.ownMLo, hno, HL.out.below⟩
    · have hPp : 0 < P.length := List.length_pos_iff.2 hP0
      have hlv : P.getD (P.length - 1) 0 = (l : Int) - 1 := by unfold lastS at hlast; rw [if_neg hP0] at hlast; omega
      have hl1 : IntKind.i64.wrap ((l : Int) - 1 + 1) = l := by rw [IntWalk.i64_in _ (by omega)]; omega
      have hl2 : wrap64 ((l : Int) - 1 + 1) = l := by rw [IntWalk.wrap64_in _ (by omega)]; omega
      obtain ⟨b, off, rfl, hbl, hc⟩ := reads_row hrP hPp
      have hcl := hc (P.length - 1) (by omega)
      rw [hlv] at hcl
      have hz : (0 : Int) < P.length := by omega
      have hk0 : (0 : Int) ≤ (P.length : Int) - 1 := by omega
      have hk2 : ((P.length : Int) - 1).toNat = P.length - 1 := by omega
      have hk3 : (P.length : Int) - 1 < P.length := by omega
      have hk4 : IntKind.i64.wrap ((P.length : Int) - 1) = (P.length : Int) - 1 := IntWalk.i64_in _ (by omega)
      clear hlast hrP hP0 hlv hc hbl
      go_enter Try.func113, Try.ntmps113
      go_upto_region 8 with fail
      clear hne
      go_wp2_with fail
      go_loopw [7, 8] (fun ci o wr => ∃ (m : Nat) (vs : List Value), l ≤ m ∧ m ≤ n ∧ ci = .int .i64 m ∧ (vs = [] → o = .slice none 0 0) ∧ Law w [tM o vs (chC n d l m P)] wr) (fun ci _ _ => ((n : Int) - intOf ci).toNat)
      case atStart => exact ⟨l, [], Nat.le_refl _, by omega, rfl, fun _ => rfl, by rw [HC1.out]; exact (Law.start w).nilM⟩
      case round =>
        obtain ⟨m, vs, hlm, hm, rfl, hno, L⟩ := hrel
        by_cases hlt : m < n
        · have hmI : (m : Int) < n := by omega
          have h2 := HC2.out m hlm
          have h3 := HLN.out m hm
          have h4 := HLO.out m
          have hI := fun W pv => HI.out m W pv hlt
          generalize chC n d l m P = C at *
          generalize (chz n d (m + 1)).map (fun Q => (P ++ [(m : Int)]) ++ Q) = D at *
          have HX := Lib.hid h2
          have HLE := Lib.hid (show C.length + D.length ≤ 1048576 by omega)
          have HI2 := Lib.hid hI
          have HL := Lib.hid L
          clear L h2 h3 h4 hI HC1 HC2 HLN HLO HR
          go_wp2_with fail
          refine (l1Own_any P _ HPL.out _ ((HP.out.kept HL.out.below).src)).mono ?_
          rintro e wA ⟨vA, rfl, OA, hbA⟩
          have HL2 := Lib.hid ((HL.out.own hbA OA).kept (below_new (.cells #[.int .i64 (m : Int)] 3)))
          have HCE := Lib.hid (show (wA.alloc (.cells #[.int .i64 (m : Int)] 3)).cell? ⟨wA.heap.size, 0, none⟩ = some (.int .i64 (m : Int)) by rw [World.cell?_alloc_at _ _ _ _ rfl]; rfl)
          clear OA hbA HL
          go_wp2_with (at_builtin; refine wp_appendI rfl _ _ rfl (m : Int) HL2.out wA.heap.size rfl rfl HCE.out (by have := HPL2.out; omega) (P ++ [(m : Int)]) rfl ?_)
          intro g1 cap1 w3 L3
          have HL3 := Lib.hid L3
          clear L3 HL2 HCE
          go_wp2_with fail
          refine (HI2.out _ _ HL3.out.ownInts).mono ?_
          rintro e wB ⟨vB, vsB, rfl, OB, hnB, hbB⟩
          have HL4 := Lib.hid ((HL3.out.addM hbB OB).swap.tl)
          clear OB hbB HL3
          go_wp2_with (at_builtin; refine wp_joinE rfl _ _ rfl HL4.out hnB hno rfl rfl HLE.out ?_)
          intro v5 vs5 w5 L5 hn5
          have HL5 := Lib.hid L5
          clear L5 HL4
          go_wp2_with fail
          go_roundw
          case rel => exact ⟨m + 1, vs5, by omega, by omega, by go_num, hn5, by rw [HX.out]; exact HL5.out⟩
          case measure => simp [intOf]; omega
        · obtain rfl : m = n := by omega
          have hmI : ¬ (m : Int) < m := by omega
          rw [← HR.out] at L
          have HL := Lib.hid L
          clear L hlt HC1 HC2 HLN HLO HR
          go_wp2_with fail
          go_ret
          first | exact ⟨_, vs, rfl, HL.out.ownMLo, hno, HL.out.below⟩ | exact ⟨_, rfl, vs, HL.out.ownMLo, hno, HL.out.below⟩


/-- All of them, shorter ones first. -/
def setsU (n k : Nat) : List (List Int) := (List.range k).flatMap fun z => chz n z 0
def sets (n : Nat) : List (List Int) := setsU n (n + 1)
theorem setsU_succ (n k : Nat) : setsU n (k + 1) = setsU n k ++ chz n k 0 := by
  unfold setsU
  rw [List.range_succ, List.flatMap_append]
  simp
theorem setsU_len (n k : Nat) (hn : n ≤ 6) (hk : k ≤ 7) : (setsU n k).length ≤ 64 := by
  have key : ∀ n : Fin 7, ∀ k : Fin 8, (setsU (n : Nat) (k : Nat)).length ≤ 64 := by decide +kernel
  exact key ⟨n, by omega⟩ ⟨k, by omega⟩

set_option maxRecDepth 100000 in
set_option maxHeartbeats 3200000 in
theorem lcSets_any (n : Nat) (hn : n ≤ 6) (w : World) :
    Calls Try.prog 80 #[.int .i64 n] w fun e w' => ∃ v vs, e = .returned v ∧ OwnM w' w.heap.size v vs (sets n) ∧ (vs = [] → v = .slice none 0 0) ∧ Below w.heap.size w w' := by
  have HC := Lib.hid (fun (z : Nat) (W : World) (hz : z ≤ n) => chosen_any n z hn hz z 0 [] (by simp) rfl (Nat.zero_le _) W 0 (.slice none 0 0) (Own.nil _ _))
  have HS := Lib.hid (setsU_succ n)
  have HLN := Lib.hid (fun k (h : k ≤ 7) => setsU_len n k hn h)
  go_enter Try.func80, Try.ntmps80
  go_wp2_with fail
  go_loopw [3, 4] (fun o ci wr => ∃ (k : Nat) (vs : List Value), k ≤ n + 1 ∧ ci = .int .i64 k ∧ (vs = [] → o = .slice none 0 0) ∧ Law w [tM o vs (setsU n k)] wr) (fun _ ci _ => ((n : Int) + 1 - intOf ci).toNat)
  case atStart => exact ⟨0, [], Nat.zero_le _, rfl, fun _ => rfl, (Law.start w).nilM⟩
  case round =>
    obtain ⟨k, vs, hk, rfl, hno, L⟩ := hrel
    by_cases hlt : k ≤ n
    · have hkI : (k : Int) ≤ n := by omega
      have h2 := HS.out k
      have h3 := HLN.out (k + 1) (by omega)
      have hI := fun W => HC.out k W hlt
      simp only [List.nil_append, List.map_id'] at hI
      generalize setsU n k = C at *
      generalize chz n k 0 = D at *
      rw [h2, List.length_append] at h3
      have HX := Lib.hid h2
      have HLE := Lib.hid (show C.length + D.length ≤ 1048576 by omega)
      have HI2 := Lib.hid hI
      have HL := Lib.hid L
      clear L h2 h3 hI HC HS HLN
      go_wp2_with fail
      refine (HI2.out _).mono ?_
      rintro e wB ⟨vB, vsB, rfl, OB, hnB, hbB⟩
      have HL4 := Lib.hid (HL.out.addM hbB OB)
      clear OB hbB HL
      go_wp2_with (at_builtin; refine wp_joinE rfl _ _ rfl HL4.out hnB hno rfl rfl HLE.out ?_)
      intro v5 vs5 w5 L5 hn5
      have HL5 := Lib.hid L5
      clear L5 HL4
      go_wp2_with fail
      go_roundw
      case rel => exact ⟨k + 1, vs5, by omega, by go_num, hn5, by rw [HX.out]; exact HL5.out⟩
      case measure => simp [intOf]; omega
    · obtain rfl : k = n + 1 := by omega
      have hkI : ¬ ((n + 1 : Nat) : Int) ≤ n := by omega
      have HL := Lib.hid L
      clear L hlt HC HS HLN
      go_wp2_with fail
      go_ret
      first | exact ⟨_, vs, rfl, HL.out.ownMLo, hno, HL.out.below⟩ | exact ⟨_, rfl, vs, HL.out.ownMLo, hno, HL.out.below⟩

end Go.Proofs.Ytdimbnkgomfojab
