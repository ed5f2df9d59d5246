/- All queens that go on a list, in the specification. No condition but the sizes. -/
import Derived.Test.YtmhlpaenfknofaaUg
import Derived.Test.YtmhlpaenfknofaaMg
import Derived.Test.YtmhlpaenfknofaaAp
namespace Go.Proofs.Ytmhlpaenfknofaa
open Go.RowKit Go.WideShapes

/-- The specification's way to ask whether a column can stand behind a list. -/
def frS (q : List Int) (x : Int) (k : Nat) : Bool := !hasL q x && (List.range k).all (fun r => absQ (x - q.getD r 0) != (q.length : Int) - r)
theorem frS_zero (q : List Int) (x : Int) : frS q x 0 = !hasL q x := by simp [frS]
theorem frS_succ (q : List Int) (x : Int) (k : Nat) : frS q x (k + 1) = (frS q x k && (absQ (x - q.getD k 0) != (q.length : Int) - k)) := by
  unfold frS
  rw [List.range_succ, List.all_append, ← Bool.and_assoc]
  simp
theorem frS_full (q : List Int) (x : Int) : frS q x q.length = okW bQ q x := by
  rw [Bool.eq_iff_iff]
  unfold frS okW hasL
  simp only [Bool.and_eq_true, Bool.not_eq_true', decide_eq_false_iff_not, List.all_eq_true, List.mem_range, bne_iff_ne]
  constructor
  · rintro ⟨h1, h2⟩ r hr
    have h3 := h2 r hr
    have h4 : q.getD r 0 ≠ x := fun e => h1 (e ▸ getD_mem' hr)
    rw [Bool.or_eq_false_iff]
    refine ⟨by rw [beq_eq_false_iff_ne]; exact h4, ?_⟩
    unfold bQ
    unfold absQ at h3
    rw [Bool.or_eq_false_iff, beq_eq_false_iff_ne, beq_eq_false_iff_ne]
    split at h3 <;> constructor <;> omega
  · intro h
    constructor
    · intro hm
      obtain ⟨i, hi, e⟩ := List.mem_iff_getElem.1 hm
      have h2 := h i hi
      rw [Bool.or_eq_false_iff, beq_eq_false_iff_ne] at h2
      exact h2.1 (by simp [List.getD, hi, e])
    · intro r hr e
      have h2 := h r hr
      rw [Bool.or_eq_false_iff, beq_eq_false_iff_ne] at h2
      unfold bQ at h2
      rw [Bool.or_eq_false_iff, beq_eq_false_iff_ne, beq_eq_false_iff_ne] at h2
      unfold absQ at e
      split at e <;> omega
set_option maxRecDepth 100000 in
theorem qnU_len (n k : Nat) (m : Nat) (q : List Int) (hn : n ≤ 8) (hk : k ≤ 8) (hm : m ≤ n) (h1 : ∀ x ∈ q, 0 ≤ x ∧ x < (n : Int)) (h2 : q.Nodup) : (qnU bQ n k m q).length ≤ m * 40320 := by
  induction m with
  | zero => rw [show qnU bQ n k 0 q = [] from rfl, List.length_nil]; exact Nat.zero_le _
  | succ m ih =>
    rw [qnU_succ, List.length_append, Nat.succ_mul]
    have h3 := ih (by omega)
    by_cases ho : okW bQ q m = true
    · rw [if_pos ho]
      obtain ⟨g1, g2⟩ := snoc_good (c := m) h1 h2 (by omega) (okW_new ho)
      have := quA_big bQ n k _ hn hk g1 g2
      omega
    · rw [if_neg ho, List.length_nil]
      omega
theorem quA_step (n k : Nat) (q : List Int) : quA bQ n (k + 1) q = qnU bQ n k n q := rfl
set_option maxRecDepth 100000 in
set_option maxHeartbeats 12800000 in
theorem quAll_any (n : Nat) (hn : n ≤ 8) : ∀ (d : Nat) (P : List Int), P.length + d = n → (∀ x ∈ P, 0 ≤ x ∧ x < (n : Int)) → P.Nodup → ∀ (w : World) (lop : Nat) (pv : Value), Own w lop pv P →
    Calls Try.prog 54 #[.int .i64 n, pv] w fun e w' => ∃ v vs, e = .returned v ∧ OwnM w' w.heap.size v vs (quA bQ n d P) ∧ (vs = [] → v = .slice none 0 0) ∧ Below w.heap.size w w' := by
  intro d
  induction d with
  | zero =>
    intro P hP hb1 hb2 w lop pv hO
    obtain ⟨pa, pcap, rfl, hrP⟩ := hO.reads
    have hPn : P.length = n := by omega
    have hPle : P.length ≤ 1048576 := by omega
    have HC := Lib.hid (l1Own_any P w hPle _ hO.src)
    have HPN := Lib.hid hPn
    rw [hPn] at HC ⊢
    have heq : ((n : Int) == n) = true := by simp
    clear hO hrP hP hPn hPle hb1 hb2
    go_enter Try.func54, Try.ntmps54
    go_wp2_with fail
    refine HC.out.mono ?_
    rintro e w1 ⟨v, rfl, hO, hb⟩
    obtain ⟨va, vp, rfl, _⟩ := hO.reads
    have HS := Lib.hid (OwnM.single hO hb.size)
    have HB := Lib.hid (below_on hb (below_new (.cells #[.slice va P.length vp] 22)))
    clear hb hO HC
    go_wp2_with fail
    go_ret
    exact ⟨_, _, rfl, HS.out, fun h => by simp at h, HB.out⟩
  | succ d ih =>
    intro P hP hb1 hb2 w lop pv hO
    obtain ⟨pa, pcap, rfl, hrP⟩ := hO.reads
    have HO := Lib.hid hO
    have HRP := Lib.hid hrP
    have hPle : P.length ≤ 1048576 := by omega
    have HPle := Lib.hid hPle
    have hne : ((P.length : Int) == n) = false := by rw [beq_eq_false_iff_ne]; omega
    have HIH := Lib.hid (fun (x : Nat) (hx : x < n) (ho : okW bQ P x = true) (W : World) (pv : Value) (h : Own W 0 pv (P ++ [(x : Int)])) => ih (P ++ [(x : Int)]) (by simp; omega) (snoc_good hb1 hb2 hx (okW_new ho)).1 (snoc_good hb1 hb2 hx (okW_new ho)).2 W 0 pv h)
    have hd5 : d ≤ 8 := by omega
    have HPL := Lib.hid hP
    have HBC := Lib.hid (fun x hx => qnU_len n d x P hn hd5 hx hb1 hb2)
    have HBP := Lib.hid (fun x (hx : x < n) (ho : okW bQ P x = true) => quA_big bQ n d (P ++ [(x : Int)]) hn hd5 (snoc_good hb1 hb2 hx (okW_new ho)).1 (snoc_good hb1 hb2 hx (okW_new ho)).2)
    have HPB := Lib.hid (fun k (hk : k < P.length) => hb1 _ (getD_mem' hk))
    have hn6 : (n : Int) ≤ 8 := by omega
    have HPN := Lib.hid (show P.length < n by omega)
    have HL := Lib.hid (Law.start w).nilM
    rw [quA_step]
    clear hO hrP ih hPle hP hb1 hb2 hd5
    obtain ⟨c, hc⟩ : ∃ c, c = P.length := ⟨_, rfl⟩
    have HCC := Lib.hid hc
    rw [← hc] at hne HRP HPle HPL HPB HPN ⊢
    clear hc
    go_enter Try.func54, Try.ntmps54
    go_wp2_with fail
    clear hne
    go_loopw [5, 6, 7] (fun o i _ wr => ∃ (x : Nat) (vs : List Value), x ≤ n ∧ i = .int .i64 x ∧ (vs = [] → o = .slice none 0 0) ∧ Law w [tM o vs (qnU bQ n d x P)] wr) (fun _ i _ _ => n - (intOf i).toNat)
    case atStart => exact ⟨0, [], Nat.zero_le _, rfl, fun _ => rfl, HL.out⟩
    case round =>
      clear HL
      obtain ⟨x, vs, hx, rfl, hno, L⟩ := hrel
      obtain ⟨wo, rfl⟩ : ∃ wo : World, wo = wr := ⟨_, rfl⟩
      obtain ⟨oa, ocap, rfl⟩ := L.ownM.formR
      by_cases hlt : x < n
      · have HH := Lib.hid (l1HasO_any pa pcap P (x : Int) wo (by rw [← HCC.out]; exact HPle.out) (by rw [← HCC.out]; exact L.reads HRP.out))
        rw [← HCC.out] at HH
        have hnx := qnU_succ bQ n d x P
        have hlx := HBC.out x (by omega)
        have HC := Lib.hid (fun W (hb : Below w.heap.size w W) => l1Own_any P W (by rw [← HCC.out]; exact HPle.out) _ (HO.out.kept hb).src)
        rw [← HCC.out] at HC
        obtain ⟨C, hC⟩ : ∃ C, C = qnU bQ n d x P := ⟨_, rfl⟩
        rw [← hC] at hnx L hlx hno ⊢
        have HX := Lib.hid hnx
        have HLX := Lib.hid (show C.length ≤ 322560 by
          have : x * 40320 ≤ 8 * 40320 := Nat.mul_le_mul (by omega) (Nat.le_refl _)
          omega)
        have HNO := Lib.hid hno
        have HL := Lib.hid L
        have HFS := Lib.hid (frS_succ P x)
        have HFF := Lib.hid (frS_full P x)
        rw [← HCC.out] at HFS HFF
        have hf0 := frS_zero P x
        have HI := Lib.hid (HIH.out x hlt)
        have HBQ := Lib.hid (HBP.out x hlt)
        clear L hnx hlx hC hno
        go_wp2_with fail
        refine HH.out.mono ?_
        rintro e w2 ⟨rfl, hw⟩
        subst hw
        rw [show hasL P (x : Int) = !frS P x 0 by rw [hf0, Bool.not_not]]
        generalize hb0 : frS P x 0 = b0 at *
        have HB0 := Lib.hid hb0
        clear hb0 hf0 HH
        go_wp2_with fail
        go_loopw [7, 28] (fun v i wr => ∃ (r : Nat) (b : Bool), r ≤ c ∧ i = .int .i64 r ∧ v = .bool b ∧ Hid (frS P x r = b) ∧ wr = wo) (fun _ i _ => c - (intOf i).toNat)
        case atStart => exact ⟨0, b0, Nat.zero_le _, rfl, by simp, HB0, rfl⟩
        case round =>
          clear HB0
          obtain ⟨r, b, hr, rfl, rfl, HFB, rfl⟩ := hrel
          by_cases hrc : r < c
          · obtain ⟨pb, off, rfl, _, hcx⟩ := reads_row (HL.out.reads HRP.out) (by omega)
            have hcr := hcx r hrc
            have hc8 : c ≤ 8 := by have := HPN.out; omega
            have hyb := HPB.out r hrc
            have HFR := Lib.hid (HFS.out r)
            clear hcx
            generalize P.getD r 0 = y at *
            have hw1 : wrap64 ((x : Int) - y) = (x : Int) - y := IntWalk.wrap64_in _ (by omega)
            have hw2 : wrap64 ((c : Int) - r) = (c : Int) - r := IntWalk.wrap64_in _ (by have := HPN.out; omega)
            have HA := Lib.hid (l1AbsQ_any ((x : Int) - y) wr (by omega))
            generalize absQ ((x : Int) - y) = z at *
            cases b
            · have HN := Lib.hid (show frS P x (r + 1) = false by rw [HFR.out, HFB.out]; rfl)
              clear HFR HFB HA
              go_wp2_with fail
              clear hcr
              go_roundw
              case rel => exact ⟨r + 1, false, by omega, by go_num, rfl, HN, by simp⟩
              case measure => simp [intOf]; omega
            · cases k1 : (z != (c : Int) - r)
              · have HN := Lib.hid (show frS P x (r + 1) = false by rw [HFR.out, HFB.out, k1]; rfl)
                clear HFR HFB
                go_wp2_with (go_at_call 70; ((with_reducible refine HA.out.mono ?_); rintro e w' ⟨rfl, rfl⟩))
                clear hcr
                go_roundw
                case rel => exact ⟨r + 1, false, by omega, by go_num, rfl, HN, by simp⟩
                case measure => simp [intOf]; omega
              · have HN := Lib.hid (show frS P x (r + 1) = true by rw [HFR.out, HFB.out, k1]; rfl)
                clear HFR HFB
                go_wp2_with (go_at_call 70; ((with_reducible refine HA.out.mono ?_); rintro e w' ⟨rfl, rfl⟩))
                clear hcr
                go_roundw
                case rel => exact ⟨r + 1, true, by omega, by go_num, rfl, HN, by simp⟩
                case measure => simp [intOf]; omega
          · obtain rfl : r = c := by omega
            have hok := HFF.out
            have hc8 : r ≤ 8 := by have := HPN.out; omega
            rw [HFB.out] at hok
            cases b
            · have HXN := Lib.hid (show qnU bQ n d (x + 1) P = C by rw [HX.out, if_neg (by rw [← hok]; decide), List.append_nil])
              clear hok
              go_wp2_with fail
              go_roundw
              case rel => exact ⟨x + 1, vs, by omega, by go_num, HNO.out, by rw [HXN.out]; exact HL.out⟩
              case measure => simp [intOf]; omega
            · have HXN := Lib.hid (show qnU bQ n d (x + 1) P = C ++ quA bQ n d (P ++ [(x : Int)]) by rw [HX.out, if_pos hok.symm])
              have HIR := Lib.hid (HI.out hok.symm)
              have HLN := Lib.hid (show C.length + (quA bQ n d (P ++ [(x : Int)])).length ≤ 1048576 by have := HBQ.out hok.symm; have := HLX.out; omega)
              generalize quA bQ n d (P ++ [(x : Int)]) = D at *
              clear hok HI HBQ HX
              go_wp2_with fail
              refine (HC.out _ HL.out.below).mono ?_
              rintro e w2 ⟨v1, rfl, hO1, hb1⟩
              have L1 := (HL.out.own hb1 hO1).kept (below_new (.cells #[.int .i64 (x : Int)] 3))
              have HX2 := Lib.hid (show (w2.alloc (.cells #[.int .i64 (x : Int)] 3)).cell? ⟨w2.heap.size, 0, none⟩ = some (.int .i64 (x : Int)) by rw [World.cell?_alloc_at _ _ _ _ rfl]; rfl)
              have HL1 := Lib.hid L1
              clear L1 hO1 hb1 HL
              go_wp2_with (at_builtin; go_loud (refine wp_appendI rfl _ _ rfl (x : Int) HL1.out w2.heap.size rfl rfl HX2.out (by have := HPle.out; rw [← HCC.out]; have := HPN.out; omega) (P ++ [(x : Int)]) rfl ?_))
              intro g1 cap1 w3 L3
              have HL3 := Lib.hid L3
              clear L3 HL1 HX2
              go_wp2_with fail
              refine (HIR.out _ _ HL3.out.ownInts).mono ?_
              rintro e w4 ⟨vB, vsB, rfl, OB, hnB, hbB⟩
              have HL4 := Lib.hid ((HL3.out.addM hbB OB).swap.tl)
              clear OB hbB HL3
              go_wp2_with (at_builtin; refine wp_joinE rfl _ _ rfl HL4.out hnB HNO.out rfl rfl HLN.out ?_)
              intro v5 vs5 w5 L5 hn5
              have HL5 := Lib.hid L5
              clear L5 HL4
              go_wp2_with fail
              go_roundw
              case rel => exact ⟨x + 1, vs5, by omega, by go_num, hn5, by rw [HXN.out]; exact HL5.out⟩
              case measure => simp [intOf]; omega
      · obtain rfl : x = n := by omega
        have HL := Lib.hid L
        clear L
        go_wp2_with fail
        go_ret
        exact ⟨_, vs, rfl, HL.out.ownMLo, hno, HL.out.below⟩

end Go.Proofs.Ytmhlpaenfknofaa
