import Derived.Test.YtdimbnkgomfojabFold27
import Derived.Test.YtdimbnkgomfojabFold28
import Derived.Test.YtdimbnkgomfojabFold25
import Derived.Test.YtdimbnkgomfojabFold26
import Derived.Test.YtdimbnkgomfojabFold29
import Derived.Test.YtdimbnkgomfojabFold12
import Derived.Test.YtdimbnkgomfojabFold8
import Derived.BigQuiet
import Derived.BigRegion
namespace Go.Proofs.Ytdimbnkgomfojab
open Go.RowKit Go.WideShapes

/-- The columns that stay when some are struck out. -/
def uncC (u0 : Nat) (C : List Int) : Nat := C.foldl (fun a c => a &&& (63 ^^^ 2 ^ c.toNat)) u0
theorem uncC_take (u0 : Nat) (C : List Int) (k : Nat) (h : k < C.length) : uncC u0 (C.take (k + 1)) = uncC u0 (C.take k) &&& (63 ^^^ 2 ^ (C.getD k 0).toNat) := by
  rw [take_snoc C k h]
  unfold uncC
  rw [List.foldl_append]
  rfl
theorem uncC_go (C : List Int) (b : Nat) : ∀ a : Nat, (C.foldl (fun a c => a &&& (63 ^^^ 2 ^ c.toNat)) a).testBit b = (a.testBit b && C.all fun c => (63 ^^^ 2 ^ c.toNat).testBit b) := by
  induction C with
  | nil => intro a; simp
  | cons x C ih => intro a; rw [List.foldl_cons, ih, Nat.testBit_and, List.all_cons, Bool.and_assoc]
theorem uncC_lt (C : List Int) : ∀ a : Nat, a < 64 → uncC a C < 64 := by
  induction C with
  | nil => intro a h; exact h
  | cons x C ih => intro a h; exact ih _ (Nat.lt_of_le_of_lt Nat.and_le_left h)
theorem zero_bits (a : Nat) (h : a < 64) : a = 0 ↔ ∀ b, b < 6 → a.testBit b = false := by
  have key : ∀ a : Fin 64, (a : Nat) = 0 ↔ ∀ b : Fin 6, (a : Nat).testBit (b : Nat) = false := by decide +kernel
  rw [key ⟨a, h⟩]
  exact ⟨fun k b hb => k ⟨b, hb⟩, fun k b => k b b.2⟩

theorem cellsL_bit (xs : List Int) (n m : Nat) (Q : List Int) : Q ∈ cellsL xs n m ↔ ∃ a b : Nat, Q = [(a : Int), (b : Int)] ∧ a < n ∧ b < m ∧ (xs.getD a 0).toNat.testBit b = true := by
  unfold cellsL cellsU
  constructor
  · intro hQ
    rcases List.mem_append.1 hQ with h | h
    · obtain ⟨a, ha, h⟩ := List.mem_flatMap.1 h
      unfold rowC at h
      obtain ⟨b, hb, rfl⟩ := List.mem_map.1 h
      obtain ⟨h1, h2⟩ := List.mem_filter.1 hb
      exact ⟨a, b, rfl, List.mem_range.1 ha, List.mem_range.1 h1, h2⟩
    · simp [rowC] at h
  · rintro ⟨a, b, rfl, ha, hb, hbit⟩
    refine List.mem_append.2 (.inl (List.mem_flatMap.2 ⟨a, List.mem_range.2 ha, ?_⟩))
    unfold rowC
    exact List.mem_map.2 ⟨b, List.mem_filter.2 ⟨List.mem_range.2 hb, hbit⟩, rfl⟩
theorem idx0_mem (n : Nat) (x : Int) : x ∈ idx0 n ↔ ∃ a : Nat, a < n ∧ x = (a : Int) := by
  have hl : (idx0 n).length = n := lstI_len n _
  constructor
  · intro h
    obtain ⟨k, hk, rfl⟩ := List.mem_iff_getElem.1 h
    have h3 := lstI_get n (fun q => (q : Int)) k (by omega)
    rw [List.getD_eq_getElem?_getD, List.getElem?_eq_getElem (by exact hk)] at h3
    exact ⟨k, by omega, h3⟩
  · rintro ⟨a, ha, rfl⟩
    have h3 := lstI_get n (fun q => (q : Int)) a ha
    rw [List.getD_eq_getElem?_getD, List.getElem?_eq_getElem (by rw [lstI_len]; exact ha)] at h3
    exact List.mem_iff_getElem.2 ⟨a, by rw [hl]; exact ha, h3⟩

def covQ (R C Q : List Int) : Bool := hasI R (Q.getD 0 0) || hasI C (Q.getD 1 0)
def coverR (r c : Int) (xs R C : List Int) : R2 := if goodB r c xs && (riseB R 0 (r - 1) && riseB C 0 (c - 1)) then ⟨(cellsL xs r.toNat c.toNat).all (covQ R C), true⟩ else ⟨false, false⟩

theorem pw_two (m : Nat) (hm : m ≤ 6) (v : Int) (h : 0 ≤ v ∧ v < pw m) (b : Nat) (hb : b < 6) (hbit : v.toNat.testBit b = true) : b < m := by
  have key : ∀ m : Fin 7, ∀ v : Fin 64, ((v : Nat) : Int) < pw ((m : Nat) : Int) → ∀ b : Fin 6, (v : Nat).testBit (b : Nat) = true → (b : Nat) < (m : Nat) := by decide +kernel
  have hp : pw (m : Int) ≤ 64 := by
    have key2 : ∀ m : Fin 7, pw ((m : Nat) : Int) ≤ 64 := by decide +kernel
    exact key2 ⟨m, by omega⟩
  obtain ⟨k, rfl⟩ := Int.eq_ofNat_of_zero_le h.1
  rw [Int.toNat_natCast] at hbit
  exact key ⟨m, by omega⟩ ⟨k, by omega⟩ h.2 ⟨b, hb⟩ hbit

theorem cover_zero (n m : Nat) (M : Nat → Int) (xs R C : List Int) (hm : m ≤ 6) (hM : ∀ k, M k = xs.getD k 0) (hMb : ∀ r, rowQ (zM M R) r < 64) (hx : ∀ k, k < n → 0 ≤ xs.getD k 0 ∧ xs.getD k 0 < pw m)
    (hC : ∀ c ∈ C, 0 ≤ c ∧ c < m) : (uncC (orM (zM M R) (idx0 n)) C == 0) = (cellsL xs n m).all (covQ R C) := by
  have hlt := uncC_lt C _ (orM_lt (zM M R) hMb (idx0 n))
  have hb : ∀ b, b < 6 → ((uncC (orM (zM M R) (idx0 n)) C).testBit b = true ↔ (∃ a : Nat, a < n ∧ hasI R (a : Int) = false ∧ (xs.getD a 0).toNat.testBit b = true) ∧ hasI C (b : Int) = false) := by
    intro b hb6
    rw [uncC, uncC_go, Bool.and_eq_true, orM_bit, List.any_eq_true, List.all_eq_true]
    constructor
    · rintro ⟨⟨x, hx1, hx2⟩, h2⟩
      obtain ⟨a, ha, rfl⟩ := (idx0_mem n x).1 hx1
      refine ⟨⟨a, ha, ?_⟩, ?_⟩
      · unfold rowQ zM at hx2
        rw [Int.toNat_natCast] at hx2
        split at hx2
        · simp at hx2
        · rename_i h
          rw [hM] at hx2
          exact ⟨by simpa using h, hx2⟩
      · rw [hasI_no]
        intro hm2
        have := h2 _ hm2
        rw [not_bit _ b hb6, Int.toNat_natCast, Nat.testBit_two_pow] at this
        simp at this
    · rintro ⟨⟨a, ha, h1, h2⟩, h3⟩
      refine ⟨⟨(a : Int), (idx0_mem n _).2 ⟨a, ha, rfl⟩, ?_⟩, fun c hc => ?_⟩
      · unfold rowQ zM
        rw [Int.toNat_natCast, if_neg (by rw [h1]; simp), hM]
        exact h2
      · obtain ⟨c1, c2⟩ := hC c hc
        obtain ⟨d, rfl⟩ := Int.eq_ofNat_of_zero_le c1
        rw [not_bit _ b hb6, Int.toNat_natCast, Nat.testBit_two_pow]
        rw [hasI_no] at h3
        have : d ≠ b := fun e => h3 (by rw [← e]; exact hc)
        simp [this]
  rw [Bool.eq_iff_iff, beq_iff_eq, zero_bits _ hlt, List.all_eq_true]
  constructor
  · intro h Q hQ
    obtain ⟨a, b, rfl, ha, hbm, hbit⟩ := (cellsL_bit xs n m Q).1 hQ
    unfold covQ
    rw [Bool.or_eq_true]
    by_cases h1 : hasI R (a : Int) = true
    · exact .inl h1
    · by_cases h2 : hasI C (b : Int) = true
      · exact .inr h2
      · have := h b (by omega)
        rw [(hb b (by omega)).2 ⟨⟨a, ha, by simpa using h1, hbit⟩, by simpa using h2⟩] at this
        cases this
  · intro h b hb6
    rw [← Bool.not_eq_true, hb b hb6]
    rintro ⟨⟨a, ha, h1, h2⟩, h3⟩
    have hbm := pw_two m hm _ (hx a ha) b hb6 h2
    have := h _ ((cellsL_bit xs n m _).2 ⟨a, b, rfl, ha, hbm, h2⟩)
    unfold covQ at this
    rw [Bool.or_eq_true] at this
    rcases this with t | t
    · rw [show [(a : Int), (b : Int)].getD 0 0 = (a : Int) from rfl, h1] at t; cases t
    · rw [show [(a : Int), (b : Int)].getD 1 0 = (b : Int) from rfl, h3] at t; cases t

set_option maxRecDepth 100000 in
set_option maxHeartbeats 3200000 in
theorem implCov_any (r c : Int) (xs R C : List Int) (w : World) (hx : xs.length ≤ 1048576) (hp : R.length ≤ 1048576) (hq : C.length ≤ 1048576) (lo : Nat) (s : Value) (lo2 : Nat) (s2 : Value) (lo3 : Nat) (s3 : Value) (hO : Own w lo s xs) (hO2 : Own w lo2 s2 R) (hO3 : Own w lo3 s3 C) :
    Calls Try.prog 32 #[.agg #[.int .i64 r, .int .i64 c, s], .agg #[s2, s3]] w fun e w' => AnsOO (coverR r c xs R C) w e w' := by
  have L0 := ((Law.start w).box (.int .i64 r) (.int .i64 c) s 28).has [s2, s3] 45
  simp only [World.size_alloc] at L0
  obtain ⟨a, cap, rfl, hr⟩ := hO.reads
  obtain ⟨a2, p2, rfl, hr2⟩ := hO2.reads
  obtain ⟨a3, p3, rfl, hr3⟩ := hO3.reads
  have hr0 := L0.reads hr
  clear hO hO2 hO3
  cases hg : goodB r c xs
  · rw [show coverR r c xs R C = ⟨false, false⟩ by simp [coverR, hg]]
    go_enter Try.func32, Try.ntmps32
    go_wp2_with fail
    refine (gridOf_no r c a cap xs _ hx hr0 hg).mono ?_
    rintro e w1 ⟨rfl, hb⟩
    have HB := Lib.hid (((L0.kept hb).kept (below_new (.cells #[.int .i64 0, .int .i64 0, .int .i64 0, .int .i64 0, .int .i64 0, .int .i64 0, .int .i64 0, .int .i64 0] 68))).below)
    clear L0 hb hg hr0
    go_wp2_with fail
    go_ret2
    exact ⟨rfl, HB.out⟩
  · obtain ⟨g1, g2, g3, g4⟩ := good_facts hg
    obtain ⟨n, rfl⟩ := Int.eq_ofNat_of_zero_le (show 0 ≤ r by omega)
    obtain ⟨m, rfl⟩ := Int.eq_ofNat_of_zero_le (show 0 ≤ c by omega)
    obtain ⟨M, hM, hc⟩ := gridOf_good n m a cap xs _ hx hr0 hg
    have hgc := good_cell hg
    have hMb : ∀ k, k < 6 → 0 ≤ M k ∧ M k < 64 := fun k _ => by rw [hM]; exact hgc k
    have HC := Lib.hid hc
    have HPR := Lib.hid (fun W (h : Reads W a2 R.length R) => areIndices_any a2 p2 R n W hp h)
    have HPC := Lib.hid (fun W (h : Reads W a3 C.length C) => areIndices_any a3 p3 C m W hq h)
    cases hrr : riseB R 0 ((n : Int) - 1)
    · rw [show coverR n m xs R C = ⟨false, false⟩ by simp [coverR, hrr]]
      rw [hrr] at HPR
      clear hg hr0 hrr hc hM hMb hgc g1 g2 g3 g4
      go_enter Try.func32, Try.ntmps32
      go_wp2_with fail
      refine HC.out.mono ?_
      rintro e w1 ⟨rfl, hb⟩
      have L1 := (L0.kept hb).has (gl n m M) 68
      rw [show w1.alloc (.cells (gl n m M).toArray 68) = w1.alloc (.cells #[.int .i64 n, .int .i64 m, .int .i64 (M 0), .int .i64 (M 1), .int .i64 (M 2), .int .i64 (M 3), .int .i64 (M 4), .int .i64 (M 5)] 68) from rfl] at L1
      clear L0 hb HC
      go_upto_region 2 with fail
      generalize w1.alloc (.cells #[.int .i64 n, .int .i64 m, .int .i64 (M 0), .int .i64 (M 1), .int .i64 (M 2), .int .i64 (M 3), .int .i64 (M 4), .int .i64 (M 5)] 68) = w5 at *
      have HR := Lib.hid (L1.reads hr2)
      have ⟨e0, e1, _⟩ := L1.ownHas.eight
      have ⟨z0, z1, _⟩ := L1.tl.ownHas.two
      have HB := Lib.hid L1.below
      clear L1
      go_wp2_with fail
      refine (HPR.out _ HR.out).mono ?_
      rintro e w2 ⟨rfl, rfl⟩
      go_wp2_with fail
      go_ret2
      exact ⟨rfl, HB.out⟩
    · rw [hrr] at HPR
      cases hcc : riseB C 0 ((m : Int) - 1)
      · rw [show coverR n m xs R C = ⟨false, false⟩ by simp [coverR, hcc]]
        rw [hcc] at HPC
        clear hg hr0 hrr hcc hc hM hMb hgc g1 g2 g3 g4
        go_enter Try.func32, Try.ntmps32
        go_wp2_with fail
        refine HC.out.mono ?_
        rintro e w1 ⟨rfl, hb⟩
        have L1 := (L0.kept hb).has (gl n m M) 68
        rw [show w1.alloc (.cells (gl n m M).toArray 68) = w1.alloc (.cells #[.int .i64 n, .int .i64 m, .int .i64 (M 0), .int .i64 (M 1), .int .i64 (M 2), .int .i64 (M 3), .int .i64 (M 4), .int .i64 (M 5)] 68) from rfl] at L1
        clear L0 hb HC
        go_upto_region 2 with fail
        generalize w1.alloc (.cells #[.int .i64 n, .int .i64 m, .int .i64 (M 0), .int .i64 (M 1), .int .i64 (M 2), .int .i64 (M 3), .int .i64 (M 4), .int .i64 (M 5)] 68) = w5 at *
        have HR := Lib.hid (L1.reads hr2)
        have HR3 := Lib.hid (L1.reads hr3)
        have ⟨e0, e1, _⟩ := L1.ownHas.eight
        have ⟨z0, z1, _⟩ := L1.tl.ownHas.two
        have HB := Lib.hid L1.below
        clear L1
        go_wp2_with fail
        refine (HPR.out _ HR.out).mono ?_
        rintro e w2 ⟨rfl, hw⟩
        subst w2
        go_wp2_with fail
        refine (HPC.out _ HR3.out).mono ?_
        rintro e w2 ⟨rfl, hw⟩
        subst w2
        go_wp2_with fail
        go_ret2
        exact ⟨rfl, HB.out⟩
      · rw [hcc] at HPC
        have hn6 : n ≤ 6 := by omega
        have hm6 : m ≤ 6 := by omega
        have hRin := riseB_mem hrr
        have hCin := riseB_mem hcc
        have hrI : rowsIn R := rowsIn_of hn6 (fun q hq => by have := hRin q hq; omega)
        have hcI : rowsIn C := rowsIn_of hm6 (fun q hq => by have := hCin q hq; omega)
        have hq64 : ∀ r, rowQ (zM M R) r < 64 := fun r => by
          unfold rowQ zM
          have := hgc r.toNat
          rw [← hM] at this
          split <;> omega
        rw [show coverR n m xs R C = ⟨uncC (orM (zM M R) (idx0 n)) C == 0, true⟩ by
          rw [cover_zero n m M xs R C hm6 hM hq64 (fun k hk => g4 k (by omega)) (fun q hq => by have := hCin q hq; omega)]
          simp [coverR, hg, hrr, hcc]]
        have HBS := Lib.hid (fun W h => columnsBeside_any n m M a2 p2 R W hn6 hp h hrI hMb)
        have hult := orM_lt (zM M R) hq64 (idx0 n)
        generalize orM (zM M R) (idx0 n) = u0 at *
        have HCI := Lib.hid hcI
        clear hg hr0 hrr hcc hc hM hMb hgc g1 g2 g3 g4 hRin hCin hrI hcI hq64
        go_enter Try.func32, Try.ntmps32
        go_wp2_with fail
        refine HC.out.mono ?_
        rintro e w1 ⟨rfl, hb⟩
        have L1 := (L0.kept hb).has (gl n m M) 68
        rw [show w1.alloc (.cells (gl n m M).toArray 68) = w1.alloc (.cells #[.int .i64 n, .int .i64 m, .int .i64 (M 0), .int .i64 (M 1), .int .i64 (M 2), .int .i64 (M 3), .int .i64 (M 4), .int .i64 (M 5)] 68) from rfl] at L1
        clear L0 hb HC
        go_upto_region 2 with fail
        generalize w1.alloc (.cells #[.int .i64 n, .int .i64 m, .int .i64 (M 0), .int .i64 (M 1), .int .i64 (M 2), .int .i64 (M 3), .int .i64 (M 4), .int .i64 (M 5)] 68) = w5 at *
        have HR := Lib.hid (L1.reads hr2)
        have HR3 := Lib.hid (L1.reads hr3)
        have ⟨e0, e1, e2, e3, e4, e5, e6, e7, _⟩ := L1.ownHas.eight
        have ⟨z0, z1, _⟩ := L1.tl.ownHas.two
        have HL := Lib.hid L1
        clear L1
        go_wp2_with fail
        refine (HPR.out _ HR.out).mono ?_
        rintro e w2 ⟨rfl, hw⟩
        subst w2
        go_wp2_with fail
        refine (HPC.out _ HR3.out).mono ?_
        rintro e w2 ⟨rfl, hw⟩
        subst w2
        go_wp2_with fail
        refine (HBS.out _ HR.out).mono ?_
        rintro e w6 ⟨rfl, hb⟩
        have HR6 := HR3.out.kept hb
        have z1' := cell_later hb z1
        have HB := Lib.hid (HL.out.kept hb).below
        clear hb e0 e1 e2 e3 e4 e5 e6 e7 z0 z1 HL
        go_wp2_with fail
        go_loop [8, 41] (fun u i => ∃ k : Nat, k ≤ C.length ∧ i = .int .i64 k ∧ u = .int .i64 (uncC u0 (C.take k) : Nat)) (fun _ i => C.length - (intOf i).toNat)
        case atStart => exact ⟨0, Nat.zero_le _, rfl, rfl⟩
        case round =>
          obtain ⟨k, hk, rfl, rfl⟩ := hrel
          by_cases hlt : k < C.length
          · have hst := uncC_take u0 C k hlt
            have hul := uncC_lt (C.take k) u0 hult
            obtain ⟨b, off, rfl, hb, hc⟩ := reads_row HR6 (by omega)
            have hck := hc k hlt
            obtain ⟨q, hq', hq6⟩ := HCI.out k hlt
            rw [hq'] at hck hst
            obtain ⟨pw1, pw2, pw3⟩ := pow_own q hq6
            have hni := not_ints (uncC u0 (C.take k)) (2 ^ q) hul pw3
            rw [Int.toNat_natCast] at hst
            rw [← hst, show ((2 ^ q : Nat) : Int) = (2 : Int) ^ q by simp] at hni
            have HNI := Lib.hid hni
            clear hni
            generalize uncC u0 (C.take k) = u at *
            have hqI : (q : Int) < 64 := by omega
            have hq0 : (0 : Int) ≤ q := by omega
            clear hst hc hb hq'
            go_wp2_with fail
            go_round
            case rel => exact ⟨k + 1, by omega, by go_num, by rw [← HNI.out]⟩
            case measure => simp [intOf]; omega
          · obtain rfl : k = C.length := by omega
            rw [List.take_length]
            go_wp2_with fail
            go_ret2
            have hE : (((uncC u0 C : Nat) : Int) == 0) = (uncC u0 C == 0) := by rw [Bool.eq_iff_iff]; simp
            refine ⟨?_, HB.out⟩
            rw [← hE]
            rfl

set_option maxRecDepth 100000 in
set_option maxHeartbeats 3200000 in
theorem specCov_any (r c : Int) (xs R C : List Int) (w : World) (hx : xs.length ≤ 1048576) (hp : R.length ≤ 1048576) (hq : C.length ≤ 1048576) (lo : Nat) (s : Value) (lo2 : Nat) (s2 : Value) (lo3 : Nat) (s3 : Value) (hO : Own w lo s xs) (hO2 : Own w lo2 s2 R) (hO3 : Own w lo3 s3 C) :
    Calls Try.prog 30 #[.agg #[.int .i64 r, .int .i64 c, s], .agg #[s2, s3]] w fun e w' => AnsOO (coverR r c xs R C) w e w' := by
  have L0 := ((Law.start w).box (.int .i64 r) (.int .i64 c) s 28).has [s2, s3] 45
  simp only [World.size_alloc] at L0
  have HO := Lib.hid hO
  obtain ⟨a, cap, rfl, hr⟩ := hO.reads
  obtain ⟨a2, p2, rfl, hr2⟩ := hO2.reads
  obtain ⟨a3, p3, rfl, hr3⟩ := hO3.reads
  have hr0 := L0.reads hr
  clear hO hO2 hO3
  cases hg : goodB r c xs
  · rw [show coverR r c xs R C = ⟨false, false⟩ by simp [coverR, hg]]
    go_enter Try.func30, Try.ntmps30
    go_wp2_with fail
    refine (at_boolB (boGood_any r c a cap xs _ hx hr0) hg).mono ?_
    rintro e w1 ⟨rfl, hb⟩
    have HB := Lib.hid (L0.kept hb).below
    clear L0 hb hg hr0
    go_wp2_with fail
    go_ret2
    exact ⟨rfl, HB.out⟩
  · obtain ⟨g1, g2, g3, _⟩ := good_facts hg
    obtain ⟨n, rfl⟩ := Int.eq_ofNat_of_zero_le (show 0 ≤ r by omega)
    obtain ⟨m, rfl⟩ := Int.eq_ofNat_of_zero_le (show 0 ≤ c by omega)
    have HC := Lib.hid (at_boolB (boGood_any n m a cap xs _ hx hr0) hg)
    have HPR := Lib.hid (fun W (h : Reads W a2 R.length R) => l1Rising_any a2 p2 R 0 ((n : Int) - 1) W hp h)
    have HPC := Lib.hid (fun W (h : Reads W a3 C.length C) => l1Rising_any a3 p3 C 0 ((m : Int) - 1) W hq h)
    have hnw : IntKind.i64.wrap ((n : Int) - 1) = (n : Int) - 1 := IntWalk.i64_in _ (by omega)
    have hmw : IntKind.i64.wrap ((m : Int) - 1) = (m : Int) - 1 := IntWalk.i64_in _ (by omega)
    cases hrr : riseB R 0 ((n : Int) - 1)
    · rw [show coverR n m xs R C = ⟨false, false⟩ by simp [coverR, hrr]]
      rw [hrr] at HPR
      clear hg hr0 hrr g1 g2 g3
      go_enter Try.func30, Try.ntmps30
      go_wp2_with fail
      refine HC.out.mono ?_
      rintro e w1 ⟨rfl, hb⟩
      have L1 := L0.kept hb
      have HR := Lib.hid (L1.reads hr2)
      have ⟨_, k0, k1, k2, _⟩ := L1.tl.ownBox
      have ⟨z0, z1, _⟩ := L1.ownHas.two
      have HB := Lib.hid L1.below
      clear L0 L1 hb HC
      go_wp2_with fail
      refine (HPR.out _ HR.out).mono ?_
      rintro e w2 ⟨rfl, hw⟩
      subst w2
      go_wp2_with fail
      go_ret2
      exact ⟨rfl, HB.out⟩
    · rw [hrr] at HPR
      cases hcc : riseB C 0 ((m : Int) - 1)
      · rw [show coverR n m xs R C = ⟨false, false⟩ by simp [coverR, hcc]]
        rw [hcc] at HPC
        clear hg hr0 hrr hcc g1 g2 g3
        go_enter Try.func30, Try.ntmps30
        go_wp2_with fail
        refine HC.out.mono ?_
        rintro e w1 ⟨rfl, hb⟩
        have L1 := L0.kept hb
        have HR := Lib.hid (L1.reads hr2)
        have HR3 := Lib.hid (L1.reads hr3)
        have ⟨_, k0, k1, k2, _⟩ := L1.tl.ownBox
        have ⟨z0, z1, _⟩ := L1.ownHas.two
        have HB := Lib.hid L1.below
        clear L0 L1 hb HC
        go_wp2_with fail
        refine (HPR.out _ HR.out).mono ?_
        rintro e w2 ⟨rfl, hw⟩
        subst w2
        go_wp2_with fail
        refine (HPC.out _ HR3.out).mono ?_
        rintro e w2 ⟨rfl, hw⟩
        subst w2
        go_wp2_with fail
        go_ret2
        exact ⟨rfl, HB.out⟩
      · rw [hcc] at HPC
        rw [show coverR n m xs R C = ⟨(cellsL xs n m).all (covQ R C), true⟩ by simp [coverR, hg, hrr, hcc]]
        have HBO := Lib.hid (fun W h => boCells_any n m xs W hx hg lo (.slice a xs.length cap) h)
        have HIN := Lib.hid (fun Q h => (cellsL_bit xs n m Q).1 h)
        have HBD : Hid ((cellsL xs n m).length ≤ 42) := Lib.hid (cellsU_len xs m n 0 (by omega) (by omega) (by omega))
        clear hg hr0 hrr hcc g1 g2 g3
        generalize cellsL xs n m = CL at *
        go_enter Try.func30, Try.ntmps30
        go_wp2_with fail
        refine HC.out.mono ?_
        rintro e w1 ⟨rfl, hb⟩
        have L1 := L0.kept hb
        have HR := Lib.hid (L1.reads hr2)
        have HR3 := Lib.hid (L1.reads hr3)
        have ⟨_, k0, k1, k2, _⟩ := L1.tl.ownBox
        have ⟨z0, z1, _⟩ := L1.ownHas.two
        have HL := Lib.hid L1
        clear L0 L1 hb HC
        go_wp2_with fail
        refine (HPR.out _ HR.out).mono ?_
        rintro e w2 ⟨rfl, hw⟩
        subst w2
        go_wp2_with fail
        refine (HPC.out _ HR3.out).mono ?_
        rintro e w2 ⟨rfl, hw⟩
        subst w2
        go_wp2_with fail
        refine (HBO.out _ (HO.out.kept HL.out.below)).mono ?_
        rintro e w2 ⟨v, vs, rfl, hM, hb⟩
        obtain ⟨va, vp, hv⟩ := hM.formR
        subst hv
        have HL2 := Lib.hid (HL.out.addM hb hM)
        clear hb hM HL k0 k1 k2 z0 z1 HR HR3 HPR HPC HBO
        go_wp2_with fail
        go_loopw [32] (fun i wr => ∃ k : Nat, k ≤ CL.length ∧ i = .int .i64 k ∧ Hid ((CL.take k).all (covQ R C) = true) ∧ Law w [tM (.slice va CL.length vp) vs CL, tHas (w.heap.size + 1) [.slice a2 R.length p2, .slice a3 C.length p3] 45, tBox w.heap.size (.int .i64 n) (.int .i64 m) (.slice a xs.length cap)] wr) (fun i _ => CL.length - (intOf i).toNat)
        case atStart => exact ⟨0, Nat.zero_le _, rfl, Lib.hid rfl, HL2.out⟩
        case round =>
          clear HL2
          obtain ⟨k, hk, rfl, HU, L⟩ := hrel
          by_cases hlt : k < CL.length
          · have hMl : OwnM wr 0 (.slice va CL.length vp) vs CL := L.ownM
            have hvk : k < vs.length := by rw [← hMl.len]; exact hlt
            obtain ⟨g, rfl⟩ : ∃ g, va = some ⟨g, 0, none⟩ := by
              rcases hMl.cases with ⟨h0, _⟩ | ⟨g, cp, h0, _⟩
              · injection h0 with _ h2 _
                omega
              · injection h0 with h2 _ _
                exact ⟨g, h2⟩
            have hce : wr.cell? ⟨g, k, none⟩ = some vs[k] := by
              have h2 := hMl
              rw [hMl.len] at h2
              exact h2.cell k hvk
            obtain ⟨aj, cj, hvv, hrd⟩ := (hMl.row k hvk).reads
            rw [hvv] at hce
            obtain ⟨qa, qb, hQ, hqa, hqb, _⟩ := HIN.out CL[k] (List.getElem_mem hlt)
            have hst : (CL.take (k + 1)).all (covQ R C) = covQ R C CL[k] := by
              rw [List.take_succ_eq_append_getElem hlt, List.all_append, HU.out]
              simp
            have hno : covQ R C CL[k] = false → CL.all (covQ R C) = false := fun h => List.all_eq_false.2 ⟨CL[k], List.getElem_mem hlt, by rw [h]; simp⟩
            rw [hQ] at hce hrd hst hno
            rw [show covQ R C [(qa : Int), (qb : Int)] = (hasI R (qa : Int) || hasI C (qb : Int)) from rfl] at hst hno
            simp only [List.length_cons, List.length_nil, Nat.zero_add, Nat.reduceAdd] at hce hrd
            obtain ⟨-, hrd⟩ := hrd
            obtain ⟨ub, uo, rfl, _, huc⟩ : ∃ b off, aj = some ⟨b, off, none⟩ ∧ b < wr.heap.size ∧ ∀ j, j < 2 → wr.cell? ⟨b, off + j, none⟩ = some (.int .i64 ([(qa : Int), (qb : Int)].getD j 0)) := by
              rcases hrd with h | h
              · omega
              · exact h
            have hu0 : wr.cell? ⟨ub, uo, none⟩ = some (.int .i64 (qa : Int)) := huc 0 (by omega)
            have hu1 : wr.cell? ⟨ub, uo + 1, none⟩ = some (.int .i64 (qb : Int)) := huc 1 (by omega)
            have ⟨z0, z1, _⟩ := L.tl.ownHas.two
            have hkI : (k : Int) < CL.length := by omega
            have hkB : (k : Int) < 42 := by have := HBD.out; omega
            have hra := L.reads hr2
            have hrb := L.reads hr3
            have HLr := Lib.hid L
            have HA := Lib.hid (fun W (h : Reads W a2 R.length R) => l1Has_any a2 R.length p2 R (qa : Int) W hp rfl h)
            have HB2 := Lib.hid (fun W (h : Reads W a3 C.length C) => l1Has_any a3 C.length p3 C (qb : Int) W hq rfl h)
            clear L hMl huc hQ hvv
            cases h1 : hasI R (qa : Int)
            · cases h2 : hasI C (qb : Int)
              · have HN := Lib.hid (hno (by rw [h1, h2]; rfl))
                rw [h1] at HA
                rw [h2] at HB2
                clear hst hno h1 h2
                go_wp2_with fail
                go_quiet ((first | (go_at_call 70; (with_reducible change Calls _ _ #[.slice a2 R.length p2, _] _ _); exact Calls.quiet_of_same (flip (HA.out _ (hra.drewN _)))) | (go_at_call 70; (with_reducible change Calls _ _ #[.slice a3 C.length p3, _] _ _); exact Calls.quiet_of_same (flip (HB2.out _ (hrb.drewN _))))))
                go_wp2_with fail
                go_ret2
                exact ⟨by rw [HN.out]; rfl, (HLr.out.kept (below_drewN (Below.refl _ _) _)).below⟩
              · have HS : Hid ((CL.take (k + 1)).all (covQ R C) = true) := Lib.hid (by rw [hst, h1, h2]; rfl)
                rw [h1] at HA
                rw [h2] at HB2
                clear hst hno h1 h2
                go_wp2_with fail
                go_quiet ((first | (go_at_call 70; (with_reducible change Calls _ _ #[.slice a2 R.length p2, _] _ _); exact Calls.quiet_of_same (flip (HA.out _ (hra.drewN _)))) | (go_at_call 70; (with_reducible change Calls _ _ #[.slice a3 C.length p3, _] _ _); exact Calls.quiet_of_same (flip (HB2.out _ (hrb.drewN _))))))
                go_wp2_with fail
                go_roundw
                case rel => exact ⟨k + 1, hlt, by go_num, HS, HLr.out.kept (below_drewN (Below.refl _ _) _)⟩
                case measure => simp only [intOf]; exact Nat.sub_lt_sub_left hlt (by omega)
            · have HS : Hid ((CL.take (k + 1)).all (covQ R C) = true) := Lib.hid (by rw [hst, h1]; rfl)
              rw [h1] at HA
              clear hst hno h1 HB2
              go_wp2_with fail
              go_quiet ((go_at_call 70; (with_reducible change Calls _ _ #[.slice a2 R.length p2, _] _ _); exact Calls.quiet_of_same (flip (HA.out _ (hra.drewN _)))))
              go_wp2_with fail
              go_roundw
              case rel => exact ⟨k + 1, hlt, by go_num, HS, HLr.out.kept (below_drewN (Below.refl _ _) _)⟩
              case measure => simp only [intOf]; exact Nat.sub_lt_sub_left hlt (by omega)
          · obtain rfl : k = CL.length := by omega
            have HS := Lib.hid HU.out
            have HB := Lib.hid L.below
            clear L
            rw [List.take_length] at HS
            go_wp2_with fail
            go_ret2
            exact ⟨by rw [HS.out]; rfl, HB.out⟩

end Go.Proofs.Ytdimbnkgomfojab
