/- Placements as plain values, in the program. No condition but the sizes. -/
import Derived.Test.YtddmommamcgelabPb
import Derived.Laws.Rows
import Derived.Test.YtddmommamcgelabT2
namespace Go.Proofs.Ytddmommamcgelab
open Go.RowKit Go.WideShapes

theorem Has.row6 {w : World} {b : Nat} {f : Nat → Int} {t : TypeId} (h : Has w b (pl6 f) t) : w.heap[b]? = some (.cells #[.int .i64 (f 0), .int .i64 (f 1), .int .i64 (f 2), .int .i64 (f 3), .int .i64 (f 4), .int .i64 (f 5)] t (0, 0)) := h

set_option maxRecDepth 100000 in
set_option maxHeartbeats 1600000 in
theorem noPlaces_any (w : World) : Calls Try.prog 120 #[] w fun e w' => e = .returned (pv6 (fun _ => -1)) ∧ Below w.heap.size w w' := by
  have L0 := ((Law.start w).has (pl6 (fun _ => 0)) 81).has (pl6 (fun j => if j < 0 then -1 else 0)) 81
  simp only [World.size_alloc] at L0
  have HL := Lib.hid L0
  clear L0
  go_enter Try.func120, Try.ntmps120
  go_wp2_with fail
  go_loopw [3] (fun i wr => ∃ k : Nat, k ≤ 6 ∧ i = .int .i64 k ∧ Law w [tHas (w.heap.size + 1) (pl6 (fun j => if j < k then -1 else 0)) 81, tHas w.heap.size (pl6 (fun _ => 0)) 81] wr) (fun i _ => 6 - (intOf i).toNat)
  case atStart => exact ⟨0, by omega, rfl, HL.out⟩
  case round =>
    clear HL
    obtain ⟨k, hk, rfl, L⟩ := hrel
    by_cases hlt : k < 6
    · have hce := L.ownHas.cell k
      rw [pl6_get _ k hlt] at hce
      have hfe := L.ownHas.free k
      have hS := Law.setHas (ts := []) L k (.int .i64 (-1))
      rw [pl6_set _ (fun j => if j < k + 1 then -1 else 0) k hlt (-1) (by simp) (fun j _ hj => by
        by_cases h : j < k
        · rw [if_pos h, if_pos (by omega)]
        · rw [if_neg h, if_neg (by omega)])] at hS
      have HS := Lib.hid hS
      have hk0 : (0 : Int) ≤ k := by omega
      have hk1 : (k : Int) < 6 := by omega
      clear hS L
      go_wp2_with fail
      go_roundw
      case rel => exact ⟨k + 1, by omega, by go_num, HS.out⟩
      case measure => simp [intOf]; omega
    · obtain rfl : k = 6 := by omega
      rw [show pl6 (fun j => if j < 6 then (-1 : Int) else 0) = pl6 (fun _ => -1) from rfl] at L
      obtain ⟨e0, e1, e2, e3, e4, e5, _⟩ := L.ownHas.six
      obtain ⟨f0, f1, f2, f3, f4, f5, ff⟩ := L.tl.ownHas.six
      have HB := Lib.hid L.below
      have hrow := L.ownHas.row6
      clear L
      go_wp2_with (refine wpList_load_row rfl 81 _ rfl _ rfl _ _ _ _ hrow Try.underlying81 rfl (by kernel_rfl) ?_)
      refine bodyPost_ret (v := pv6 (fun _ => -1)) (by simp [results, Try.results120, go_sem, f0, f1, f2, f3, f4, f5]) rfl ⟨rfl, ?_⟩
      have h2 := HB.out
      repeat (refine Below.setCell ?_ (by simp <;> omega) _)
      exact h2

/-- What a call answers that asks for places. -/
def AnsP (n m : Nat) (xs P : List Int) (w : World) (e : Ending) (w' : World) : Prop :=
  ∃ F : Nat → Int, e = .returned (.tuple #[pv6 F, .bool (placeP n m xs P)]) ∧ (placeP n m xs P = true → F = plF P n) ∧ Below w.heap.size w w'

theorem ansP_no {n m : Nat} {xs P : List Int} {w w' : World} (F : Nat → Int) (h : placeP n m xs P = false) (hb : Below w.heap.size w w') : AnsP n m xs P w (.returned (.tuple #[pv6 F, .bool false])) w' :=
  ⟨F, by rw [h], (fun e => by rw [h] at e; cases e), hb⟩
theorem ansP_yes {n m : Nat} {xs P : List Int} {w w' : World} (h : placeP n m xs P = true) (hn : P.length = n) (hb : Below w.heap.size w w') : AnsP n m xs P w (.returned (.tuple #[pv6 (plF P P.length), .bool true])) w' :=
  ⟨plF P P.length, by rw [h], fun _ => by rw [hn], hb⟩

set_option maxRecDepth 100000 in
set_option maxHeartbeats 6400000 in
theorem placesOf_any (n m : Nat) (xs P : List Int) (M : Nat → Int) (hM : ∀ k, M k = xs.getD k 0) (a2 : Option Addr) (p2 : Nat) (w : World) (hp : P.length ≤ 1048576) (hn6 : n ≤ 6) (hm6 : m ≤ 6) (hgc : ∀ k, 0 ≤ xs.getD k 0 ∧ xs.getD k 0 < 64) (hr : Reads w a2 P.length P) :
    Calls Try.prog 116 #[gv n m M, .slice a2 P.length p2] w fun e w' => AnsP n m xs P w e w' := by
  have L0 := ((Law.start w).has (gl n m M) 80).has (pl6 (fun _ => 0)) 81
  simp only [World.size_alloc] at L0
  have HR := Lib.hid hr
  have HGC := Lib.hid hgc
  have HMM := Lib.hid hM
  have HL := Lib.hid L0
  clear hr hgc hM L0
  go_enter Try.func116, Try.ntmps116
  go_wp2_with fail
  refine (noPlaces_any _).mono ?_
  rintro e w1 ⟨rfl, hb⟩
  have L1 := (HL.out.kept hb).has (pl6 (fun _ => -1)) 81
  rw [show w1.alloc (.cells (pl6 (fun _ => -1)).toArray 81) = w1.alloc (.cells #[.int .i64 (-1), .int .i64 (-1), .int .i64 (-1), .int .i64 (-1), .int .i64 (-1), .int .i64 (-1)] 81) from rfl] at L1
  rw [show pl6 (fun _ => -1) = pl6 (plF P 0) from rfl] at L1
  have HL1 := Lib.hid L1
  clear L1 HL hb
  go_upto_region 2 with fail
  generalize w1.alloc (.cells #[.int .i64 (-1), .int .i64 (-1), .int .i64 (-1), .int .i64 (-1), .int .i64 (-1), .int .i64 (-1)] 81) = w5 at *
  obtain ⟨bp, hbp⟩ : ∃ bp, bp = w1.heap.size := ⟨_, rfl⟩
  rw [← hbp] at HL1 ⊢
  clear hbp
  obtain ⟨g0, g1, _⟩ := HL1.out.tl.tl.ownHas.eight
  by_cases hn : P.length = n
  case neg =>
    have hne : ((P.length : Int) != n) = true := by simp; omega
    have HRES : Hid (placeP n m xs P = false) := Lib.hid (by simp [placeP, hn])
    have hk0 : (0 : Nat) = 0 := rfl
    obtain ⟨k, hk⟩ : ∃ k : Nat, k = 0 := ⟨_, rfl⟩
    rw [← hk] at HL1
    have HLX := HL1
    clear hn hk hk0 HL1
    have hrow := HLX.out.ownHas.row6
    obtain ⟨e0, e1, e2, e3, e4, e5, _⟩ := HLX.out.ownHas.six
    obtain ⟨f0, f1, f2, f3, f4, f5, ff⟩ := HLX.out.tl.ownHas.six
    have HB := Lib.hid HLX.out.below
    clear HLX
    go_wp2_with (refine wpList_load_row rfl 81 _ rfl _ rfl _ _ _ _ hrow Try.underlying81 rfl (by kernel_rfl) ?_)
    refine bodyPost_ret (v := .tuple #[pv6 (plF P k), .bool false]) (by simp [results, Try.results116, go_sem, f0, f1, f2, f3, f4, f5]) rfl (ansP_no _ HRES.out ?_)
    have h2 := HB.out
    repeat (refine Below.setCell ?_ (by simp <;> omega) _)
    exact h2
  case pos =>
    have hne : ((P.length : Int) != n) = false := by simp [hn]
    have HD : Hid (placeP n m xs P = goodUp xs m P P.length) := Lib.hid (by simp [placeP, hn])
    have HN := Lib.hid hn
    clear hn
    go_wp2_with fail
    go_loopw [7, 19] (fun t i wr => ∃ k : Nat, k ≤ P.length ∧ i = .int .i64 k ∧ t = .int .i64 (tkn P k : Nat) ∧ Hid (goodUp xs m P k = true) ∧ Law w [tHas bp (pl6 (plF P k)) 81, tHas (w.heap.size + 1) (pl6 (fun _ => 0)) 81, tHas w.heap.size (gl n m M) 80] wr) (fun _ i _ => P.length - (intOf i).toNat)
    case atStart => exact ⟨0, Nat.zero_le _, rfl, rfl, Lib.hid rfl, HL1.out⟩
    case round =>
      clear HL1 g0 g1
      obtain ⟨k, hk, rfl, rfl, HU, L⟩ := hrel
      have HL := Lib.hid L
      by_cases hlt : k < P.length
      · have hr2 := L.reads HR.out
        obtain ⟨g0, g1, g2, g3, g4, g5, g6, g7, _⟩ := L.tl.tl.ownHas.eight
        obtain ⟨b, off, rfl, hb, hc⟩ := reads_row hr2 (by omega)
        have hck := hc k hlt
        have hkn : k < n := by have := HN.out; omega
        have hup : goodUp xs m P (k + 1) = goodAt xs m P k := by rw [goodUp, HU.out, Bool.true_and]
        have hno := goodUp_no xs m P k P.length
        have hat : goodAt xs m P k = ((P.getD k 0 == -1) || (inB 0 (P.getD k 0) ((m : Int) - 1) && ((xs.getD k 0).toNat.testBit (P.getD k 0).toNat && !hasI (P.take k) (P.getD k 0)))) := rfl
        have htk : tkn P (k + 1) = if P.getD k 0 = -1 then tkn P k else tkn P k ||| 2 ^ (P.getD k 0).toNat := rfl
        have htl := tkn_lt xs m hm6 P k HU.out
        have htm := tkn_mem xs m hm6 P k hk HU.out
        have hpk : plF P (k + 1) k = P.getD k 0 := by unfold plF; rw [if_pos (by omega)]
        have hpo : ∀ j, j < 6 → j ≠ k → plF P (k + 1) j = plF P k j := fun j _ hj => by
          unfold plF
          by_cases h : j < k
          · rw [if_pos h, if_pos (by omega)]
          · rw [if_neg h, if_neg (by omega)]
        have hpz : plF P k k = -1 := by unfold plF; rw [if_neg (by omega)]
        clear hc hb L hr2
        generalize P.getD k 0 = x at *
        by_cases h1 : x = -1
        · have HNX : Hid (goodUp xs m P (k + 1) = true) := Lib.hid (by rw [hup, hat, h1]; rfl)
          have h1' : (x == -1) = true := by simp [h1]
          rw [if_pos h1] at htk
          have hpe : pl6 (plF P (k + 1)) = pl6 (plF P k) := pl6_congr _ _ (fun j hj => by
            by_cases e : j = k
            · subst e; rw [hpk, hpz, h1]
            · exact hpo j hj e)
          have HTK := Lib.hid htk
          have HPE := Lib.hid hpe
          clear hup hno hat h1 htk hpe hpk hpo hpz htm
          go_wp2_with fail
          go_roundw
          case rel => exact ⟨k + 1, by omega, by go_num, by rw [HTK.out], HNX, by rw [HPE.out]; exact HL.out⟩
          case measure => simp [intOf]; omega
        · have h1' : (x == -1) = false := by rw [beq_eq_false_iff_ne]; exact h1
          rw [h1', Bool.false_or] at hat
          rw [if_neg h1] at htk
          by_cases h2 : 0 ≤ x ∧ x ≤ (m : Int) - 1
          · obtain ⟨c, rfl⟩ := Int.eq_ofNat_of_zero_le h2.1
            have hins : insB n m k c = true := insB_iff.2 ⟨by omega, by omega, by omega, by omega⟩
            have HI := Lib.hid (fun W => inside_any n m k c M W)
            rw [hins] at HI
            have hmk := HGC.out k
            rw [← HMM.out k] at hmk
            have HA := Lib.hid (fun W => at_any n m M k c W (by omega) (by omega) hmk)
            rw [inB_yes h2.1 h2.2, Bool.true_and, show ((c : Int)).toNat = c by simp, ← HMM.out k] at hat
            rw [show ((c : Int)).toNat = c by simp] at htk
            have hbt := bit_at (tkn P k : Nat) c (by omega) (by omega)
            rw [show ((tkn P k : Nat) : Int).toNat = tkn P k by simp, htm c (by omega)] at hbt
            have hor := or_nat (tkn P k) c htl (by omega)
            have hc0 : (0 : Int) ≤ c := by omega
            have hc64 : (c : Int) < 64 := by omega
            have HC6 := Lib.hid (show c < 6 by omega)
            clear h1 h2 htm hmk hins
            cases hb1 : (M k).toNat.testBit c
            · have HRES : Hid (placeP n m xs P = false) := Lib.hid (by rw [HD.out, hno (by rw [hat, hb1, Bool.false_and]) hlt])
              rw [hb1] at HA
              clear hup hno hat htk hpk hpo hpz hbt hor hb1
              go_wp2_with fail
              refine (HI.out _).mono ?_
              rintro e w2 ⟨rfl, hb2⟩
              have L2 := HL.out.kept hb2
              clear g0 g1 g2 g3 g4 g5 g6 g7 HL hb2
              obtain ⟨g0, g1, g2, g3, g4, g5, g6, g7, _⟩ := L2.tl.tl.ownHas.eight
              have HL2 := Lib.hid L2
              clear L2
              go_wp2_with fail
              refine (HA.out _).mono ?_
              rintro e w3 ⟨rfl, hb3⟩
              have HLX := Lib.hid (HL2.out.kept hb3)
              clear HL2 hb3 g0 g1 g2 g3 g4 g5 g6 g7
              have hrow := HLX.out.ownHas.row6
              obtain ⟨e0, e1, e2, e3, e4, e5, _⟩ := HLX.out.ownHas.six
              obtain ⟨f0, f1, f2, f3, f4, f5, ff⟩ := HLX.out.tl.ownHas.six
              have HB := Lib.hid HLX.out.below
              clear HLX
              go_wp2_with (refine wpList_load_row rfl 81 _ rfl _ rfl _ _ _ _ hrow Try.underlying81 rfl (by kernel_rfl) ?_)
              refine bodyPost_ret (v := .tuple #[pv6 (plF P k), .bool false]) (by simp [results, Try.results116, go_sem, f0, f1, f2, f3, f4, f5]) rfl (ansP_no _ HRES.out ?_)
              have h2 := HB.out
              repeat (refine Below.setCell ?_ (by simp <;> omega) _)
              exact h2
            · rw [hb1, Bool.true_and] at hat
              rw [hb1] at HA
              cases hb4 : hasI (P.take k) (c : Int)
              · rw [hb4] at hat hbt
                have HNX : Hid (goodUp xs m P (k + 1) = true) := Lib.hid (by rw [hup, hat]; rfl)
                have HTK := Lib.hid htk
                have HPK := Lib.hid (And.intro hpk hpo)
                clear hup hno hat htk hpk hpo hb1 hb4
                go_wp2_with fail
                refine (HI.out _).mono ?_
                rintro e w2 ⟨rfl, hb2⟩
                have L2 := HL.out.kept hb2
                clear g0 g1 g2 g3 g4 g5 g6 g7 HL hb2
                obtain ⟨g0, g1, g2, g3, g4, g5, g6, g7, _⟩ := L2.tl.tl.ownHas.eight
                have HL2 := Lib.hid L2
                clear L2
                go_wp2_with fail
                refine (HA.out _).mono ?_
                rintro e w3 ⟨rfl, hb3⟩
                have L3 := HL2.out.kept hb3
                have hce := L3.ownHas.cell k
                rw [pl6_get _ k (by omega)] at hce
                have hfe := L3.ownHas.free k
                have hS := Law.setHas (ts := []) L3 k (.int .i64 (c : Int))
                rw [pl6_set _ (plF P (k + 1)) k (by omega) c HPK.out.1 HPK.out.2] at hS
                have HS := Lib.hid hS
                have hk0 : (0 : Int) ≤ k := by omega
                have hk1 : (k : Int) < 6 := by omega
                clear HL2 hb3 g0 g1 g2 g3 g4 g5 g6 g7 hS L3
                go_wp2_with fail
                go_roundw
                case rel => exact ⟨k + 1, by omega, by go_num, by rw [HTK.out], HNX, HS.out⟩
                case measure => simp [intOf]; omega
              · rw [hb4] at hat hbt
                have HRES : Hid (placeP n m xs P = false) := Lib.hid (by rw [HD.out, hno (by rw [hat]; rfl) hlt])
                clear hup hno hat htk hpk hpo hpz hor hb1 hb4
                go_wp2_with fail
                refine (HI.out _).mono ?_
                rintro e w2 ⟨rfl, hb2⟩
                have L2 := HL.out.kept hb2
                clear g0 g1 g2 g3 g4 g5 g6 g7 HL hb2
                obtain ⟨g0, g1, g2, g3, g4, g5, g6, g7, _⟩ := L2.tl.tl.ownHas.eight
                have HL2 := Lib.hid L2
                clear L2
                go_wp2_with fail
                refine (HA.out _).mono ?_
                rintro e w3 ⟨rfl, hb3⟩
                have HLX := Lib.hid (HL2.out.kept hb3)
                clear HL2 hb3 g0 g1 g2 g3 g4 g5 g6 g7
                have hrow := HLX.out.ownHas.row6
                obtain ⟨e0, e1, e2, e3, e4, e5, _⟩ := HLX.out.ownHas.six
                obtain ⟨f0, f1, f2, f3, f4, f5, ff⟩ := HLX.out.tl.ownHas.six
                have HB := Lib.hid HLX.out.below
                clear HLX
                go_wp2_with (refine wpList_load_row rfl 81 _ rfl _ rfl _ _ _ _ hrow Try.underlying81 rfl (by kernel_rfl) ?_)
                refine bodyPost_ret (v := .tuple #[pv6 (plF P k), .bool false]) (by simp [results, Try.results116, go_sem, f0, f1, f2, f3, f4, f5]) rfl (ansP_no _ HRES.out ?_)
                have h2 := HB.out
                repeat (refine Below.setCell ?_ (by simp <;> omega) _)
                exact h2
          · have HRES : Hid (placeP n m xs P = false) := Lib.hid (by rw [HD.out, hno (by rw [hat, inB_no h2, Bool.false_and]) hlt])
            have hins : insB n m k x = false := insB_no (by omega)
            have HI := Lib.hid (fun W => inside_any n m k x M W)
            rw [hins] at HI
            clear hup hno hat htk hpk hpo hpz htm h1 h2 hins
            go_wp2_with fail
            refine (HI.out _).mono ?_
            rintro e w2 ⟨rfl, hb2⟩
            have HLX := Lib.hid (HL.out.kept hb2)
            clear g0 g1 g2 g3 g4 g5 g6 g7 HL hb2
            have hrow := HLX.out.ownHas.row6
            obtain ⟨e0, e1, e2, e3, e4, e5, _⟩ := HLX.out.ownHas.six
            obtain ⟨f0, f1, f2, f3, f4, f5, ff⟩ := HLX.out.tl.ownHas.six
            have HB := Lib.hid HLX.out.below
            clear HLX
            go_wp2_with (refine wpList_load_row rfl 81 _ rfl _ rfl _ _ _ _ hrow Try.underlying81 rfl (by kernel_rfl) ?_)
            refine bodyPost_ret (v := .tuple #[pv6 (plF P k), .bool false]) (by simp [results, Try.results116, go_sem, f0, f1, f2, f3, f4, f5]) rfl (ansP_no _ HRES.out ?_)
            have h2 := HB.out
            repeat (refine Below.setCell ?_ (by simp <;> omega) _)
            exact h2
      · obtain rfl : k = P.length := by omega
        have HRES : Hid (placeP n m xs P = true) := Lib.hid (by rw [HD.out, HU.out])
        have HLX := HL
        clear L HL
        have hrow := HLX.out.ownHas.row6
        obtain ⟨e0, e1, e2, e3, e4, e5, _⟩ := HLX.out.ownHas.six
        obtain ⟨f0, f1, f2, f3, f4, f5, ff⟩ := HLX.out.tl.ownHas.six
        have HB := Lib.hid HLX.out.below
        clear HLX
        go_wp2_with (refine wpList_load_row rfl 81 _ rfl _ rfl _ _ _ _ hrow Try.underlying81 rfl (by kernel_rfl) ?_)
        refine bodyPost_ret (v := .tuple #[pv6 (plF P P.length), .bool true]) (by simp [results, Try.results116, go_sem, f0, f1, f2, f3, f4, f5]) rfl (ansP_yes HRES.out HN.out ?_)
        have h2 := HB.out
        repeat (refine Below.setCell ?_ (by simp <;> omega) _)
        exact h2
end Go.Proofs.Ytddmommamcgelab
