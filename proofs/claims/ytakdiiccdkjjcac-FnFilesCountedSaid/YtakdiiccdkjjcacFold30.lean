import Derived.Test.YtakdiiccdkjjcacFold29
import Derived.Test.YtakdiiccdkjjcacFold20
import Derived.Test.YtakdiiccdkjjcacFold5
import Derived.Test.YtakdiiccdkjjcacFold6
import Derived.Laws.Rows
import Derived.Test.YtakdiiccdkjjcacFold8
import Derived.Test.YtakdiiccdkjjcacFold25
import Derived.Test.YtakdiiccdkjjcacFold11

section
namespace Go.Proofs.Ytakdiiccdkjjcac
open Go.RowKit Go.WideShapes

set_option maxRecDepth 100000 in
set_option maxHeartbeats 6400000 in
theorem drawDrawIsFilePlacement_any (a : Option Addr) (n p : Nat) (w : World) (hn : n ≤ 4611686018427387904) (hr : ReadsY w a n) : Calls Try.prog 30 #[.slice a n p] w fun e w' => ∃ (r c : Int) (g len cap : Nat) (xs : List Int) (v : Value) (F : List Int), e = .returned (.tuple #[bdV r c g len cap, v]) ∧ xs.length = len ∧ 1 ≤ len ∧ len ≤ 7 ∧ F.length ≤ 7 ∧ Own w' w.heap.size (.slice (some ⟨g, 0, none⟩) len cap) xs ∧ Own w' w.heap.size v F ∧ Below w.heap.size w w' := by
  have L0 := (Law.start w).has [.int .i64 0, .int .i64 0, .slice none 0 0] 28
  rw [show w.alloc (.cells ([.int .i64 0, .int .i64 0, .slice none 0 0] : List Value).toArray 28) = w.alloc (.cells #[.int .i64 0, .int .i64 0, .slice none 0 0] 28) from rfl] at L0
  have L1 := Law.newCur L0 a n p
  simp only [World.size_alloc] at L1
  have HS : Hid (Src0 w (w.heap.size + 1) a n) := Lib.hid ⟨hr, hn, fun b off h0 e => by have := hr.fresh b off h0 e; omega⟩
  have HL := Lib.hid L1
  clear L0 L1 hr
  go_enter Try.func30, Try.ntmps30
  go_wp2_with fail
  generalize (w.alloc (.cells #[.int .i64 0, .int .i64 0, .slice none 0 0] 28)).alloc _ = w5 at *
  refine (board_law HS.out (by omega) HL.out).mono ?_
  rintro e w6 ⟨r, c, g, len, cap, xs, rfl, hl, h1, h7, L⟩
  have HXS := Lib.hid hl
  have LB := L.has [.int .i64 r, .int .i64 c, .slice (some ⟨g, 0, none⟩) len cap] 28
  have LC := LB.own (Below.refl _ _) (Own.nil _ _)
  have HX := Lib.hid LC
  have hrd : Reads w6 (some ⟨g, 0, none⟩) len xs := by
    obtain ⟨a', q, e, h⟩ := L.ownInts.reads
    cases e
    rw [hl] at h
    exact h
  have HRD := Lib.hid (hrd.kept (below_new (.cells #[.int .i64 r, .int .i64 c, .slice (some ⟨g, 0, none⟩) len cap] 28)))
  clear HL L LB LC hl hrd
  go_upto_region 3 with fail
  generalize w6.alloc _ = w7 at *
  obtain ⟨bb, hbb⟩ : ∃ bb, bb = w6.heap.size := ⟨_, rfl⟩
  rw [← hbb] at HX ⊢
  clear hbb
  have ⟨k0, k1, k2, _⟩ := (Law.ownHas (Law.tl HX.out)).three
  go_wp2_with fail
  have HG := boGood_any r c (some ⟨g, 0, none⟩) cap xs w7 (by have := HXS.out; omega) (by rw [HXS.out]; exact HRD.out)
  rw [HXS.out] at HG
  refine HG.mono ?_
  rintro e w8 ⟨rfl, hb⟩
  have HX2 : Hid (Law w ([tOwn (.slice none 0 0) [], tHas bb [.int .i64 (r), .int .i64 (c), .slice (some ⟨g, 0, none⟩) len cap] 28, tOwn (.slice (some ⟨g, 0, none⟩) len cap) xs] ++ tCur (w.heap.size + 1) a n p (0 + 50) :: [tHas w.heap.size [.int .i64 0, .int .i64 0, .slice none 0 0] 28]) w8) := Lib.hid (HX.out.kept hb)
  clear HX hb HG k0 k1 k2 HRD
  have HX := HX2
  clear HX2
  cases hg : goodB r c xs
  · have HFL6 : Hid (([] : List Int).length ≤ 6) := Lib.hid (by decide)
    go_wp2_with fail
    refine (one_law HS.out (ts := [_, _, _]) 12 (by omega) (by omega) HX.out).mono ?_
    rintro e wO ⟨b, rfl, LO⟩
    clear HX
    have HX : Hid (Law w ([tOwn (.slice none 0 0) ([] : List Int), tHas bb [.int .i64 (r), .int .i64 (c), .slice (some ⟨g, 0, none⟩) len cap] 28, tOwn (.slice (some ⟨g, 0, none⟩) len cap) xs] ++ tCur (w.heap.size + 1) a n p (0 + 50 + 2) :: [tHas w.heap.size [.int .i64 0, .int .i64 0, .slice none 0 0] 28]) wO) := Lib.hid LO
    clear LO
    cases b
    · have HFL := Lib.hid (show (([] : List Int)).length ≤ 7 from Nat.le_succ_of_le HFL6.out)
      have ⟨m0, m1, m2, _⟩ := (Law.ownHas (Law.tl HX.out)).three
      have hH : Has _ w.heap.size [.int .i64 0, .int .i64 0, .slice none 0 0] 28 := (Law.tl (Law.tl (Law.tl (Law.tl HX.out)))).ownHas
      have ⟨r0, r1, r2, _⟩ := hH.three
      have hbr : bb ≠ w.heap.size := fun e => (List.pairwise_cons.1 (Law.tl HX.out).dis).1 (tHas w.heap.size [.int .i64 0, .int .i64 0, .slice none 0 0] 28) (by simp) bb rfl e
      have hrb : w.heap.size ≠ bb := fun e => hbr e.symm
      have L1 := Law.setHas (ts := [_, _, _, _]) (show Law w ([tOwn (.slice none 0 0) ([] : List Int), tHas bb [.int .i64 (r), .int .i64 (c), .slice (some ⟨g, 0, none⟩) len cap] 28, tOwn (.slice (some ⟨g, 0, none⟩) len cap) xs, tCur (w.heap.size + 1) a n p (0 + 50 + 2)] ++ tHas w.heap.size [.int .i64 0, .int .i64 0, .slice none 0 0] 28 :: []) _ from HX.out) 0 (.int .i64 (r))
      have L2 := Law.setHas L1 1 (.int .i64 (c))
      have L3 := Law.setHas L2 2 (.slice (some ⟨g, 0, none⟩) len cap)
      have HF := Lib.hid (And.intro L3.ownLo (And.intro L3.tl.tl.ownLo L3.below))
      clear HX L1 L2 L3 hH
      go_wp2_with fail
      exact bodyPost_ret (v := .tuple #[.agg #[.int .i64 (r), .int .i64 (c), .slice (some ⟨g, 0, none⟩) len cap], (.slice none 0 0)]) (by simp [results, Try.results30, go_sem, r0, r1, r2]) rfl ⟨r, c, g, len, cap, xs, (.slice none 0 0), ([] : List Int), rfl, HXS.out, h1, h7, HFL.out, HF.out.2.1, HF.out.1, HF.out.2.2⟩
    · go_wp2_with fail
      refine (row5_law HS.out (ts := [_, _, _]) (by omega) HX.out).mono ?_
      rintro e wP ⟨z, rfl, _, LP⟩
      clear HX
      obtain ⟨F2, hF2⟩ : ∃ F2, F2 = ([] : List Int) ++ [z] := ⟨_, rfl⟩
      have HF2 := Lib.hid hF2
      have HF2L := Lib.hid (show F2.length ≤ 7 by have := HFL6.out; rw [hF2, List.length_append, List.length_singleton]; omega)
      have LA := Law.kept LP (below_new (.cells #[.int .i64 z] 3))
      have hnew : (wP.alloc (.cells #[.int .i64 z] 3)).cell? ⟨wP.heap.size, 0, none⟩ = some (.int .i64 z) := by simp
      have HLA := Lib.hid LA
      clear LA LP hF2
      go_wp2_with (at_builtin; refine wp_appendI rfl _ _ rfl z HLA.out wP.heap.size rfl rfl hnew (by have := HFL6.out; omega) F2 HF2.out.symm ?_)
      intro g1 cap1 wQ L6
      have HX : Hid (Law w ([tOwn (.slice (some ⟨g1, 0, none⟩) F2.length cap1) F2, tHas bb [.int .i64 (r), .int .i64 (c), .slice (some ⟨g, 0, none⟩) len cap] 28, tOwn (.slice (some ⟨g, 0, none⟩) len cap) xs] ++ tCur (w.heap.size + 1) a n p (0 + 50 + 2 + 2) :: [tHas w.heap.size [.int .i64 0, .int .i64 0, .slice none 0 0] 28]) wQ) := Lib.hid L6
      have HFL := HF2L
      clear L6 HLA hnew HF2 HF2L HFL6
      have ⟨m0, m1, m2, _⟩ := (Law.ownHas (Law.tl HX.out)).three
      have hH : Has _ w.heap.size [.int .i64 0, .int .i64 0, .slice none 0 0] 28 := (Law.tl (Law.tl (Law.tl (Law.tl HX.out)))).ownHas
      have ⟨r0, r1, r2, _⟩ := hH.three
      have hbr : bb ≠ w.heap.size := fun e => (List.pairwise_cons.1 (Law.tl HX.out).dis).1 (tHas w.heap.size [.int .i64 0, .int .i64 0, .slice none 0 0] 28) (by simp) bb rfl e
      have hrb : w.heap.size ≠ bb := fun e => hbr e.symm
      have L1 := Law.setHas (ts := [_, _, _, _]) (show Law w ([tOwn (.slice (some ⟨g1, 0, none⟩) F2.length cap1) F2, tHas bb [.int .i64 (r), .int .i64 (c), .slice (some ⟨g, 0, none⟩) len cap] 28, tOwn (.slice (some ⟨g, 0, none⟩) len cap) xs, tCur (w.heap.size + 1) a n p (0 + 50 + 2 + 2)] ++ tHas w.heap.size [.int .i64 0, .int .i64 0, .slice none 0 0] 28 :: []) _ from HX.out) 0 (.int .i64 (r))
      have L2 := Law.setHas L1 1 (.int .i64 (c))
      have L3 := Law.setHas L2 2 (.slice (some ⟨g, 0, none⟩) len cap)
      have HF := Lib.hid (And.intro L3.ownLo (And.intro L3.tl.tl.ownLo L3.below))
      clear HX L1 L2 L3 hH
      go_wp2_with fail
      exact bodyPost_ret (v := .tuple #[.agg #[.int .i64 (r), .int .i64 (c), .slice (some ⟨g, 0, none⟩) len cap], (.slice (some ⟨g1, 0, none⟩) F2.length cap1)]) (by simp [results, Try.results30, go_sem, r0, r1, r2]) rfl ⟨r, c, g, len, cap, xs, (.slice (some ⟨g1, 0, none⟩) F2.length cap1), F2, rfl, HXS.out, h1, h7, HFL.out, HF.out.2.1, HF.out.1, HF.out.2.2⟩
  · have hf := good_facts hg
    obtain ⟨⟨hr1, hr2⟩, ⟨hc1, hc2⟩, hxr, hcells⟩ := hf
    obtain ⟨nn, rfl⟩ := Int.eq_ofNat_of_zero_le (show 0 ≤ r by omega)
    obtain ⟨mm, rfl⟩ := Int.eq_ofNat_of_zero_le (show 0 ≤ c by omega)
    have HXN := Lib.hid (show xs.length = nn by omega)
    have HGC := Lib.hid (fun (k : Nat) (hk : k < nn) => show 0 ≤ xs.getD k 0 ∧ xs.getD k 0 < 64 from by
      obtain ⟨a1, a2⟩ := hcells k (by have := HXN.out; omega)
      have := pw_mono64 (c := (mm : Int)) ⟨hc1, hc2⟩
      omega)
    clear hxr hcells hg
    go_wp2_with fail
    go_loopw [6, 7] (fun v i wr => ∃ k : Nat, k ≤ mm ∧ i = .int .i64 k ∧ ∃ (v' : Value) (F : List Int), v' = v ∧ F.length = k ∧ Law w ([tOwn v' F, tHas bb [.int .i64 (nn), .int .i64 (mm), .slice (some ⟨g, 0, none⟩) len cap] 28, tOwn (.slice (some ⟨g, 0, none⟩) len cap) xs] ++ tCur (w.heap.size + 1) a n p (50 + 4 * k) :: [tHas w.heap.size [.int .i64 0, .int .i64 0, .slice none 0 0] 28]) wr) (fun _ i _ => mm - (intOf i).toNat)
    case atStart => exact ⟨0, Nat.zero_le _, rfl, _, [], rfl, rfl, HX.out⟩
    case round =>
      clear HX
      obtain ⟨k, hk, rfl, v, F, rfl, hFk, L⟩ := hrel
      have HFK := Lib.hid hFk
      have HX := Lib.hid L
      have ⟨k0, k1, k2, _⟩ := (Law.ownHas (Law.tl L)).three
      clear L hFk
      by_cases hlt : k < mm
      · have hkm : (k : Int) < mm := by omega
        go_wp2_with fail
        refine (pick_law HS.out (ts := [_, _, _]) (nn : Int) (by omega) (by omega) HX.out).mono ?_
        rintro e wA ⟨q0, q00, q01, rfl, LA⟩
        obtain ⟨q, hq'⟩ := Int.eq_ofNat_of_zero_le q00
        subst hq'
        obtain ⟨hq, hq0, hqx⟩ := pick_nat q01 (by omega)
        clear HX k0 k1 k2 q00 q01
        have HX := Lib.hid LA
        have ⟨k0, k1, k2, _⟩ := (Law.ownHas (Law.tl LA)).three
        have HH := boHas_any (nn : Int) (mm : Int) xs q k wA (by have := HXN.out; omega) (by have := HXN.out; omega) (by omega) (HGC.out q hq) _ _ (Law.tl (Law.tl LA)).ownInts
        generalize (xs.getD q 0).toNat.testBit k = bt at HH
        have HHH := Lib.hid HH
        clear LA HH
        cases bt
        · go_wp2_with fail
          refine HHH.out.mono ?_
          rintro e wB ⟨rfl, hb⟩
          have HX2 := Lib.hid (HX.out.kept hb)
          clear HX hb k0 k1 k2 HHH
          go_wp2_with fail
          refine (one_law HS.out (ts := [_, _, _]) 12 (by omega) (by omega) HX2.out).mono ?_
          rintro e wZ ⟨b, rfl, LO⟩
          have HX := Lib.hid LO
          clear LO HX2
          cases b
          · have LA := Law.kept HX.out (below_new (.cells #[.int .i64 (-1)] 3))
            have hnew : (wZ.alloc (.cells #[.int .i64 (-1)] 3)).cell? ⟨wZ.heap.size, 0, none⟩ = some (.int .i64 (-1)) := by simp
            obtain ⟨F2, hF2⟩ : ∃ F2, F2 = F ++ [(-1 : Int)] := ⟨_, rfl⟩
            have HF2 := Lib.hid hF2
            have HF2L := Lib.hid (show F2.length = k + 1 by rw [hF2, List.length_append, HFK.out]; rfl)
            have HLA := Lib.hid LA
            clear LA hF2 HX
            go_wp2_with (at_builtin; refine wp_appendI rfl _ _ rfl (-1) HLA.out wZ.heap.size rfl rfl hnew (by have := HFK.out; omega) F2 HF2.out.symm ?_)
            intro g1 cap1 wQ L6
            have HX := Lib.hid L6
            clear L6 HLA hnew
            go_wp2_with fail
            go_roundw
            case rel => exact ⟨k + 1, by omega, by go_num, _, F2, rfl, HF2L.out, (Law.drawn (ts := [_, _, _]) HX.out (Chg.refl _ _) ((Law.cur (HX.out.tl.tl.tl)).more (by omega)))⟩
            case measure => simp [intOf]; omega
          · have LA := Law.kept HX.out (below_new (.cells #[.int .i64 (q)] 3))
            have hnew : (wZ.alloc (.cells #[.int .i64 (q)] 3)).cell? ⟨wZ.heap.size, 0, none⟩ = some (.int .i64 (q)) := by simp
            obtain ⟨F2, hF2⟩ : ∃ F2, F2 = F ++ [(q : Int)] := ⟨_, rfl⟩
            have HF2 := Lib.hid hF2
            have HF2L := Lib.hid (show F2.length = k + 1 by rw [hF2, List.length_append, HFK.out]; rfl)
            have HLA := Lib.hid LA
            clear LA hF2 HX
            go_wp2_with (at_builtin; refine wp_appendI rfl _ _ rfl (q) HLA.out wZ.heap.size rfl rfl hnew (by have := HFK.out; omega) F2 HF2.out.symm ?_)
            intro g1 cap1 wQ L6
            have HX := Lib.hid L6
            clear L6 HLA hnew
            go_wp2_with fail
            go_roundw
            case rel => exact ⟨k + 1, by omega, by go_num, _, F2, rfl, HF2L.out, (Law.drawn (ts := [_, _, _]) HX.out (Chg.refl _ _) ((Law.cur (HX.out.tl.tl.tl)).more (by omega)))⟩
            case measure => simp [intOf]; omega
        · go_wp2_with fail
          refine HHH.out.mono ?_
          rintro e wZ ⟨rfl, hb⟩
          have HX2 := Lib.hid (HX.out.kept hb)
          clear HX hb k0 k1 k2 HHH
          have HX := HX2
          clear HX2
          have LA := Law.kept HX.out (below_new (.cells #[.int .i64 (q)] 3))
          have hnew : (wZ.alloc (.cells #[.int .i64 (q)] 3)).cell? ⟨wZ.heap.size, 0, none⟩ = some (.int .i64 (q)) := by simp
          obtain ⟨F2, hF2⟩ : ∃ F2, F2 = F ++ [(q : Int)] := ⟨_, rfl⟩
          have HF2 := Lib.hid hF2
          have HF2L := Lib.hid (show F2.length = k + 1 by rw [hF2, List.length_append, HFK.out]; rfl)
          have HLA := Lib.hid LA
          clear LA hF2 HX
          go_wp2_with (at_builtin; refine wp_appendI rfl _ _ rfl (q) HLA.out wZ.heap.size rfl rfl hnew (by have := HFK.out; omega) F2 HF2.out.symm ?_)
          intro g1 cap1 wQ L6
          have HX := Lib.hid L6
          clear L6 HLA hnew
          go_wp2_with fail
          go_roundw
          case rel => exact ⟨k + 1, by omega, by go_num, _, F2, rfl, HF2L.out, (Law.drawn (ts := [_, _, _]) HX.out (Chg.refl _ _) ((Law.cur (HX.out.tl.tl.tl)).more (by omega)))⟩
          case measure => simp [intOf]; omega
      · obtain rfl : k = mm := by omega
        have hkm : ¬ (k : Int) < k := by omega
        have HFL6 : Hid (F.length ≤ 6) := Lib.hid (by have := HFK.out; omega)
        go_wp2_with fail
        clear k0 k1 k2
        refine (one_law HS.out (ts := [_, _, _]) 12 (by omega) (by omega) HX.out).mono ?_
        rintro e wO ⟨b, rfl, LO⟩
        clear HX
        have HX : Hid (Law w ([tOwn v F, tHas bb [.int .i64 (nn), .int .i64 (k), .slice (some ⟨g, 0, none⟩) len cap] 28, tOwn (.slice (some ⟨g, 0, none⟩) len cap) xs] ++ tCur (w.heap.size + 1) a n p (50 + 4 * k + 2) :: [tHas w.heap.size [.int .i64 0, .int .i64 0, .slice none 0 0] 28]) wO) := Lib.hid LO
        clear LO
        cases b
        · have HFL := Lib.hid (show (F).length ≤ 7 from Nat.le_succ_of_le HFL6.out)
          have ⟨m0, m1, m2, _⟩ := (Law.ownHas (Law.tl HX.out)).three
          have hH : Has _ w.heap.size [.int .i64 0, .int .i64 0, .slice none 0 0] 28 := (Law.tl (Law.tl (Law.tl (Law.tl HX.out)))).ownHas
          have ⟨r0, r1, r2, _⟩ := hH.three
          have hbr : bb ≠ w.heap.size := fun e => (List.pairwise_cons.1 (Law.tl HX.out).dis).1 (tHas w.heap.size [.int .i64 0, .int .i64 0, .slice none 0 0] 28) (by simp) bb rfl e
          have hrb : w.heap.size ≠ bb := fun e => hbr e.symm
          have L1 := Law.setHas (ts := [_, _, _, _]) (show Law w ([tOwn v F, tHas bb [.int .i64 (nn), .int .i64 (k), .slice (some ⟨g, 0, none⟩) len cap] 28, tOwn (.slice (some ⟨g, 0, none⟩) len cap) xs, tCur (w.heap.size + 1) a n p (50 + 4 * k + 2)] ++ tHas w.heap.size [.int .i64 0, .int .i64 0, .slice none 0 0] 28 :: []) _ from HX.out) 0 (.int .i64 (nn))
          have L2 := Law.setHas L1 1 (.int .i64 (k))
          have L3 := Law.setHas L2 2 (.slice (some ⟨g, 0, none⟩) len cap)
          have HF := Lib.hid (And.intro L3.ownLo (And.intro L3.tl.tl.ownLo L3.below))
          clear HX L1 L2 L3 hH
          go_wp2_with fail
          exact bodyPost_ret (v := .tuple #[.agg #[.int .i64 (nn), .int .i64 (k), .slice (some ⟨g, 0, none⟩) len cap], v]) (by simp [results, Try.results30, go_sem, r0, r1, r2]) rfl ⟨nn, k, g, len, cap, xs, v, F, rfl, HXS.out, h1, h7, HFL.out, HF.out.2.1, HF.out.1, HF.out.2.2⟩
        · go_wp2_with fail
          refine (row5_law HS.out (ts := [_, _, _]) (by omega) HX.out).mono ?_
          rintro e wP ⟨z, rfl, _, LP⟩
          clear HX
          obtain ⟨F2, hF2⟩ : ∃ F2, F2 = F ++ [z] := ⟨_, rfl⟩
          have HF2 := Lib.hid hF2
          have HF2L := Lib.hid (show F2.length ≤ 7 by have := HFL6.out; rw [hF2, List.length_append, List.length_singleton]; omega)
          have LA := Law.kept LP (below_new (.cells #[.int .i64 z] 3))
          have hnew : (wP.alloc (.cells #[.int .i64 z] 3)).cell? ⟨wP.heap.size, 0, none⟩ = some (.int .i64 z) := by simp
          have HLA := Lib.hid LA
          clear LA LP hF2
          go_wp2_with (at_builtin; refine wp_appendI rfl _ _ rfl z HLA.out wP.heap.size rfl rfl hnew (by have := HFL6.out; omega) F2 HF2.out.symm ?_)
          intro g1 cap1 wQ L6
          have HX : Hid (Law w ([tOwn (.slice (some ⟨g1, 0, none⟩) F2.length cap1) F2, tHas bb [.int .i64 (nn), .int .i64 (k), .slice (some ⟨g, 0, none⟩) len cap] 28, tOwn (.slice (some ⟨g, 0, none⟩) len cap) xs] ++ tCur (w.heap.size + 1) a n p (50 + 4 * k + 2 + 2) :: [tHas w.heap.size [.int .i64 0, .int .i64 0, .slice none 0 0] 28]) wQ) := Lib.hid L6
          have HFL := HF2L
          clear L6 HLA hnew HF2 HF2L HFL6
          have ⟨m0, m1, m2, _⟩ := (Law.ownHas (Law.tl HX.out)).three
          have hH : Has _ w.heap.size [.int .i64 0, .int .i64 0, .slice none 0 0] 28 := (Law.tl (Law.tl (Law.tl (Law.tl HX.out)))).ownHas
          have ⟨r0, r1, r2, _⟩ := hH.three
          have hbr : bb ≠ w.heap.size := fun e => (List.pairwise_cons.1 (Law.tl HX.out).dis).1 (tHas w.heap.size [.int .i64 0, .int .i64 0, .slice none 0 0] 28) (by simp) bb rfl e
          have hrb : w.heap.size ≠ bb := fun e => hbr e.symm
          have L1 := Law.setHas (ts := [_, _, _, _]) (show Law w ([tOwn (.slice (some ⟨g1, 0, none⟩) F2.length cap1) F2, tHas bb [.int .i64 (nn), .int .i64 (k), .slice (some ⟨g, 0, none⟩) len cap] 28, tOwn (.slice (some ⟨g, 0, none⟩) len cap) xs, tCur (w.heap.size + 1) a n p (50 + 4 * k + 2 + 2)] ++ tHas w.heap.size [.int .i64 0, .int .i64 0, .slice none 0 0] 28 :: []) _ from HX.out) 0 (.int .i64 (nn))
          have L2 := Law.setHas L1 1 (.int .i64 (k))
          have L3 := Law.setHas L2 2 (.slice (some ⟨g, 0, none⟩) len cap)
          have HF := Lib.hid (And.intro L3.ownLo (And.intro L3.tl.tl.ownLo L3.below))
          clear HX L1 L2 L3 hH
          go_wp2_with fail
          exact bodyPost_ret (v := .tuple #[.agg #[.int .i64 (nn), .int .i64 (k), .slice (some ⟨g, 0, none⟩) len cap], (.slice (some ⟨g1, 0, none⟩) F2.length cap1)]) (by simp [results, Try.results30, go_sem, r0, r1, r2]) rfl ⟨nn, k, g, len, cap, xs, (.slice (some ⟨g1, 0, none⟩) F2.length cap1), F2, rfl, HXS.out, h1, h7, HFL.out, HF.out.2.1, HF.out.1, HF.out.2.2⟩
end Go.Proofs.Ytakdiiccdkjjcac
end

section
namespace Go.Proofs.Ytakdiiccdkjjcac
open Go.RowKit Go.WideShapes


end Go.Proofs.Ytakdiiccdkjjcac
end

section
namespace Go.Proofs.Ytakdiiccdkjjcac
open Go.RowKit Go.WideShapes

theorem Has.row6 {w : World} {b : Nat} {f : Nat → Int} {t : TypeId} (h : Has w b (pl6 f) t) : w.heap[b]? = some (.cells #[.int .i64 (f 0), .int .i64 (f 1), .int .i64 (f 2), .int .i64 (f 3), .int .i64 (f 4), .int .i64 (f 5)] t (0, 0)) := h


end Go.Proofs.Ytakdiiccdkjjcac
end

section
namespace Go.Proofs.Ytakdiiccdkjjcac
open Go.RowKit Go.WideShapes

theorem Own.capLe {w : World} {lo g L p : Nat} {xs : List Int} (h : Own w lo (.slice (some ⟨g, 0, none⟩) L p) xs) : L ≤ p := by
  rcases h.cases with ⟨h0, _⟩ | ⟨g', p', h0, _, _, h1, _⟩
  · cases h0
  · injection h0 with _ h2 h3
    omega

def sliceLen : Value → Nat
  | .slice _ n _ => n
  | _ => 0


set_option maxHeartbeats 800000 in
theorem withoutLast_any (g L p : Nat) (xs : List Int) (w : World) (hx : L ≤ 1048576) (hp : L ≤ p) (hL : xs.length = L) (lo : Nat) (hO : Own w lo (.slice (some ⟨g, 0, none⟩) L p) xs) :
    Calls Try.prog 155 #[.slice (some ⟨g, 0, none⟩) L p] w fun e w' => e = .returned (.slice (some ⟨g, 0, none⟩) (shK xs L) p) ∧ w = w' := by
  have hc : ∀ k, k < L → w.cell? ⟨g, k, none⟩ = some (.int .i64 (xs.getD k 0)) := fun k hk => by
    subst hL
    exact hO.cell k hk
  have HC := Lib.hid hc
  clear hc hO hL
  go_enter Try.func155, Try.ntmps155
  go_wp2_with fail
  go_loop [0] (fun i => ∃ k : Nat, k ≤ L ∧ i = .slice (some ⟨g, 0, none⟩) k p ∧ Hid (shK xs k = shK xs L)) (fun i => sliceLen i)
  case atStart => exact ⟨L, Nat.le_refl _, rfl, Lib.hid rfl⟩
  case round =>
    obtain ⟨k, hk, rfl, HK⟩ := hrel
    cases k with
    | zero =>
      have hr := HK.out
      rw [shK] at hr
      have HR := Lib.hid hr
      clear hr HK
      go_wp2_with fail
      go_ret
      exact ⟨congrArg (fun n => Ending.returned (.slice (some ⟨g, 0, none⟩) n p)) HR.out, rfl⟩
    | succ j =>
      have hcj := HC.out j (by omega)
      have hr := HK.out
      rw [shK] at hr
      have hj1 : IntKind.i64.wrap (((j + 1 : Nat) : Int) - 1) = j := by rw [show ((j + 1 : Nat) : Int) - 1 = j by omega]; exact IntWalk.i64_in _ (by omega)
      have hj2 : (0 : Int) ≤ j := by omega
      have hj3 : (j : Int) < L := by omega
      have hjp : (j : Int) ≤ p := by omega
      by_cases h0 : xs.getD j 0 = 0
      · rw [if_pos h0] at hr
        rw [h0] at hcj
        have HR := Lib.hid hr
        clear hr HK h0
        go_wp2_with fail
        go_round
        case rel => exact ⟨j, by omega, rfl, HR⟩
        case measure => simp [sliceLen]
      · rw [if_neg h0] at hr
        have HR := Lib.hid hr
        have h0' : (xs.getD j 0 == 0) = false := by rw [beq_eq_false_iff_ne]; exact h0
        generalize xs.getD j 0 = x at *
        clear hr HK h0
        go_wp2_with fail
        go_ret
        exact ⟨congrArg (fun n => Ending.returned (.slice (some ⟨g, 0, none⟩) n p)) HR.out, rfl⟩


end Go.Proofs.Ytakdiiccdkjjcac
end

section
namespace Go.Proofs.Ytakdiiccdkjjcac
open Go.RowKit Go.WideShapes

def isPlB (r c : Int) (xs P : List Int) : R2 := if goodB r c xs then ⟨placeP r.toNat c.toNat xs P, true⟩ else ⟨false, false⟩

theorem own_cap {w : World} {lo : Nat} {a : Option Addr} {n p : Nat} {xs : List Int} (h : Own w lo (.slice a n p) xs) : n ≤ p := by
  rcases h.cases with ⟨h0, _⟩ | ⟨g', p', h0, _, _, h1, _⟩
  · injection h0 with _ h2 h3
    omega
  · injection h0 with _ h2 h3
    omega


end Go.Proofs.Ytakdiiccdkjjcac
end
