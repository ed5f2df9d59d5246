import Derived.Test.YtakdiiccdkjjcacFold27
import Derived.Test.YtakdiiccdkjjcacFold11
import Derived.Test.YtakdiiccdkjjcacFold10
import Derived.Deep.RegionHeld3
import Derived.Deep.RegionWith
import Derived.Test.YtakdiiccdkjjcacFold8

section
namespace Go.Proofs.Ytakdiiccdkjjcac
open Go.RowKit Go.WideShapes

/-- A drawer, as a thing of the call's own. -/
def tCur (bc : Nat) (a : Option Addr) (n p K : Nat) : Thing :=
  ⟨fun k => k = bc, fun w => Cur w bc a n p K, fun w w' hs hk h => by
    obtain ⟨q, sd, h1, h2⟩ := h
    exact ⟨q, sd, (hk bc rfl).trans h1, h2⟩⟩
theorem Law.cur {w0 w : World} {bc n p K : Nat} {a : Option Addr} {ts : List Thing} (h : Law w0 (tCur bc a n p K :: ts) w) : Cur w bc a n p K := h.hd
/-- A choice turns the drawer alone. -/
theorem Law.drawn {w0 w w' : World} {bc n p K K' : Nat} {a : Option Addr} {ts ts' : List Thing} (h : Law w0 (ts ++ tCur bc a n p K :: ts') w) (hc : Chg (fun k => k = bc) w w') (hu : Cur w' bc a n p K') : Law w0 (ts ++ tCur bc a n p K' :: ts') w' :=
  h.write (t := tCur bc a n p K) hc (tCur bc a n p K') rfl hu
theorem Law.newCur {w0 w : World} {ts : List Thing} (h : Law w0 ts w) (a : Option Addr) (n p : Nat) : Law w0 (tCur w.heap.size a n p 0 :: ts) (w.alloc (.cells #[.slice a n p, .int .i64 0, .int .u64 0] 76)) := by
  have L := h.has [.slice a n p, .int .i64 0, .int .u64 0] 76
  exact L.write (ts := []) (t := tHas w.heap.size [.slice a n p, .int .i64 0, .int .u64 0] 76) (Chg.refl _ _) (tCur w.heap.size a n p 0) rfl ⟨0, 0, L.ownHas, Nat.le_refl _, by decide, by decide⟩

/-- What the code that is drawn from must be. -/
structure Src0 (w0 : World) (bc : Nat) (a : Option Addr) (n : Nat) : Prop where
  rd : ReadsY w0 a n
  nn : n ≤ 4611686018427387904
  off : ∀ b off, 0 < n → a = some ⟨b, off, none⟩ → b ≠ bc
theorem pick_law {w0 w : World} {bc n p K : Nat} {a : Option Addr} {ts ts' : List Thing} (hs : Src0 w0 bc a n) (m : Int) (hm : m ≤ 1000000) (hK : K ≤ 1000000000) (L : Law w0 (ts ++ tCur bc a n p K :: ts') w) :
    Calls Try.prog 83 #[.pointer (some ⟨bc, 0, none⟩), .int .i64 m] w fun e w' => ∃ x : Int, 0 ≤ x ∧ (x < m ∨ x = 0) ∧ e = .returned (.int .i64 x) ∧ Law w0 (ts ++ tCur bc a n p (K + 2) :: ts') w' := by
  refine (pick_any bc a n p K m w hm hs.nn (by omega) hs.off (hs.rd.kept L.below) (L.holds (tCur bc a n p K) (by simp))).mono ?_
  rintro e w' ⟨x, x0, x1, rfl, hc, hu⟩
  exact ⟨x, x0, x1, rfl, L.drawn hc hu⟩
theorem one_law {w0 w : World} {bc n p K : Nat} {a : Option Addr} {ts ts' : List Thing} (hs : Src0 w0 bc a n) (m : Int) (hm : m ≤ 1000000) (hK : K ≤ 1000000000) (L : Law w0 (ts ++ tCur bc a n p K :: ts') w) :
    Calls Try.prog 85 #[.pointer (some ⟨bc, 0, none⟩), .int .i64 m] w fun e w' => ∃ b : Bool, e = .returned (.bool b) ∧ Law w0 (ts ++ tCur bc a n p (K + 2) :: ts') w' := by
  refine (one_any bc a n p K m w hm hs.nn (by omega) hs.off (hs.rd.kept L.below) (L.holds (tCur bc a n p K) (by simp))).mono ?_
  rintro e w' ⟨b, rfl, hc, hu⟩
  exact ⟨b, rfl, L.drawn hc hu⟩
theorem among_law {w0 w : World} {bc n p K b0 len c0 : Nat} {a : Option Addr} {zs : List Int} {ts ts' : List Thing} (hs : Src0 w0 bc a n) (hL : 1 ≤ len ∧ len ≤ 1000) (hb : b0 ≠ bc) (hz : Reads w (some ⟨b0, 0, none⟩) len zs) (hK : K ≤ 1000000000) (L : Law w0 (ts ++ tCur bc a n p K :: ts') w) :
    Calls Try.prog 73 #[.pointer (some ⟨bc, 0, none⟩), .slice (some ⟨b0, 0, none⟩) len c0] w fun e w' => ∃ x : Int, e = .returned (.int .i64 x) ∧ x ∈ zs ∧ Law w0 (ts ++ tCur bc a n p (K + 2) :: ts') w' := by
  have hl := hz.1
  refine (among_dr bc a n p K b0 len c0 zs w hL hb hz hs.nn (by omega) hs.off (hs.rd.kept L.below) (L.holds (tCur bc a n p K) (by simp))).mono ?_
  rintro e w' ⟨k, hk, rfl, hc, hu⟩
  refine ⟨_, rfl, ?_, L.drawn hc hu⟩
  have hk2 : k < zs.length := by omega
  simp [List.getD, hk2]

set_option maxRecDepth 100000 in
set_option maxHeartbeats 1600000 in
theorem sides_law {w0 w : World} {bc n p K : Nat} {a : Option Addr} {ts ts' : List Thing} (hs : Src0 w0 bc a n) (hK : K ≤ 100000000) (L : Law w0 (ts ++ tCur bc a n p K :: ts') w) :
    Calls Try.prog 130 #[.pointer (some ⟨bc, 0, none⟩)] w fun e w' => ∃ x : Nat, 1 ≤ x ∧ x ≤ 6 ∧ e = .returned (.int .i64 x) ∧ Law w0 (ts ++ tCur bc a n p (K + 4) :: ts') w' := by
  have HS := Lib.hid hs
  have H1 := Lib.hid (one_law hs 8 (by omega) (by omega) L)
  clear hs L
  go_enter Try.func130, Try.ntmps130
  go_wp2_with fail
  refine H1.out.mono ?_
  rintro e w1 ⟨b, rfl, L⟩
  have HL := Lib.hid L
  clear L
  cases b
  · go_wp2_with fail
    refine (pick_law HS.out 5 (by omega) (by omega) HL.out).mono ?_
    rintro e w2 ⟨x, x0, x1, rfl, L⟩
    have HL2 := Lib.hid L
    obtain ⟨q, rfl⟩ := Int.eq_ofNat_of_zero_le x0
    have hq : q < 5 := by omega
    have hw : IntKind.i64.wrap (1 + (q : Int)) = 1 + q := IntWalk.i64_in _ (by omega)
    clear L
    go_wp2_with fail
    go_ret
    exact ⟨1 + q, by omega, by omega, by first | rfl | (push_cast; rfl), HL2.out⟩
  · go_wp2_with fail
    go_ret
    have L := HL.out
    exact ⟨6, by omega, by omega, rfl, L.drawn (Chg.refl _ _) ((L.holds (tCur bc a n p (K + 2)) (by simp) : Cur w1 bc a n p (K + 2)).more (by omega))⟩

theorem Law.drop2 {w0 w : World} {x y : Thing} {ts : List Thing} (h : Law w0 (x :: y :: ts) w) : Law w0 (x :: ts) w := by
  have hsub : List.Sublist (x :: ts) (x :: y :: ts) := (List.sublist_cons_self y ts).cons_cons x
  exact ⟨h.below, fun t ht => h.holds t (hsub.subset ht), fun t ht => h.range t (hsub.subset ht), h.dis.sublist hsub⟩
theorem pow64 (m : Nat) (h : m ≤ 6) : IntKind.i64.wrap (2 ^ m) = 2 ^ m ∧ (2 : Int) ^ m ≤ 64 ∧ (0 : Int) ≤ 2 ^ m ∧ wrap64 (2 ^ m) = 2 ^ m := by
  have key : ∀ m : Fin 7, IntKind.i64.wrap (2 ^ (m : Nat)) = 2 ^ (m : Nat) ∧ (2 : Int) ^ (m : Nat) ≤ 64 ∧ (0 : Int) ≤ 2 ^ (m : Nat) ∧ wrap64 (2 ^ (m : Nat)) = 2 ^ (m : Nat) := by decide +kernel
  exact key ⟨m, by omega⟩
set_option maxRecDepth 100000 in
set_option maxHeartbeats 6400000 in
theorem boardOf_law {w0 w : World} {bc n p K : Nat} {a : Option Addr} {ts : List Thing} (hs : Src0 w0 bc a n) (hK : K ≤ 10000000) (r m : Nat) (hr : 1 ≤ r ∧ r ≤ 6) (hm : 1 ≤ m ∧ m ≤ 6) (L : Law w0 (tCur bc a n p K :: ts) w) :
    Calls Try.prog 129 #[.pointer (some ⟨bc, 0, none⟩), .int .i64 r, .int .i64 m] w fun e w' => ∃ g cap xs, e = .returned (.agg #[.int .i64 r, .int .i64 m, .slice (some ⟨g, 0, none⟩) r cap]) ∧ xs.length = r ∧ Law w0 (tOwn (.slice (some ⟨g, 0, none⟩) r cap) xs :: tCur bc a n p (K + 36) :: ts) w' := by
  have HS := Lib.hid hs
  have L0 := L.has [.int .i64 0, .int .i64 0, .slice none 0 0] 28
  have HL := Lib.hid L0
  have hbcw : bc < w.heap.size := (Law.cur L).choose_spec.choose_spec.1.lt
  clear hs L L0
  go_enter Try.func129, Try.ntmps129
  go_wp2_with fail
  refine (boEmpty_any r m _ (by omega)).mono ?_
  rintro e w1 ⟨s, rfl, hO, hb⟩
  rcases hO.cases with ⟨rfl, h0⟩ | ⟨g, cap, rfl, _, hgl, _, _⟩
  · have := congrArg List.length h0
    simp at this
    omega
  rw [List.length_replicate] at hO ⊢
  have L1 := (HL.out.own hb hO).box (.int .i64 r) (.int .i64 m) (.slice (some ⟨g, 0, none⟩) r cap) 28
  have HL1 := Lib.hid L1
  clear HL hO hb L1
  go_upto_region 2 with fail
  generalize w1.alloc _ = w6 at *
  obtain ⟨bb, hbb⟩ : ∃ bb, bb = w1.heap.size := ⟨_, rfl⟩
  rw [← hbb] at HL1 ⊢
  have ⟨_, k0, k1, k2, _⟩ := HL1.out.ownBox
  have hgb : g ≠ bb := by omega
  have hgb2 : bb ≠ g := by omega
  clear hbb
  go_wp2_with fail
  clear k0 k1 k2
  go_loopw [15] (fun i wr => ∃ k : Nat, k ≤ r ∧ i = .int .i64 k ∧ ∃ ys : List Int, ys.length = r ∧ Law w0 (tBox bb (.int .i64 r) (.int .i64 m) (.slice (some ⟨g, 0, none⟩) r cap) :: tOwn (.slice (some ⟨g, 0, none⟩) r cap) ys :: tHas w.heap.size [.int .i64 0, .int .i64 0, .slice none 0 0] 28 :: tCur bc a n p (K + 6 * k) :: ts) wr) (fun i _ => r - (intOf i).toNat)
  case atStart => exact ⟨0, Nat.zero_le _, rfl, _, List.length_replicate, HL1.out⟩
  case round =>
    clear HL1
    obtain ⟨k, hk, rfl, ys, hys, L⟩ := hrel
    by_cases hlt : k < r
    · have ⟨_, k0, k1, k2, _⟩ := L.ownBox
      have hK2 : K + 6 * k ≤ 1000000000 := by omega
      obtain ⟨pw1, pw2, pw3, pw4⟩ := pow64 m hm.2
      have hp1 : (2 : Int) ^ m ≤ 1000000 := Int.le_trans pw2 (by decide)
      have HP := Lib.hid (fun W (L : Law w0 ([tBox bb (.int .i64 r) (.int .i64 m) (.slice (some ⟨g, 0, none⟩) r cap), tOwn (.slice (some ⟨g, 0, none⟩) r cap) ys, tHas w.heap.size [.int .i64 0, .int .i64 0, .slice none 0 0] 28] ++ tCur bc a n p (K + 6 * k) :: ts) W) => pick_law HS.out (2 ^ m) hp1 hK2 L)
      have HY := Lib.hid hys
      have HLd : Hid (Law w0 ([tBox bb (.int .i64 r) (.int .i64 m) (.slice (some ⟨g, 0, none⟩) r cap), tOwn (.slice (some ⟨g, 0, none⟩) r cap) ys, tHas w.heap.size [.int .i64 0, .int .i64 0, .slice none 0 0] 28] ++ tCur bc a n p (K + 6 * k) :: ts) wr.drew) := Lib.hid L.drew
      have j2 : wr.drew.cell? ⟨bb, 2, none⟩ = some (.slice (some ⟨g, 0, none⟩) r cap) := k2
      have HCY := Lib.hid (fun W K' (L : Law w0 ([tBox bb (.int .i64 r) (.int .i64 m) (.slice (some ⟨g, 0, none⟩) r cap), tOwn (.slice (some ⟨g, 0, none⟩) r cap) ys, tHas w.heap.size [.int .i64 0, .int .i64 0, .slice none 0 0] 28] ++ tCur bc a n p K' :: ts) W) => (by
        have o := (Law.tl L).ownInts
        exact ⟨Own.cell (by rw [hys]; exact o) k (by omega), Own.free (by rw [hys]; exact o) k⟩ : W.cell? ⟨g, k, none⟩ = some (.int .i64 (ys.getD k 0)) ∧ W.frozen? ⟨g, k, none⟩ = false))
      have hm64 : (m : Int) < 64 := by omega
      have hm0 : (0 : Int) ≤ m := by omega
      have hk0 : (0 : Int) ≤ k := by omega
      have hkr : (k : Int) < r := by omega
      clear L
      go_wp2_with fail
      go_region_held3 (fun w' => w'.cell? ⟨bb, 2, none⟩ = some (.slice (some ⟨g, 0, none⟩) r cap)) (first | exact j2 | exact k2 | exact (World.cell?_setCell_other _ _ _ _ (by intro e; injection e with e1; first | exact hgb e1 | exact hgb2 e1)).trans j2) ((first
        | (go_at_call 83; ((with_reducible refine (HP.out _ HLd.out).mono ?_); rintro rr wA ⟨x, x0, x1, rfl, LA⟩; clear HLd j2; obtain ⟨_, _, _, j2, _⟩ := Law.ownBox LA; obtain ⟨y1, y2⟩ := HCY.out _ _ LA; have HLA := Lib.hid LA; clear LA))
        | fail))
      all_goals
        have hS := Law.store (ts := [_]) (show Law w0 ([tBox bb (.int .i64 r) (.int .i64 m) (.slice (some ⟨g, 0, none⟩) r cap)] ++ tOwn (.slice (some ⟨g, 0, none⟩) r cap) ys :: (tHas w.heap.size [.int .i64 0, .int .i64 0, .slice none 0 0] 28 :: tCur bc a n p (K + 6 * k + 2) :: ts)) _ from HLA.out) HY.out k x
        obtain ⟨zs, hzs⟩ : ∃ zs, zs = ys.set k x := ⟨_, rfl⟩
        have hzl : zs.length = r := by rw [hzs, List.length_set, HY.out]
        rw [← hzs] at hS
        have HZ := Lib.hid hzl
        have HS1 : Hid (Law w0 ([tBox bb (.int .i64 r) (.int .i64 m) (.slice (some ⟨g, 0, none⟩) r cap), tOwn (.slice (some ⟨g, 0, none⟩) r cap) zs, tHas w.heap.size [.int .i64 0, .int .i64 0, .slice none 0 0] 28] ++ tCur bc a n p (K + 6 * k + 2) :: ts) (wA.setCell ⟨g, k, none⟩ (.int .i64 x))) := Lib.hid hS
        have HON := Lib.hid (one_law HS.out 3 (by omega) (show K + 6 * k + 2 ≤ 1000000000 by omega) HS1.out)
        have hK3 : K + 6 * k + 2 + 2 ≤ 1000000000 := by omega
        have HCZ := Lib.hid (fun W K' (L : Law w0 ([tBox bb (.int .i64 r) (.int .i64 m) (.slice (some ⟨g, 0, none⟩) r cap), tOwn (.slice (some ⟨g, 0, none⟩) r cap) zs, tHas w.heap.size [.int .i64 0, .int .i64 0, .slice none 0 0] 28] ++ tCur bc a n p K' :: ts) W) => (by
          have o := (Law.tl L).ownInts
          exact ⟨Own.cell (by rw [hzl]; exact o) k (by omega), Own.free (by rw [hzl]; exact o) k⟩ : W.cell? ⟨g, k, none⟩ = some (.int .i64 (zs.getD k 0)) ∧ W.frozen? ⟨g, k, none⟩ = false))
        clear hS HLA j2 y1 y2 k0 k1 k2 hzs hzl
        generalize wA.setCell ⟨g, k, none⟩ (.int .i64 x) = wB at *
        go_wp2_with fail
        refine HON.out.mono ?_
        rintro e wC ⟨b, rfl, LC⟩
        obtain ⟨_, k0, k1, k2, _⟩ := Law.ownBox LC
        have HLC := Lib.hid LC
        clear LC
        cases b
        · go_wp2_with fail
          go_roundw
          case rel => exact ⟨k + 1, by omega, by go_num, zs, HZ.out, ((Law.drawn (ts := [_, _, _]) HLC.out (Chg.refl _ _) ((Law.cur (HLC.out.tl.tl.tl)).more (by omega)) : Law w0 ([tBox bb (.int .i64 r) (.int .i64 m) (.slice (some ⟨g, 0, none⟩) r cap), tOwn (.slice (some ⟨g, 0, none⟩) r cap) zs, tHas w.heap.size [.int .i64 0, .int .i64 0, .slice none 0 0] 28] ++ tCur bc a n p (K + 6 * (k + 1)) :: ts) _))⟩
          case measure => simp [intOf]; omega
        · have HP2 := Lib.hid (fun W (L : Law w0 ([tBox bb (.int .i64 r) (.int .i64 m) (.slice (some ⟨g, 0, none⟩) r cap), tOwn (.slice (some ⟨g, 0, none⟩) r cap) zs, tHas w.heap.size [.int .i64 0, .int .i64 0, .slice none 0 0] 28] ++ tCur bc a n p (K + 6 * k + 2 + 2) :: ts) W) => pick_law HS.out ((m : Int) + 1) (by omega) hK3 L)
          have HLd : Hid (Law w0 ([tBox bb (.int .i64 r) (.int .i64 m) (.slice (some ⟨g, 0, none⟩) r cap), tOwn (.slice (some ⟨g, 0, none⟩) r cap) zs, tHas w.heap.size [.int .i64 0, .int .i64 0, .slice none 0 0] 28] ++ tCur bc a n p (K + 6 * k + 2 + 2) :: ts) wC.drew) := Lib.hid HLC.out.drew
          have j2 : wC.drew.cell? ⟨bb, 2, none⟩ = some (.slice (some ⟨g, 0, none⟩) r cap) := k2
          have hmw : IntKind.i64.wrap ((m : Int) + 1) = (m : Int) + 1 := IntWalk.i64_in _ (by omega)
          go_wp2_with fail
          go_region_held3 (fun w' => w'.cell? ⟨bb, 2, none⟩ = some (.slice (some ⟨g, 0, none⟩) r cap)) (first | exact j2 | exact k2 | exact (World.cell?_setCell_other _ _ _ _ (by intro e; injection e with e1; first | exact hgb e1 | exact hgb2 e1)).trans j2) ((first
            | (go_at_call 83; ((with_reducible refine (HP2.out _ HLd.out).mono ?_); rintro rr wD ⟨x2, x20, x21, rfl, LA⟩; clear HLd j2; obtain ⟨_, _, _, j2, _⟩ := Law.ownBox LA; obtain ⟨y1, y2⟩ := HCZ.out _ _ LA; have HLA := Lib.hid LA; clear LA; obtain ⟨q2, hq2⟩ := Int.eq_ofNat_of_zero_le x20; subst hq2; have hq64 : (q2 : Int) < 64 := by omega))
            | fail))
          all_goals
            have hS2 := fun V : Int => Law.store (ts := [_]) (show Law w0 ([tBox bb (.int .i64 r) (.int .i64 m) (.slice (some ⟨g, 0, none⟩) r cap)] ++ tOwn (.slice (some ⟨g, 0, none⟩) r cap) zs :: (tHas w.heap.size [.int .i64 0, .int .i64 0, .slice none 0 0] 28 :: tCur bc a n p (K + 6 * k + 2 + 2 + 2) :: ts)) _ from HLA.out) HZ.out k V
            have HS2 := Lib.hid hS2
            clear hS2
            go_wp2_with fail
            go_roundw
            case rel =>
              refine ⟨k + 1, by omega, by go_num, ?_⟩
              have e : K + 6 * (k + 1) = K + 6 * k + 2 + 2 + 2 := by omega
              rw [e]
              exact ⟨_, (List.length_set ..).trans HZ.out, HS2.out _⟩
            case measure => simp [intOf]; omega
    · obtain rfl : k = r := by omega
      have ⟨_, m0, m1, m2, _⟩ := L.ownBox
      have hH : Has wr w.heap.size [.int .i64 0, .int .i64 0, .slice none 0 0] 28 := L.tl.tl.ownHas
      have ⟨r0, r1, r2, _⟩ := hH.three
      have L1 := Law.setHas (ts := [_, _]) (show Law w0 ([tBox bb (.int .i64 k) (.int .i64 m) (.slice (some ⟨g, 0, none⟩) k cap), tOwn (.slice (some ⟨g, 0, none⟩) k cap) ys] ++ tHas w.heap.size [.int .i64 0, .int .i64 0, .slice none 0 0] 28 :: (tCur bc a n p (K + 6 * k) :: ts)) wr from L) 0 (.int .i64 k)
      have L2 := Law.setHas L1 1 (.int .i64 m)
      have L3 := Law.setHas L2 2 (.slice (some ⟨g, 0, none⟩) k cap)
      have HF := Lib.hid L3
      have HY := Lib.hid hys
      clear L hlt L1 L2 L3 hys hH
      go_wp2_with fail
      refine bodyPost_ret (v := .agg #[.int .i64 k, .int .i64 m, .slice (some ⟨g, 0, none⟩) k cap]) (by simp [results, Try.results129, go_sem, r0, r1, r2]) rfl ⟨g, cap, ys, rfl, HY.out, ?_⟩
      have L4 := Law.drop2 HF.out.tl
      exact Law.drawn (ts := [_]) L4 (Chg.refl _ _) ((Law.cur L4.tl).more (by omega))
end Go.Proofs.Ytakdiiccdkjjcac
end

section
namespace Go.Proofs.Ytakdiiccdkjjcac
open Go.RowKit Go.WideShapes

theorem Law.perm {w0 w : World} {ts ts' : List Thing} (h : Law w0 ts w) (hp : ts.Perm ts') : Law w0 ts' w :=
  ⟨h.below, fun t ht => h.holds t (hp.mem_iff.2 ht), fun t ht => h.range t (hp.mem_iff.2 ht), h.dis.perm hp (fun h k e1 e2 => h k e2 e1)⟩
/-- The outer row alone. -/
def tRowO (v : Value) (vs : List Value) : Thing :=
  ⟨fun k => v.ownBlock = some k, fun w => w.ownsRow 0 22 1 v vs.length vs, fun _ _ _ hk h => by
    refine ⟨h.1, ?_⟩
    rcases h.2 with h2 | ⟨g, cap, cur, hv, hg, hh, r⟩
    · exact .inl h2
    · exact .inr ⟨g, cap, cur, hv, hg, by rw [hk g (by rw [hv]; rfl)]; exact hh, r⟩⟩
/-- The rows, each a thing. -/
def tRows (vs : List Value) (rss : List (List Int)) : List Thing := (vs.zip rss).map fun p => tOwn p.1 p.2
theorem tRows_foot {vs : List Value} {rss : List (List Int)} {t : Thing} (h : t ∈ tRows vs rss) : ∃ u r, (u, r) ∈ vs.zip rss ∧ t = tOwn u r := by
  unfold tRows at h
  obtain ⟨p, hp, rfl⟩ := List.mem_map.1 h
  exact ⟨p.1, p.2, hp, rfl⟩
theorem Law.apartM {w0 w : World} {ts : List Thing} {v : Value} {vs : List Value} {rss : List (List Int)} (h : Law w0 (tM v vs rss :: ts) w) : Law w0 (tRowO v vs :: (tRows vs rss ++ ts)) w := by
  have hM := h.ownM
  have hr := h.range (tM v vs rss) (by simp)
  have hd := List.pairwise_cons.1 h.dis
  have hfo : ∀ t ∈ tRows vs rss, ∀ k, t.foot k → (tM v vs rss).foot k := fun t ht k hk => by
    obtain ⟨u, r, hm, rfl⟩ := tRows_foot ht
    exact .inr ⟨u, (List.of_mem_zip hm).1, hk⟩
  refine ⟨h.below, ?_, ?_, ?_⟩
  · intro t ht
    rcases List.mem_cons.1 ht with rfl | ht
    · exact hM.outer
    · rcases List.mem_append.1 ht with ht | ht
      · obtain ⟨u, r, hm, rfl⟩ := tRows_foot ht
        exact hM.rows _ hm
      · exact h.holds t (by simp [ht])
  · intro t ht k hk
    rcases List.mem_cons.1 ht with rfl | ht
    · exact hr k (.inl hk)
    · rcases List.mem_append.1 ht with ht | ht
      · exact hr k (hfo t ht k hk)
      · exact h.range t (by simp [ht]) k hk
  · refine List.pairwise_cons.2 ⟨fun t ht k e1 e2 => ?_, ?_⟩
    · rcases List.mem_append.1 ht with ht | ht
      · obtain ⟨u, r, hm, rfl⟩ := tRows_foot ht
        exact hM.apart u (List.of_mem_zip hm).1 k e2 e1
      · exact hd.1 t ht k (.inl e1) e2
    · rw [List.pairwise_append]
      refine ⟨?_, hd.2, fun a ha b hb k e1 e2 => hd.1 b hb k (hfo a ha k e1) e2⟩
      unfold tRows
      rw [List.pairwise_map]
      have hp := hM.dis
      have : (vs.zip rss).Pairwise (fun p q => ∀ k, p.1.ownBlock = some k → q.1.ownBlock ≠ some k) := by
        have h2 : ((vs.zip rss).map Prod.fst).Pairwise (fun a b => ∀ k, a.ownBlock = some k → b.ownBlock ≠ some k) := by
          rw [List.map_fst_zip (by rw [hM.len]; exact Nat.le_refl _)]
          exact hp
        rwa [List.pairwise_map] at h2
      exact this
theorem tRows_cons (vs : List Value) (rss : List (List Int)) (k : Nat) (h1 : k < vs.length) (h2 : k < rss.length) : tRows (vs.drop k) (rss.drop k) = tOwn vs[k] rss[k] :: tRows (vs.drop (k + 1)) (rss.drop (k + 1)) := by
  unfold tRows
  rw [List.drop_eq_getElem_cons h1, List.drop_eq_getElem_cons h2]
  rfl
theorem filt_yes (L : List (List Int)) (p : List Int → Bool) (k : Nat) (hk : k < L.length) (h : p L[k] = true) : (L.take k).filter p ++ [L[k]] = (L.take (k + 1)).filter p := by
  rw [List.take_succ_eq_append_getElem hk, List.filter_append]
  simp [h]
theorem filt_no (L : List (List Int)) (p : List Int → Bool) (k : Nat) (hk : k < L.length) (h : p L[k] = false) : (L.take k).filter p = (L.take (k + 1)).filter p := by
  rw [List.take_succ_eq_append_getElem hk, List.filter_append]
  simp [h]

end Go.Proofs.Ytakdiiccdkjjcac
end
