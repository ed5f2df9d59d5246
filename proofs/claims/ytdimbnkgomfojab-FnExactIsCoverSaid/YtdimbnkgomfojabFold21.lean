import Derived.Test.YtdimbnkgomfojabFold16
import Derived.Test.YtdimbnkgomfojabFold20
import Derived.Test.YtdimbnkgomfojabFold8
import Derived.Test.YtdimbnkgomfojabFold6
import Derived.Test.YtdimbnkgomfojabFold4
import Derived.IntWalk
import Derived.Deep.RegionHeld3
namespace Go.Proofs.Ytdimbnkgomfojab
open Go.RowKit Go.WideShapes

def mU (m : Nat) (B : Nat → Nat → Bool) (d f t c : Nat) : Nat := (List.range c).foldl (fun a c => if B f c && !t.testBit c then max a (1 + mR m B d (f + 1) (t ||| 2 ^ c)) else a) (mR m B d (f + 1) t)
theorem mU_succ (m : Nat) (B : Nat → Nat → Bool) (d f t c : Nat) : mU m B d f t (c + 1) = if B f c && !t.testBit c then max (mU m B d f t c) (1 + mR m B d (f + 1) (t ||| 2 ^ c)) else mU m B d f t c := by
  unfold mU
  rw [List.range_succ, List.foldl_append]
  rfl
theorem mU_le (m : Nat) (B : Nat → Nat → Bool) (d f t c : Nat) : mU m B d f t c ≤ d + 1 := by
  induction c with
  | zero => have := mR_le m B d (f + 1) t; show mR m B d (f + 1) t ≤ _; omega
  | succ c ih =>
    rw [mU_succ]
    split
    · have := mR_le m B d (f + 1) (t ||| 2 ^ c); omega
    · exact ih
theorem bit_off2 (t c : Nat) (ht : t < 64) (hc : c < 6) : (((t : Int) / 2 ^ c).tmod 2 == 0) = !t.testBit c := by
  have key : ∀ t : Fin 64, ∀ c : Fin 6, ((((t : Nat) : Int) / 2 ^ (c : Nat)).tmod 2 == 0) = !(t : Nat).testBit c := by decide +kernel
  exact key ⟨t, ht⟩ ⟨c, hc⟩
theorem bit_off3 (t c : Nat) (ht : t < 64) (hc : c < 6) : (((t : Int) / 2 ^ c) % 2 == 0) = !t.testBit c := by
  have key : ∀ t : Fin 64, ∀ c : Fin 6, ((((t : Nat) : Int) / 2 ^ (c : Nat)) % 2 == 0) = !(t : Nat).testBit c := by decide +kernel
  exact key ⟨t, ht⟩ ⟨c, hc⟩
theorem or_lt64 (t c : Nat) (ht : t < 64) (hc : c < 6) : t ||| 2 ^ c < 64 := Nat.or_lt_two_pow (n := 6) ht (Nat.pow_lt_pow_right (by omega) (by omega))

set_option maxRecDepth 100000 in
set_option maxHeartbeats 6400000 in
theorem lcMost_any (n m : Nat) (xs : List Int) (hx : xs.length ≤ 1048576) (hn : n ≤ 6) (hm : m ≤ 6) (hlen : xs.length = n) (hgc : ∀ k, 0 ≤ xs.getD k 0 ∧ xs.getD k 0 < 64) : ∀ (d f t : Nat), f + d = n → t < 64 → ∀ (w : World) (lo : Nat) (s : Value), Own w lo s xs →
    Calls Try.prog 103 #[.agg #[.int .i64 n, .int .i64 m, s], .int .i64 f, .int .i64 t] w fun e w' => e = .returned (.int .i64 (mR m (bt xs) d f t : Nat)) ∧ Below w.heap.size w w' := by
  have HG3 := Lib.hid hlen
  have HGC := Lib.hid hgc
  clear hlen hgc
  intro d
  induction d with
  | zero =>
    intro f t hf ht w lo s hO
    obtain rfl : f = n := by omega
    have L0 := (Law.start w).box (.int .i64 f) (.int .i64 m) s 28
    obtain ⟨_, k0, k1, k2, _⟩ := L0.ownBox
    obtain ⟨a, cap, rfl, _⟩ := hO.reads
    have HB := Lib.hid L0.below
    clear L0 hO
    go_enter Try.func103, Try.ntmps103
    go_wp2_with fail
    go_ret
    exact ⟨rfl, HB.out⟩
  | succ d ih =>
    intro f t hf ht w lo s hO
    have L0 := (Law.start w).box (.int .i64 n) (.int .i64 m) s 28
    have HO := Lib.hid hO
    obtain ⟨a, cap, rfl, _⟩ := hO.reads
    have hih : ∀ t : Nat, t < 64 → ∀ (W : World), Own W lo (.slice a xs.length cap) xs → Calls Try.prog 103 #[.agg #[.int .i64 n, .int .i64 m, .slice a xs.length cap], .int .i64 ((f : Int) + 1), .int .i64 t] W fun e w' => e = .returned (.int .i64 (mR m (bt xs) d (f + 1) t : Nat)) ∧ Below W.heap.size W w' := by
      intro t ht W hO
      have h := ih (f + 1) t (by omega) ht W lo _ hO
      rw [show ((f + 1 : Nat) : Int) = (f : Int) + 1 by push_cast; rfl] at h
      exact h
    have HIH := Lib.hid hih
    have HM : Hid (mR m (bt xs) (d + 1) f t = mU m (bt xs) d f t m) := Lib.hid rfl
    have HM0 : Hid (mR m (bt xs) d (f + 1) t = mU m (bt xs) d f t 0) := Lib.hid rfl
    have HSU := Lib.hid (mU_succ m (bt xs) d f t)
    have HLE := Lib.hid (mU_le m (bt xs) d f t)
    have HRL := Lib.hid (mR_le m (bt xs) d (f + 1))
    have hfn : (f : Int) ≠ n := by omega
    have hfl : f < n := by omega
    have hd6 : d ≤ 5 := by omega
    have HL := Lib.hid L0
    clear hO L0 ih hih hf
    obtain ⟨_, k0, k1, k2, _⟩ := HL.out.ownBox
    have hO1 := HO.out.kept HL.out.below
    go_enter Try.func103, Try.ntmps103
    go_upto_region 1 with fail
    generalize w.alloc (.cells #[.int .i64 n, .int .i64 m, .slice a xs.length cap] 28) = w5 at *
    go_wp2_with fail
    refine (HIH.out t ht _ hO1).mono ?_
    rintro e w2 ⟨rfl, hb⟩
    rw [HM0.out]
    have HL2 := Lib.hid (HL.out.kept hb)
    clear HL hb hO1 k0 k1 k2
    go_wp2_with fail
    go_loopw [7, 8] (fun v i wr => ∃ c : Nat, c ≤ m ∧ i = .int .i64 c ∧ v = .int .i64 (mU m (bt xs) d f t c : Nat) ∧ Law w [tBox w.heap.size (.int .i64 n) (.int .i64 m) (.slice a xs.length cap)] wr) (fun _ i _ => m - (intOf i).toNat)
    case atStart => exact ⟨0, Nat.zero_le _, rfl, rfl, HL2.out⟩
    case round =>
      clear HL2
      obtain ⟨c, hc, rfl, rfl, L⟩ := hrel
      obtain ⟨_, k0, k1, k2, _⟩ := L.ownBox
      have HL := Lib.hid L
      clear L
      by_cases hcm : c < m
      · have hcm' : (c : Int) < m := by omega
        have hsu := HSU.out c
        have hle := HLE.out c
        have hO1 := HO.out.kept HL.out.below
        have HH := Lib.hid (boHas_any n m xs f c _ (by have := HG3.out; omega) hx (by omega) (HGC.out f) lo _ hO1)
        have hc64 : (c : Int) < 64 := by omega
        have hc0 : (0 : Int) ≤ c := by omega
        cases hp : (xs.getD f 0).toNat.testBit c
        · rw [show bt xs f c = false from hp, Bool.false_and, if_neg (by simp)] at hsu
          rw [hp] at HH
          have HX := Lib.hid hsu
          clear hsu hp hO1
          go_wp2_with fail
          refine HH.out.mono ?_
          rintro e w2 ⟨rfl, hb⟩
          have HL2 := Lib.hid (HL.out.kept hb)
          clear HL hb k0 k1 k2 HH
          go_wp2_with fail
          go_roundw
          case rel => exact ⟨c + 1, by omega, by go_num, by rw [HX.out], HL2.out⟩
          case measure => simp [intOf]; omega
        · rw [show bt xs f c = true from hp, Bool.true_and] at hsu
          rw [hp] at HH
          have hb2 := bit_off2 t c ht (by omega)
          have hb3 := bit_off3 t c ht (by omega)
          cases hT : t.testBit c
          · rw [hT, Bool.not_false, if_pos rfl] at hsu
            rw [hT] at hb2 hb3
            simp only [Bool.not_false] at hb2 hb3
            have ht2 := or_lt64 t c ht (by omega)
            have hor := or_nat t c ht (by omega)
            have hor2 := or_nat2 t c ht (by omega)
            have hrl := HRL.out (t ||| 2 ^ c)
            have HI2 := Lib.hid (HIH.out (t ||| 2 ^ c) ht2)
            have hfw : IntKind.i64.wrap ((f : Int) + 1) = (f : Int) + 1 := IntWalk.i64_in _ (by omega)
            obtain ⟨y, hy⟩ : ∃ y, y = mR m (bt xs) d (f + 1) (t ||| 2 ^ c) := ⟨_, rfl⟩
            rw [← hy] at hsu hrl HI2
            obtain ⟨z, hz⟩ : ∃ z, z = mU m (bt xs) d f t c := ⟨_, rfl⟩
            rw [← hz] at hsu hle ⊢
            generalize (t ||| 2 ^ c) = t2 at *
            have HX := Lib.hid hsu
            have hyw : IntKind.i64.wrap (1 + (y : Int)) = 1 + (y : Int) := IntWalk.i64_in _ (by omega)
            clear hsu hp hT hy hz hO1
            go_wp2_with fail
            refine HH.out.mono ?_
            rintro e w2 ⟨rfl, hb⟩
            replace HL := Lib.hid (HL.out.kept hb).drew
            obtain ⟨_, e0, e1, e2, _⟩ := HL.out.ownBox
            clear hb k0 k1 k2 HH
            go_upto_region 8 with fail
            go_region_held3 (fun w' => w'.cell? ⟨w.heap.size, 0, none⟩ = some (.int .i64 n) ∧ w'.cell? ⟨w.heap.size, 1, none⟩ = some (.int .i64 m) ∧ w'.cell? ⟨w.heap.size, 2, none⟩ = some (.slice a xs.length cap)) (first | (repeat' apply And.intro) <;> first | with_reducible assumption | assumption | exact cell_later (below_new _) (by assumption)) ((first
              | (go_at_call 103; ((with_reducible refine (HI2.out _ (HO.out.kept HL.out.below)).mono ?_); rintro e wA ⟨rfl, hb⟩; replace HL := Lib.hid (HL.out.kept hb); replace e0 := cell_later hb e0; replace e1 := cell_later hb e1; replace e2 := cell_later hb e2; clear hb))
              | (go_at_call 85; ((with_reducible refine (l1Most_any _ _ _).mono ?_); rintro e wB ⟨rfl, rfl⟩))
              | fail))
            all_goals
              clear e0 e1 e2
              go_wp2_with fail
              go_roundw
              case rel => exact ⟨c + 1, by omega, by go_num, by rw [HX.out]; first | rfl | go_num | (congr 1; omega), HL.out⟩
              case measure => simp [intOf]; omega
          · rw [hT, Bool.not_true, if_neg (by simp)] at hsu
            rw [hT] at hb2 hb3
            simp only [Bool.not_true] at hb2 hb3
            have HX := Lib.hid hsu
            clear hsu hp hT hO1
            go_wp2_with fail
            refine HH.out.mono ?_
            rintro e w2 ⟨rfl, hb⟩
            have HL2 := Lib.hid (HL.out.kept hb)
            clear HL hb k0 k1 k2 HH
            go_wp2_with fail
            go_roundw
            case rel => exact ⟨c + 1, by omega, by go_num, by rw [HX.out], HL2.out⟩
            case measure => simp [intOf]; omega
      · obtain rfl : c = m := by omega
        have hcm' : ¬ (c : Int) < c := by omega
        have HB := Lib.hid HL.out.below
        go_wp2_with fail
        go_ret
        exact ⟨by first | (rw [HM.out]; done) | (rw [HM.out]; rfl), HB.out⟩

end Go.Proofs.Ytdimbnkgomfojab
