import Derived.Test.YtakdiiccdkjjcabFold21
import Derived.Test.YtakdiiccdkjjcabFold24
namespace Go.Proofs.Ytakdiiccdkjjcab
open Go.RowKit Go.WideShapes

theorem sv_zero : sv0 = sv 0 (fun _ => 0) := rfl
set_option maxRecDepth 100000 in
set_option maxHeartbeats 1600000 in
theorem over_yes (a : Option Addr) (p : Nat) (xs : List Int) (q : Nat) (w : World) (hx : xs.length ≤ 1048576) (hr : Reads w a xs.length xs) (hg : lenB xs = true) (hq : q = 2 ∨ q = 3) :
    Calls Try.prog 93 #[.slice a xs.length p, .int .i64 q] w fun e w' => e = .returned (.tuple #[sv xs.length (fun k => xs.getD k 0), fV q, .bool true]) ∧ Below w.heap.size w w' := by
  have L0 := (Law.start w).has (sl 0 (fun _ => 0)) 90
  rw [show w.alloc (.cells (sl 0 (fun _ => 0)).toArray 90) = w.alloc (.cells #[.int .i64 0, .int .i64 0, .int .i64 0, .int .i64 0, .int .i64 0, .int .i64 0, .int .i64 0] 90) from rfl] at L0
  have hc := lengthsOf_yes a p xs _ hx (L0.reads hr) hg
  have HF := Lib.hid (fun W => fieldOf_yes q hq W)
  obtain ⟨n, hn⟩ : ∃ n, n = xs.length := ⟨_, rfl⟩
  obtain ⟨M, hM⟩ : ∃ M : Nat → Int, M = fun k => xs.getD k 0 := ⟨_, rfl⟩
  rw [← hM, ← hn] at hc ⊢
  have HC := Lib.hid hc
  have HL := Lib.hid L0
  clear hc hr hg hq hM hn L0 hx
  generalize fV q = F at *
  go_enter Try.func93, Try.ntmps93
  go_wp2_with fail
  refine HC.out.mono ?_
  rintro e w2 ⟨rfl, hb⟩
  have L2 := (HL.out.kept hb).has (sl n M) 90
  rw [show w2.alloc (.cells (sl n M).toArray 90) = w2.alloc (.cells #[.int .i64 n, .int .i64 (M 0), .int .i64 (M 1), .int .i64 (M 2), .int .i64 (M 3), .int .i64 (M 4), .int .i64 (M 5)] 90) from rfl] at L2
  have HL2 := Lib.hid L2
  clear hb L2 HC HL
  go_upto_region 2 with fail
  generalize w2.alloc _ = w5 at *
  go_wp2_with fail
  refine (HF.out _).mono ?_
  rintro e w6 ⟨rfl, rfl⟩
  have hrow := HL2.out.ownHas.row
  obtain ⟨e0, e1, e2, e3, e4, e5, e6, _⟩ := HL2.out.ownHas.seven
  obtain ⟨f0, f1, f2, f3, f4, f5, f6, ff⟩ := HL2.out.tl.ownHas.seven
  have HB := Lib.hid HL2.out.below
  clear HL2 hrow
  go_wp2_with fail
  refine bodyPost_ret (v := .tuple #[sv n M, F, .bool true]) (by simp [results, Try.results93, go_sem, f0, f1, f2, f3, f4, f5, f6]) rfl ⟨rfl, ?_⟩
  have h2 := HB.out
  repeat (refine Below.setCell ?_ (by simp <;> omega) _)
  exact h2
set_option maxRecDepth 100000 in
set_option maxHeartbeats 1600000 in
theorem over_no (a : Option Addr) (p : Nat) (xs : List Int) (q : Int) (w : World) (hx : xs.length ≤ 1048576) (hr : Reads w a xs.length xs) (hg : (lenB xs && isQ q) = false) :
    Calls Try.prog 93 #[.slice a xs.length p, .int .i64 q] w fun e w' => (∃ u N F, e = .returned (.tuple #[sv u N, F, .bool false])) ∧ Below w.heap.size w w' := by
  have L0 := (Law.start w).has (sl 0 (fun _ => 0)) 90
  rw [show w.alloc (.cells (sl 0 (fun _ => 0)).toArray 90) = w.alloc (.cells #[.int .i64 0, .int .i64 0, .int .i64 0, .int .i64 0, .int .i64 0, .int .i64 0, .int .i64 0] 90) from rfl] at L0
  have hc : ∃ (u : Int) (N : Nat → Int), Calls Try.prog 88 #[.slice a xs.length p] (w.alloc (.cells #[.int .i64 0, .int .i64 0, .int .i64 0, .int .i64 0, .int .i64 0, .int .i64 0, .int .i64 0] 90)) fun e w' => e = .returned (.tuple #[sv u N, .bool (lenB xs)]) ∧ Below (w.alloc (.cells #[.int .i64 0, .int .i64 0, .int .i64 0, .int .i64 0, .int .i64 0, .int .i64 0, .int .i64 0] 90)).heap.size (w.alloc (.cells #[.int .i64 0, .int .i64 0, .int .i64 0, .int .i64 0, .int .i64 0, .int .i64 0, .int .i64 0] 90)) w' := by
    cases h : lenB xs
    · exact ⟨0, fun _ => 0, lengthsOf_no a p xs _ hx (L0.reads hr) h⟩
    · exact ⟨_, _, lengthsOf_yes a p xs _ hx (L0.reads hr) h⟩
  have hf : ∃ F, ∀ W, Calls Try.prog 133 #[.int .i64 q] W fun e w' => e = .returned (.tuple #[F, .bool (isQ q)]) ∧ W = w' := by
    cases h : isQ q
    · exact ⟨_, fun W => fieldOf_no q W h⟩
    · obtain ⟨n, rfl, hn⟩ := isQ_nat h
      exact ⟨_, fun W => fieldOf_yes n hn W⟩
  obtain ⟨u, M, hc⟩ := hc
  obtain ⟨F, hf⟩ := hf
  have HF := Lib.hid hf
  have HC := Lib.hid hc
  have HL := Lib.hid L0
  clear hc hr L0 hx hf
  generalize lenB xs = b1 at *
  generalize isQ q = b2 at *
  cases b1
  · clear hg
    go_enter Try.func93, Try.ntmps93
    go_wp2_with fail
    refine HC.out.mono ?_
    rintro e w2 ⟨rfl, hb⟩
    have L2 := (HL.out.kept hb).has (sl u M) 90
    rw [show w2.alloc (.cells (sl u M).toArray 90) = w2.alloc (.cells #[.int .i64 u, .int .i64 (M 0), .int .i64 (M 1), .int .i64 (M 2), .int .i64 (M 3), .int .i64 (M 4), .int .i64 (M 5)] 90) from rfl] at L2
    have HL2 := Lib.hid L2
    clear hb L2 HC HL
    go_upto_region 2 with fail
    generalize w2.alloc _ = w5 at *
    go_wp2_with fail
    refine (HF.out _).mono ?_
    rintro e w6 ⟨rfl, rfl⟩
    obtain ⟨e0, e1, e2, e3, e4, e5, e6, _⟩ := HL2.out.ownHas.seven
    obtain ⟨f0, f1, f2, f3, f4, f5, f6, ff⟩ := HL2.out.tl.ownHas.seven
    have HB := Lib.hid HL2.out.below
    clear HL2
    go_wp2_with fail
    refine bodyPost_ret (v := .tuple #[sv u M, F, .bool false]) (by simp [results, Try.results93, go_sem, f0, f1, f2, f3, f4, f5, f6]) rfl ⟨⟨_, _, _, rfl⟩, ?_⟩
    have h2 := HB.out
    repeat (refine Below.setCell ?_ (by simp <;> omega) _)
    exact h2
  · rw [Bool.true_and] at hg
    subst hg
    go_enter Try.func93, Try.ntmps93
    go_wp2_with fail
    refine HC.out.mono ?_
    rintro e w2 ⟨rfl, hb⟩
    have L2 := (HL.out.kept hb).has (sl u M) 90
    rw [show w2.alloc (.cells (sl u M).toArray 90) = w2.alloc (.cells #[.int .i64 u, .int .i64 (M 0), .int .i64 (M 1), .int .i64 (M 2), .int .i64 (M 3), .int .i64 (M 4), .int .i64 (M 5)] 90) from rfl] at L2
    have HL2 := Lib.hid L2
    clear hb L2 HC HL
    go_upto_region 2 with fail
    generalize w2.alloc _ = w5 at *
    go_wp2_with fail
    refine (HF.out _).mono ?_
    rintro e w6 ⟨rfl, rfl⟩
    obtain ⟨e0, e1, e2, e3, e4, e5, e6, _⟩ := HL2.out.ownHas.seven
    obtain ⟨f0, f1, f2, f3, f4, f5, f6, ff⟩ := HL2.out.tl.ownHas.seven
    have HB := Lib.hid HL2.out.below
    clear HL2
    go_wp2_with fail
    refine bodyPost_ret (v := .tuple #[sv u M, F, .bool false]) (by simp [results, Try.results93, go_sem, f0, f1, f2, f3, f4, f5, f6]) rfl ⟨⟨_, _, _, rfl⟩, ?_⟩
    have h2 := HB.out
    repeat (refine Below.setCell ?_ (by simp <;> omega) _)
    exact h2

set_option maxRecDepth 100000 in
set_option maxHeartbeats 1600000 in
theorem weAt_any (ys : List Int) (q : Nat) (a : Option Addr) (p : Nat) (w : World) (hl : ys.length ≤ 38) (hq : q ≤ 3) (hr : Reads w a ys.length ys)
    (ht : ∀ k, k < ys.length → wrap64 (trmW q ys k) = trmW q ys k) (hs : ∀ k, k < ys.length → wrap64 (sumT (trmW q ys) k + trmW q ys k) = sumT (trmW q ys) k + trmW q ys k) :
    Calls Try.prog 92 #[.slice a ys.length p, .int .i64 q] w fun e w' => e = .returned (.int .i64 (valW q ys)) ∧ w = w' := by
  have HX := Lib.hid (fun k (hk : k < ys.length) => pow_step q k hq (by omega))
  have HT := Lib.hid (fun k (hk : k < ys.length) => show wrap64 (ys.getD k 0 * (q : Int) ^ k) = trmW q ys k from ht k hk)
  have HS := Lib.hid hs
  have HR := Lib.hid hr
  clear hr ht hs hq
  unfold valW
  go_enter Try.func92, Try.ntmps92
  go_wp2_with fail
  go_loopw [5, 6, 11] (fun t u i wr => ∃ k : Nat, k ≤ ys.length ∧ i = .int .i64 k ∧ u = .int .i64 ((q : Int) ^ k) ∧ t = .int .i64 (sumT (trmW q ys) k) ∧ w = wr) (fun _ _ i _ => ys.length - (intOf i).toNat)
  case atStart => exact ⟨0, Nat.zero_le _, rfl, by simp, rfl, rfl⟩
  case round =>
    obtain ⟨k, hk, rfl, rfl, rfl, hww⟩ := hrel
    subst hww
    by_cases hlt : k < ys.length
    · obtain ⟨b, off, ha, hb0, hcc⟩ := reads_row HR.out (by omega)
      subst ha
      have hck := hcc k hlt
      have HF := Lib.hid (And.intro (HT.out k hlt) (And.intro (HS.out k hlt) (HX.out k hlt)))
      have HSU := Lib.hid (show sumT (trmW q ys) (k + 1) = sumT (trmW q ys) k + trmW q ys k from rfl)
      generalize ys.getD k 0 = y at *
      generalize sumT (trmW q ys) k = S at *
      clear hcc
      go_wp2_with fail
      go_roundw
      case rel => exact ⟨k + 1, by omega, by go_num, by rw [HF.out.2.2], by rw [HF.out.1, HF.out.2.1, HSU.out], by first | rfl | trivial⟩
      case measure => simp [intOf]; omega
    · obtain rfl : k = ys.length := by omega
      go_wp2_with fail
      go_ret
      exact ⟨rfl, rfl⟩
def askW (xs : List Int) (k : Int) : Bool := lenB xs && inB 0 k xs.length
set_option maxHeartbeats 800000 in
theorem weAsked_any (xs : List Int) (k : Int) (a : Option Addr) (p : Nat) (w : World) (hx : xs.length ≤ 1048576) (hr : Reads w a xs.length xs) :
    Calls Try.prog 90 #[.slice a xs.length p, .int .i64 k] w fun e w' => e = .returned (.bool (askW xs k)) ∧ Below w.heap.size w w' := by
  have HG := Lib.hid (feGood_any a p xs w hx hr)
  have HI := Lib.hid (l1In_any k 0 xs.length)
  cases hg : lenB xs
  · rw [hg] at HG
    rw [show askW xs k = false by simp [askW, hg]]
    clear hg hr
    go_enter Try.func90, Try.ntmps90
    go_wp2_with fail
    refine HG.out.mono ?_
    rintro e w2 ⟨rfl, hb⟩
    have HB := Lib.hid hb
    clear hb
    go_wp2_with fail
    go_ret
    exact ⟨rfl, HB.out⟩
  · rw [hg] at HG
    rw [show askW xs k = inB 0 k xs.length by simp [askW, hg]]
    clear hg hr
    generalize inB 0 k xs.length = bb at *
    go_enter Try.func90, Try.ntmps90
    go_wp2_with fail
    refine HG.out.mono ?_
    rintro e w2 ⟨rfl, hb⟩
    have HB := Lib.hid hb
    clear hb
    go_wp2_with fail
    refine (HI.out _).mono ?_
    rintro e w3 ⟨rfl, rfl⟩
    go_wp2_with fail
    go_ret
    exact ⟨rfl, HB.out⟩
end Go.Proofs.Ytakdiiccdkjjcab
