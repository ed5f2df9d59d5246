import Derived.Test.YtdgkcfpfldaopaaFold34
import Derived.Test.YtdgkcfpfldaopaaFold28
import Derived.Test.YtdgkcfpfldaopaaFold10
import Derived.Test.YtdgkcfpfldaopaaFold8
import Derived.Test.YtdgkcfpfldaopaaFold4
import Derived.Deep.RegionHeld3
import Derived.Deep.RegionWith
import Derived.IntWalk
import Derived.Laws.EntriesVeiled

section
namespace Go.Proofs.Ytdgkcfpfldaopaa
open Go.RowKit Go.WideShapes

def allwR (xs : List Int) : MR := if lenB xs then ⟨lstR (xs.length + 1) (wts xs xs.length), true⟩ else ⟨[], false⟩
theorem total_map (l : List Nat) (g : Nat → List Int) (B : Nat) (h : ∀ k, (g k).length ≤ B) : total (l.map g) ≤ l.length * B := by
  induction l with
  | nil => simp [total]
  | cons a t ih =>
    have := h a
    rw [List.map_cons, List.length_cons, Nat.succ_mul, total_cons]
    omega
theorem allwR_len (xs : List Int) : (allwR xs).zz.length ≤ 1048576 ∧ total (allwR xs).zz ≤ 1048576 := by
  unfold allwR
  split
  · rename_i h
    obtain ⟨l1, l2, l3, l4, l5⟩ := len_facts h
    refine ⟨by show (lstR _ _).length ≤ _; rw [lstR_len]; omega, ?_⟩
    have := total_map (List.range (xs.length + 1)) (wts xs xs.length) 37 (fun k => by have := wts_len xs (fun k => (l3 k).2) xs.length k; omega)
    rw [List.length_range] at this
    show total (lstR _ _) ≤ _
    unfold lstR
    omega
  · simp [total]

set_option maxRecDepth 100000 in
set_option maxHeartbeats 1600000 in
theorem implAllw_any (xs : List Int) (w : World) (hx : xs.length ≤ 1048576) (lo : Nat) (s : Value) (hO : Own w lo s xs) :
    Calls Try.prog 33 #[s] w (AnsM (allwR xs) w) := by
  have L0 := Law.start w
  obtain ⟨a, p, rfl, hr⟩ := hO.reads
  clear hO
  cases hg : lenB xs
  · rw [show allwR xs = ⟨[], false⟩ by simp [allwR, hg]]
    have HC := Lib.hid (lengthsOf_no a p xs _ hx hr hg)
    clear hg hr
    go_enter Try.func33, Try.ntmps33
    go_wp2_with fail
    refine HC.out.mono ?_
    rintro e w2 ⟨rfl, hb⟩
    have HB := Lib.hid (below_on hb (below_new (.cells #[.int .i64 0, .int .i64 0, .int .i64 0, .int .i64 0, .int .i64 0, .int .i64 0, .int .i64 0] 59)))
    clear hb HC
    go_wp2_with fail
    go_ret2
    exact ⟨_, _, rfl, OwnM.nil _ _, HB.out⟩
  · obtain ⟨l1, l2, l3, _⟩ := len_facts hg
    have hc := lengthsOf_yes a p xs _ hx hr hg
    obtain ⟨n, hn⟩ : ∃ n, n = xs.length := ⟨_, rfl⟩
    rw [show allwR xs = ⟨lstR (n + 1) (wts xs n), true⟩ by rw [hn]; simp [allwR, hg]]
    obtain ⟨M, hM⟩ : ∃ M : Nat → Int, M = fun k => xs.getD k 0 := ⟨_, rfl⟩
    rw [← hM] at hc
    rw [← hn] at hc hr ⊢
    have HC := Lib.hid hc
    have HA := Lib.hid (fun W => allWeights_any n xs M W hn hM hg)
    clear hg hr hM hc l3 hn l1 l2
    generalize lstR (n + 1) (wts xs n) = zz at *
    go_enter Try.func33, Try.ntmps33
    go_wp2_with fail
    refine HC.out.mono ?_
    rintro e w2 ⟨rfl, hb⟩
    have L2 := (L0.kept hb).has (sl n M) 59
    rw [show w2.alloc (.cells (sl n M).toArray 59) = w2.alloc (.cells #[.int .i64 n, .int .i64 (M 0), .int .i64 (M 1), .int .i64 (M 2), .int .i64 (M 3), .int .i64 (M 4), .int .i64 (M 5)] 59) from rfl] at L2
    have HL2 := Lib.hid L2
    clear hb L2 HC L0
    go_upto_region 2 with fail
    generalize w2.alloc _ = w5 at *
    have ⟨e0, e1, e2, e3, e4, e5, e6, _⟩ := HL2.out.ownHas.seven
    go_wp2_with fail
    refine (HA.out _).mono ?_
    rintro e w6 ⟨g, vs, rfl, hO, hb⟩
    have HF := Lib.hid (And.intro (hO.lower HL2.out.below.size) (HL2.out.kept hb).below)
    clear hO hb HL2 HA
    go_wp2_with fail
    go_ret2
    exact ⟨_, vs, rfl, HF.out.1, HF.out.2⟩
set_option maxRecDepth 100000 in
set_option maxHeartbeats 1600000 in
theorem specAllw_any (xs : List Int) (w : World) (hx : xs.length ≤ 1048576) (lo : Nat) (s : Value) (hO : Own w lo s xs) :
    Calls Try.prog 32 #[s] w (AnsM (allwR xs) w) := by
  obtain ⟨a, p, rfl, hr⟩ := hO.reads
  clear hO
  have HG := Lib.hid (feGood_any a p xs w hx hr)
  cases hg : lenB xs
  · rw [show allwR xs = ⟨[], false⟩ by simp [allwR, hg]]
    rw [hg] at HG
    clear hg hr
    go_enter Try.func32, Try.ntmps32
    go_wp2_with fail
    refine HG.out.mono ?_
    rintro e w2 ⟨rfl, hb⟩
    have HB := Lib.hid hb
    clear hb
    go_wp2_with fail
    go_ret2
    exact ⟨_, _, rfl, OwnM.nil _ _, HB.out⟩
  · obtain ⟨l1, l2, l3, _⟩ := len_facts hg
    rw [hg] at HG
    rw [show allwR xs = ⟨lstR (xs.length + 1) (wts xs xs.length), true⟩ by simp [allwR, hg]]
    have HA := Lib.hid (fun W h => weAll_any xs a p W l1 l2 l3 h)
    have HR := Lib.hid hr
    clear hg hr l3 l1 l2
    generalize lstR (xs.length + 1) (wts xs xs.length) = zz at *
    go_enter Try.func32, Try.ntmps32
    go_wp2_with fail
    refine HG.out.mono ?_
    rintro e w2 ⟨rfl, hb⟩
    have HB := Lib.hid hb
    clear hb
    go_wp2_with fail
    refine (HA.out _ (HR.out.kept HB.out)).mono ?_
    rintro e w6 ⟨g, vs, rfl, hO, hb⟩
    have HF := Lib.hid (And.intro (hO.lower HB.out.size) (below_on HB.out hb))
    clear hO hb HA
    go_wp2_with fail
    go_ret2
    exact ⟨_, vs, rfl, HF.out.1, HF.out.2⟩
end Go.Proofs.Ytdgkcfpfldaopaa
end

section
namespace Go.Proofs.Ytdgkcfpfldaopaa
open Go.RowKit Go.WideShapes

theorem Has.two {w : World} {b : Nat} {v0 v1 : Value} {t : TypeId} (h : Has w b [v0, v1] t) :
    w.cell? ⟨b, 0, none⟩ = some v0 ∧ w.cell? ⟨b, 1, none⟩ = some v1 ∧ ∀ o, w.frozen? ⟨b, o, none⟩ = false :=
  ⟨h.cell 0, h.cell 1, h.free⟩
/-- The block of a sum. -/
abbrev sumV (F : FuncId) (cap : Array Value) (t : Int) : List Value := [.func (.func F) #[] cap, .int .i64 t]

set_option maxRecDepth 100000 in
set_option maxHeartbeats 3200000 in
theorem add_any (b : Nat) (F : FuncId) (cap : Array Value) (t x v : Int) (w : World)
    (hcall : ∀ (args : Array Value) (w : World), (callFunc F args).run Try.prog w = .ok (.enter F args) w)
    (H : Has w b (sumV F cap t) 119)
    (hF : ∀ w', Below w.heap.size w w' → Calls Try.prog F (#[.int .i64 x] ++ cap) w' fun e w'' => e = .returned (.int .i64 v) ∧ Below w'.heap.size w' w'')
    (hs : IntKind.i64.wrap (t + v) = t + v) :
    Calls Try.prog 117 #[.pointer (some ⟨b, 0, none⟩), .int .i64 x] w fun e w' => e = .returned (.bool true) ∧ Chg (fun k => k = b) w w' ∧ Has w' b (sumV F cap (t + v)) 119 := by
  have hlt := H.lt
  obtain ⟨e0, e1, ef⟩ := (show Has w.drew b (sumV F cap t) 119 from H.drew).two
  have HF := Lib.hid hF
  have HH := Lib.hid H
  clear H hF
  go_enter Try.func117, Try.ntmps117
  go_wp2_with fail
  go_region_with (((refine (HF.out _ (Below.refl _ _).drew).mono ?_); rintro e w1 ⟨rfl, hb⟩; have m0 := cell_later hb e0; have m1 := cell_later hb e1; have mf := (hb.frozen (p := ⟨b, 1, none⟩) hlt).trans (ef 1); have HB := Lib.hid hb; clear hb))
  all_goals
    have HN := Lib.hid (((HH.out.drew).kept HB.out hlt).set 1 (.int .i64 (t + v)))
    have HCg := Lib.hid (show Chg (fun k => k = b) w (w1.setCell ⟨b, 1, none⟩ (.int .i64 (t + v))) from ((Chg.of_below (Below.refl _ _).drew).trans (Chg.of_below HB.out)).trans ⟨rfl, rfl, rfl, by simp [World.setCell], fun k _ hf => Below.heap_setCell w1 ⟨b, 1, none⟩ _ k hf⟩)
    go_wp2_with fail
    go_ret
    exact ⟨rfl, HCg.out, HN.out⟩


set_option maxRecDepth 100000 in
set_option maxHeartbeats 1600000 in
theorem sumOfTerms_any (n : Nat) (F : FuncId) (cap : Array Value) (f : Nat → Int) (w : World) (hn : n ≤ 1048576)
    (hcall : ∀ (args : Array Value) (w : World), (callFunc F args).run Try.prog w = .ok (.enter F args) w)
    (hF : ∀ j, j < n → ∀ w', Below w.heap.size w w' → Calls Try.prog F (#[.int .i64 j] ++ cap) w' fun e w'' => e = .returned (.int .i64 (f j)) ∧ Below w'.heap.size w' w'')
    (hs : ∀ j, j < n → IntKind.i64.wrap (sumT f j + f j) = sumT f j + f j) :
    Calls Try.prog 82 #[.int .i64 n, .func (.func F) #[] cap] w fun e w' => e = .returned (.int .i64 (sumT f n)) ∧ Below w.heap.size w w' := by
  have L0 := (Law.start w).has (sumV F cap 0) 119
  have HL := Lib.hid L0
  have HF := Lib.hid hF
  have HW := Lib.hid hs
  clear L0 hF hs
  go_enter Try.func82, Try.ntmps82
  go_wp2_with fail
  go_loopw [6] (fun v wr => ∃ j : Nat, j ≤ n ∧ v = .int .i64 j ∧ Law w [tHas w.heap.size (sumV F cap (sumT f j)) 119] wr) (fun v _ => n - (intOf v).toNat)
  case atStart => exact ⟨0, Nat.zero_le _, rfl, HL.out⟩
  case round =>
    clear HL
    obtain ⟨j, hj, rfl, L⟩ := hrel
    by_cases hlt : j < n
    · have HA := Lib.hid (add_any w.heap.size F cap (sumT f j) j (f j) wr hcall L.ownHas (fun w' hb => HF.out j hlt w' (below_on L.below hb)) (HW.out j hlt))
      have HL := Lib.hid L
      clear L
      go_wp2_with fail
      refine HA.out.mono ?_
      rintro e w2 ⟨rfl, hc, hh⟩
      have HS := Lib.hid (Law.write (ts := []) (t := tHas w.heap.size (sumV F cap (sumT f j)) 119) HL.out hc (tHas w.heap.size (sumV F cap (sumT f (j + 1))) 119) rfl hh)
      clear hc hh HA HL
      go_wp2_with fail
      go_roundw
      case rel => exact ⟨j + 1, by omega, by go_num, HS.out⟩
      case measure => simp [intOf]; omega
    · obtain rfl : j = n := by omega
      obtain ⟨e0, e1, _⟩ := L.ownHas.two
      have HB := Lib.hid L.below
      clear L
      go_wp2_with fail
      go_ret
      exact ⟨rfl, HB.out⟩

end Go.Proofs.Ytdgkcfpfldaopaa
end

section
namespace Go.Proofs.Ytdgkcfpfldaopaa
open Go.RowKit Go.WideShapes

/-- The field of q elements. -/
def fV (q : Nat) : Value := if q = 3 then .iface 117 (.agg #[]) else .iface 116 (.agg #[])
abbrev fV2 : Value := .iface 116 (.agg #[])
abbrev fV3 : Value := .iface 117 (.agg #[])
/-- 2 or 3. -/
def isQ (q : Int) : Bool := decide (q = 2) || decide (q = 3)
theorem isQ_cases {q : Int} (h : isQ q = true) : q = 2 ∨ q = 3 := by simpa [isQ] using h

theorem fieldOf_no (q : Int) (w : World) (h : isQ q = false) : Calls Try.prog 78 #[.int .i64 q] w fun e w' => e = .returned (.tuple #[.nilIface, .bool false]) ∧ w = w' := by
  have h2 : (q == 2) = false := by rw [beq_eq_false_iff_ne]; intro e; subst e; cases h
  have h3 : (q == 3) = false := by rw [beq_eq_false_iff_ne]; intro e; subst e; cases h
  clear h
  go_enter Try.func78, Try.ntmps78
  go_wp2
  go_ret2
  exact ⟨rfl, rfl⟩
theorem fieldOf_2 (w : World) : Calls Try.prog 78 #[.int .i64 2] w fun e w' => e = .returned (.tuple #[fV2, .bool true]) ∧ w = w' := by
  go_enter Try.func78, Try.ntmps78
  go_wp2
  go_ret2
  exact ⟨rfl, rfl⟩
theorem fieldOf_3 (w : World) : Calls Try.prog 78 #[.int .i64 3] w fun e w' => e = .returned (.tuple #[fV3, .bool true]) ∧ w = w' := by
  go_enter Try.func78, Try.ntmps78
  go_wp2
  go_ret2
  exact ⟨rfl, rfl⟩

theorem size_2 (w : World) : Calls Try.prog 172 #[.agg #[]] w fun e w' => e = .returned (.int .i64 2) ∧ Below w.heap.size w w' := by
  have hb := below_new (w := w) (.cells #[] 116)
  go_enter Try.func172, Try.ntmps172
  go_wp2
  go_ret
  exact ⟨rfl, hb⟩
theorem size_3 (w : World) : Calls Try.prog 176 #[.agg #[]] w fun e w' => e = .returned (.int .i64 3) ∧ Below w.heap.size w w' := by
  have hb := below_new (w := w) (.cells #[] 117)
  go_enter Try.func176, Try.ntmps176
  go_wp2
  go_ret
  exact ⟨rfl, hb⟩
theorem meth_size2 (w : World) : (method 259 116 (.agg #[]) "loop.example/g01125/impl.size").run Try.prog w = .ok (172, .agg #[]) w := by kernel_rfl
theorem meth_size3 (w : World) : (method 259 117 (.agg #[]) "loop.example/g01125/impl.size").run Try.prog w = .ok (176, .agg #[]) w := by kernel_rfl

/-- A power of 2 or 3, of whatever exponent up to 39. -/
theorem pow23_bd : ∀ q : Fin 4, ∀ k : Fin 40, 0 ≤ (((q : Nat) : Int)) ^ (k : Nat) ∧ (((q : Nat) : Int)) ^ (k : Nat) ≤ 4052555153018976267 := by decide +kernel
theorem pow23_in (q k : Nat) (hq : q ≤ 3) (hk : k ≤ 39) : 0 ≤ (q : Int) ^ k ∧ (q : Int) ^ k ≤ 4052555153018976267 := pow23_bd ⟨q, by omega⟩ ⟨k, by omega⟩
set_option maxHeartbeats 800000 in
theorem powerq_any (q : Nat) (hq : q ≤ 3) (k : Nat) (w : World) (hk : k ≤ 39) : Calls Try.prog 90 #[.int .i64 q, .int .i64 k] w fun e w' => e = .returned (.int .i64 ((q : Int) ^ k)) ∧ w' = w := by
  have HX := Lib.hid (fun k hk => pow23_in q k hq hk)
  clear hq
  go_enter Try.func90, Try.ntmps90
  go_wp2_with fail
  go_loop [5, 6] (fun t i => ∃ j : Nat, j ≤ k ∧ i = .int .i64 j ∧ t = .int .i64 ((q : Int) ^ j)) (fun _ i => k - (intOf i).toNat)
  case atStart => exact ⟨0, Nat.zero_le _, rfl, by simp⟩
  case round =>
    obtain ⟨j, hj, rfl, rfl⟩ := hrel
    by_cases hlt : j < k
    · have h1 := HX.out (j + 1) (by omega)
      have hm : wrap64 ((q : Int) ^ j * q) = (q : Int) ^ (j + 1) := by rw [show (q : Int) ^ j * q = (q : Int) ^ (j + 1) from (Int.pow_succ _ j).symm]; exact IntWalk.wrap64_in _ (by omega)
      clear h1
      go_wp2_with fail
      go_round
      case rel => exact ⟨j + 1, by omega, by go_num, by first | rfl | rw [hm]⟩
      case measure => simp [intOf]; omega
    · obtain rfl : j = k := by omega
      go_wp2_with fail
      go_ret
      exact ⟨rfl, rfl⟩
/-- .. and of a negative one. -/
theorem power_neg (x k : Int) (w : World) (hk : k ≤ 0) : Calls Try.prog 90 #[.int .i64 x, .int .i64 k] w fun e w' => e = .returned (.int .i64 1) ∧ w' = w := by
  have hk' : ¬ (0 : Int) < k := by omega
  go_enter Try.func90, Try.ntmps90
  go_wp2_with fail
  go_loop [5, 6] (fun t i => i = .int .i64 0 ∧ t = .int .i64 1) (fun _ _ => 0)
  case atStart => exact ⟨rfl, rfl⟩
  case round =>
    obtain ⟨rfl, rfl⟩ := hrel
    go_wp2_with fail
    go_ret
    exact ⟨rfl, rfl⟩

set_option maxRecDepth 100000 in
theorem bracket1_any (q : Nat) (hq : q = 2 ∨ q = 3) (b k : Nat) (w : World) (hk : k ≤ 39) (hb : w.cell? ⟨b, 0, none⟩ = some (fV q)) :
    Calls Try.prog 116 (#[.int .i64 k] ++ #[.pointer (some ⟨b, 0, none⟩)]) w fun e w' => e = .returned (.int .i64 ((q : Int) ^ k)) ∧ Below w.heap.size w w' := by
  have HP := Lib.hid (fun W => powerq_any q (by omega) k W hk)
  rcases hq with rfl | rfl
  · rw [show fV 2 = fV2 from rfl] at hb
    have hm := fun w => meth_size2 w
    have HS := Lib.hid size_2
    simp only [show ((2 : Nat) : Int) = 2 from rfl] at HP ⊢
    go_enter Try.func116, Try.ntmps116
    go_wp2_with fail
    refine (HS.out _).mono ?_
    rintro e w1 ⟨rfl, hb1⟩
    have HB := Lib.hid hb1
    clear hb1 hb
    go_wp2_with fail
    refine (HP.out _).mono ?_
    rintro e w' ⟨rfl, hww⟩
    subst hww
    go_wp2_with fail
    go_ret
    exact ⟨rfl, HB.out⟩
  · rw [show fV 3 = fV3 from rfl] at hb
    have hm := fun w => meth_size3 w
    have HS := Lib.hid size_3
    simp only [show ((3 : Nat) : Int) = 3 from rfl] at HP ⊢
    go_enter Try.func116, Try.ntmps116
    go_wp2_with fail
    refine (HS.out _).mono ?_
    rintro e w1 ⟨rfl, hb1⟩
    have HB := Lib.hid hb1
    clear hb1 hb
    go_wp2_with fail
    refine (HP.out _).mono ?_
    rintro e w' ⟨rfl, hww⟩
    subst hww
    go_wp2_with fail
    go_ret
    exact ⟨rfl, HB.out⟩
end Go.Proofs.Ytdgkcfpfldaopaa
end
