import Derived.Test.YtdgkcfpfldaopaaFold22
import Derived.Test.YtdgkcfpfldaopaaFold25
import Derived.Test.YtdgkcfpfldaopaaFold16
import Derived.IntWalk
import Derived.Test.YtdgkcfpfldaopaaFold11

section
namespace Go.Proofs.Ytdgkcfpfldaopaa
open Go.RowKit Go.WideShapes

theorem sv_zero : sv0 = sv 0 (fun _ => 0) := rfl
set_option maxRecDepth 100000 in
set_option maxHeartbeats 1600000 in
theorem over_yes (a : Option Addr) (p : Nat) (xs : List Int) (q : Nat) (w : World) (hx : xs.length ≤ 1048576) (hr : Reads w a xs.length xs) (hg : lenB xs = true) (hq : q = 2 ∨ q = 3) :
    Calls Try.prog 76 #[.slice a xs.length p, .int .i64 q] w fun e w' => e = .returned (.tuple #[sv xs.length (fun k => xs.getD k 0), fV q, .bool true]) ∧ Below w.heap.size w w' := by
  have L0 := (Law.start w).has (sl 0 (fun _ => 0)) 59
  rw [show w.alloc (.cells (sl 0 (fun _ => 0)).toArray 59) = w.alloc (.cells #[.int .i64 0, .int .i64 0, .int .i64 0, .int .i64 0, .int .i64 0, .int .i64 0, .int .i64 0] 59) from rfl] at L0
  have hc := lengthsOf_yes a p xs _ hx (L0.reads hr) hg
  have HF := Lib.hid (fun W => fieldOf_yes q hq W)
  obtain ⟨n, hn⟩ : ∃ n, n = xs.length := ⟨_, rfl⟩
  obtain ⟨M, hM⟩ : ∃ M : Nat → Int, M = fun k => xs.getD k 0 := ⟨_, rfl⟩
  rw [← hM, ← hn] at hc ⊢
  have HC := Lib.hid hc
  have HL := Lib.hid L0
  clear hc hr hg hq hM hn L0 hx
  generalize fV q = F at *
  go_enter Try.func76, Try.ntmps76
  go_wp2_with fail
  refine HC.out.mono ?_
  rintro e w2 ⟨rfl, hb⟩
  have L2 := (HL.out.kept hb).has (sl n M) 59
  rw [show w2.alloc (.cells (sl n M).toArray 59) = w2.alloc (.cells #[.int .i64 n, .int .i64 (M 0), .int .i64 (M 1), .int .i64 (M 2), .int .i64 (M 3), .int .i64 (M 4), .int .i64 (M 5)] 59) from rfl] at L2
  have HL2 := Lib.hid L2
  clear hb L2 HC HL
  go_upto_region 2 with fail
  generalize w2.alloc _ = w5 at *
  go_wp2_with fail
  refine (HF.out _).mono ?_
  rintro e w6 ⟨rfl, rfl⟩
  have hrow := HL2.out.ownHas.row
  obtain ⟨e0, e1, e2, e3, e4, e5, e6, _⟩ := HL2.out.ownHas.seven
  obtain ⟨f0, f1, f2, f3, f4, f5, f6, ff⟩ := HL2.out.tl.ownHas.seven
  have HB := Lib.hid HL2.out.below
  clear HL2 hrow
  go_wp2_with fail
  refine bodyPost_ret (v := .tuple #[sv n M, F, .bool true]) (by simp [results, Try.results76, go_sem, f0, f1, f2, f3, f4, f5, f6]) rfl ⟨rfl, ?_⟩
  have h2 := HB.out
  repeat (refine Below.setCell ?_ (by simp <;> omega) _)
  exact h2
set_option maxRecDepth 100000 in
set_option maxHeartbeats 1600000 in
theorem over_no (a : Option Addr) (p : Nat) (xs : List Int) (q : Int) (w : World) (hx : xs.length ≤ 1048576) (hr : Reads w a xs.length xs) (hg : (lenB xs && isQ q) = false) :
    Calls Try.prog 76 #[.slice a xs.length p, .int .i64 q] w fun e w' => (∃ u N F, e = .returned (.tuple #[sv u N, F, .bool false])) ∧ Below w.heap.size w w' := by
  have L0 := (Law.start w).has (sl 0 (fun _ => 0)) 59
  rw [show w.alloc (.cells (sl 0 (fun _ => 0)).toArray 59) = w.alloc (.cells #[.int .i64 0, .int .i64 0, .int .i64 0, .int .i64 0, .int .i64 0, .int .i64 0, .int .i64 0] 59) from rfl] at L0
  have hc : ∃ (u : Int) (N : Nat → Int), Calls Try.prog 55 #[.slice a xs.length p] (w.alloc (.cells #[.int .i64 0, .int .i64 0, .int .i64 0, .int .i64 0, .int .i64 0, .int .i64 0, .int .i64 0] 59)) fun e w' => e = .returned (.tuple #[sv u N, .bool (lenB xs)]) ∧ Below (w.alloc (.cells #[.int .i64 0, .int .i64 0, .int .i64 0, .int .i64 0, .int .i64 0, .int .i64 0, .int .i64 0] 59)).heap.size (w.alloc (.cells #[.int .i64 0, .int .i64 0, .int .i64 0, .int .i64 0, .int .i64 0, .int .i64 0, .int .i64 0] 59)) w' := by
    cases h : lenB xs
    · exact ⟨0, fun _ => 0, lengthsOf_no a p xs _ hx (L0.reads hr) h⟩
    · exact ⟨_, _, lengthsOf_yes a p xs _ hx (L0.reads hr) h⟩
  have hf : ∃ F, ∀ W, Calls Try.prog 78 #[.int .i64 q] W fun e w' => e = .returned (.tuple #[F, .bool (isQ q)]) ∧ W = w' := by
    cases h : isQ q
    · exact ⟨_, fun W => fieldOf_no q W h⟩
    · obtain ⟨n, rfl, hn⟩ := isQ_nat h
      exact ⟨_, fun W => fieldOf_yes n hn W⟩
  obtain ⟨u, M, hc⟩ := hc
  obtain ⟨F, hf⟩ := hf
  have HF := Lib.hid hf
  have HC := Lib.hid hc
  have HL := Lib.hid L0
  clear hc hr L0 hx hf
  generalize lenB xs = b1 at *
  generalize isQ q = b2 at *
  cases b1
  · clear hg
    go_enter Try.func76, Try.ntmps76
    go_wp2_with fail
    refine HC.out.mono ?_
    rintro e w2 ⟨rfl, hb⟩
    have L2 := (HL.out.kept hb).has (sl u M) 59
    rw [show w2.alloc (.cells (sl u M).toArray 59) = w2.alloc (.cells #[.int .i64 u, .int .i64 (M 0), .int .i64 (M 1), .int .i64 (M 2), .int .i64 (M 3), .int .i64 (M 4), .int .i64 (M 5)] 59) from rfl] at L2
    have HL2 := Lib.hid L2
    clear hb L2 HC HL
    go_upto_region 2 with fail
    generalize w2.alloc _ = w5 at *
    go_wp2_with fail
    refine (HF.out _).mono ?_
    rintro e w6 ⟨rfl, rfl⟩
    obtain ⟨e0, e1, e2, e3, e4, e5, e6, _⟩ := HL2.out.ownHas.seven
    obtain ⟨f0, f1, f2, f3, f4, f5, f6, ff⟩ := HL2.out.tl.ownHas.seven
    have HB := Lib.hid HL2.out.below
    clear HL2
    go_wp2_with fail
    refine bodyPost_ret (v := .tuple #[sv u M, F, .bool false]) (by simp [results, Try.results76, go_sem, f0, f1, f2, f3, f4, f5, f6]) rfl ⟨⟨_, _, _, rfl⟩, ?_⟩
    have h2 := HB.out
    repeat (refine Below.setCell ?_ (by simp <;> omega) _)
    exact h2
  · rw [Bool.true_and] at hg
    subst hg
    go_enter Try.func76, Try.ntmps76
    go_wp2_with fail
    refine HC.out.mono ?_
    rintro e w2 ⟨rfl, hb⟩
    have L2 := (HL.out.kept hb).has (sl u M) 59
    rw [show w2.alloc (.cells (sl u M).toArray 59) = w2.alloc (.cells #[.int .i64 u, .int .i64 (M 0), .int .i64 (M 1), .int .i64 (M 2), .int .i64 (M 3), .int .i64 (M 4), .int .i64 (M 5)] 59) from rfl] at L2
    have HL2 := Lib.hid L2
    clear hb L2 HC HL
    go_upto_region 2 with fail
    generalize w2.alloc _ = w5 at *
    go_wp2_with fail
    refine (HF.out _).mono ?_
    rintro e w6 ⟨rfl, rfl⟩
    obtain ⟨e0, e1, e2, e3, e4, e5, e6, _⟩ := HL2.out.ownHas.seven
    obtain ⟨f0, f1, f2, f3, f4, f5, f6, ff⟩ := HL2.out.tl.ownHas.seven
    have HB := Lib.hid HL2.out.below
    clear HL2
    go_wp2_with fail
    refine bodyPost_ret (v := .tuple #[sv u M, F, .bool false]) (by simp [results, Try.results76, go_sem, f0, f1, f2, f3, f4, f5, f6]) rfl ⟨⟨_, _, _, rfl⟩, ?_⟩
    have h2 := HB.out
    repeat (refine Below.setCell ?_ (by simp <;> omega) _)
    exact h2

set_option maxRecDepth 100000 in
set_option maxHeartbeats 1600000 in
theorem weAt_any (ys : List Int) (q : Nat) (a : Option Addr) (p : Nat) (w : World) (hl : ys.length ≤ 38) (hq : q ≤ 3) (hr : Reads w a ys.length ys)
    (ht : ∀ k, k < ys.length → wrap64 (trmW q ys k) = trmW q ys k) (hs : ∀ k, k < ys.length → wrap64 (sumT (trmW q ys) k + trmW q ys k) = sumT (trmW q ys) k + trmW q ys k) :
    Calls Try.prog 75 #[.slice a ys.length p, .int .i64 q] w fun e w' => e = .returned (.int .i64 (valW q ys)) ∧ w = w' := by
  have HX := Lib.hid (fun k (hk : k < ys.length) => pow_step q k hq (by omega))
  have HT := Lib.hid (fun k (hk : k < ys.length) => show wrap64 (ys.getD k 0 * (q : Int) ^ k) = trmW q ys k from ht k hk)
  have HS := Lib.hid hs
  have HR := Lib.hid hr
  clear hr ht hs hq
  unfold valW
  go_enter Try.func75, Try.ntmps75
  go_wp2_with fail
  go_loopw [5, 6, 11] (fun t u i wr => ∃ k : Nat, k ≤ ys.length ∧ i = .int .i64 k ∧ u = .int .i64 ((q : Int) ^ k) ∧ t = .int .i64 (sumT (trmW q ys) k) ∧ w = wr) (fun _ _ i _ => ys.length - (intOf i).toNat)
  case atStart => exact ⟨0, Nat.zero_le _, rfl, by simp, rfl, rfl⟩
  case round =>
    obtain ⟨k, hk, rfl, rfl, rfl, hww⟩ := hrel
    subst hww
    by_cases hlt : k < ys.length
    · obtain ⟨b, off, ha, hb0, hcc⟩ := reads_row HR.out (by omega)
      subst ha
      have hck := hcc k hlt
      have HF := Lib.hid (And.intro (HT.out k hlt) (And.intro (HS.out k hlt) (HX.out k hlt)))
      have HSU := Lib.hid (show sumT (trmW q ys) (k + 1) = sumT (trmW q ys) k + trmW q ys k from rfl)
      generalize ys.getD k 0 = y at *
      generalize sumT (trmW q ys) k = S at *
      clear hcc
      go_wp2_with fail
      go_roundw
      case rel => exact ⟨k + 1, by omega, by go_num, by rw [HF.out.2.2], by rw [HF.out.1, HF.out.2.1, HSU.out], by first | rfl | trivial⟩
      case measure => simp [intOf]; omega
    · obtain rfl : k = ys.length := by omega
      go_wp2_with fail
      go_ret
      exact ⟨rfl, rfl⟩
def askW (xs : List Int) (k : Int) : Bool := lenB xs && inB 0 k xs.length
set_option maxHeartbeats 800000 in
theorem weAsked_any (xs : List Int) (k : Int) (a : Option Addr) (p : Nat) (w : World) (hx : xs.length ≤ 1048576) (hr : Reads w a xs.length xs) :
    Calls Try.prog 70 #[.slice a xs.length p, .int .i64 k] w fun e w' => e = .returned (.bool (askW xs k)) ∧ Below w.heap.size w w' := by
  have HG := Lib.hid (feGood_any a p xs w hx hr)
  have HI := Lib.hid (l1In_any k 0 xs.length)
  cases hg : lenB xs
  · rw [hg] at HG
    rw [show askW xs k = false by simp [askW, hg]]
    clear hg hr
    go_enter Try.func70, Try.ntmps70
    go_wp2_with fail
    refine HG.out.mono ?_
    rintro e w2 ⟨rfl, hb⟩
    have HB := Lib.hid hb
    clear hb
    go_wp2_with fail
    go_ret
    exact ⟨rfl, HB.out⟩
  · rw [hg] at HG
    rw [show askW xs k = inB 0 k xs.length by simp [askW, hg]]
    clear hg hr
    generalize inB 0 k xs.length = bb at *
    go_enter Try.func70, Try.ntmps70
    go_wp2_with fail
    refine HG.out.mono ?_
    rintro e w2 ⟨rfl, hb⟩
    have HB := Lib.hid hb
    clear hb
    go_wp2_with fail
    refine (HI.out _).mono ?_
    rintro e w3 ⟨rfl, rfl⟩
    go_wp2_with fail
    go_ret
    exact ⟨rfl, HB.out⟩
end Go.Proofs.Ytdgkcfpfldaopaa
end

section
namespace Go.Proofs.Ytdgkcfpfldaopaa
open Go.RowKit Go.WideShapes

/-- The cells of a board, as a test. -/
abbrev bt (xs : List Int) (a b : Nat) : Bool := (xs.getD a 0).toNat.testBit b
theorem bit_nat (t c : Nat) (ht : t < 64) (hc : c < 6) : (((t : Int) / 2 ^ c).tmod 2 == 1) = t.testBit c := by
  have key : ∀ t : Fin 64, ∀ c : Fin 6, ((((t : Nat) : Int) / 2 ^ (c : Nat)).tmod 2 == 1) = (t : Nat).testBit c := by decide +kernel
  exact key ⟨t, ht⟩ ⟨c, hc⟩
theorem or_nat (t c : Nat) (ht : t < 64) (hc : c < 6) : bits .or .i64 (t : Int) (wrap64 (2 ^ c)) = ((t ||| 2 ^ c : Nat) : Int) := by
  have key : ∀ t : Fin 64, ∀ c : Fin 6, bits .or .i64 ((t : Nat) : Int) (wrap64 (2 ^ (c : Nat))) = (((t : Nat) ||| 2 ^ (c : Nat) : Nat) : Int) := by decide +kernel
  exact key ⟨t, ht⟩ ⟨c, hc⟩
theorem or_nat2 (t c : Nat) (ht : t < 64) (hc : c < 6) : bits .or .i64 (t : Int) (IntKind.i64.wrap (2 ^ c)) = ((t ||| 2 ^ c : Nat) : Int) := by
  have key : ∀ t : Fin 64, ∀ c : Fin 6, bits .or .i64 ((t : Nat) : Int) (IntKind.i64.wrap (2 ^ (c : Nat))) = (((t : Nat) ||| 2 ^ (c : Nat) : Nat) : Int) := by decide +kernel
  exact key ⟨t, ht⟩ ⟨c, hc⟩
theorem add_in (x y : Nat) (hx : x ≤ 1000000000) (hy : y ≤ 1000000000) : IntKind.i64.wrap ((x : Int) + y) = ((x + y : Nat) : Int) := by
  rw [show (x : Int) + y = ((x + y : Nat) : Int) by push_cast; rfl]
  exact IntWalk.i64_in _ (by omega)


end Go.Proofs.Ytdgkcfpfldaopaa
end

section
namespace Go.Proofs.Ytdgkcfpfldaopaa
open Go.RowKit Go.WideShapes

/-- Is a number in a list? -/
def hasI (xs : List Int) (c : Int) : Bool := xs.contains c
theorem hasI_iff {xs : List Int} {c : Int} : hasI xs c = true ↔ c ∈ xs := by unfold hasI; simp
theorem hasI_no {xs : List Int} {c : Int} : hasI xs c = false ↔ c ∉ xs := by rw [← Bool.not_eq_true, hasI_iff]
theorem hasI_nil (c : Int) : hasI [] c = false := rfl
theorem hasI_snoc (l : List Int) (y c : Int) : hasI (l ++ [y]) c = (hasI l c || y == c) := by
  rw [Bool.eq_iff_iff, Bool.or_eq_true, hasI_iff, hasI_iff, beq_iff_eq, List.mem_append, List.mem_singleton]
  exact ⟨fun h => h.imp id Eq.symm, fun h => h.imp id Eq.symm⟩
theorem take_snoc (xs : List Int) (k : Nat) (hk : k < xs.length) : xs.take (k + 1) = xs.take k ++ [xs.getD k 0] := by
  rw [List.take_succ_eq_append_getElem hk]
  simp [List.getD, hk]

/-- Is the number at j one for the row j, the ones before it being there? -/
def goodAt (xs : List Int) (m : Nat) (P : List Int) (j : Nat) : Bool :=
  (P.getD j 0 == -1) || (inB 0 (P.getD j 0) ((m : Int) - 1) && ((xs.getD j 0).toNat.testBit (P.getD j 0).toNat && !hasI (P.take j) (P.getD j 0)))
def goodUp (xs : List Int) (m : Nat) (P : List Int) : Nat → Bool
  | 0 => true
  | k + 1 => goodUp xs m P k && goodAt xs m P k
theorem goodUp_no (xs : List Int) (m : Nat) (P : List Int) (k n : Nat) (h : goodAt xs m P k = false) (hk : k < n) : goodUp xs m P n = false := by
  induction n with
  | zero => omega
  | succ n ih =>
    rw [goodUp]
    by_cases e : k = n
    · subst e; rw [h, Bool.and_false]
    · rw [ih (by omega), Bool.false_and]
theorem goodUp_at (xs : List Int) (m : Nat) (P : List Int) (n k : Nat) (h : goodUp xs m P n = true) (hk : k < n) : goodAt xs m P k = true := by
  induction n with
  | zero => omega
  | succ n ih =>
    rw [goodUp, Bool.and_eq_true] at h
    by_cases e : k = n
    · subst e; exact h.2
    · exact ih h.1 (by omega)
/-- A placement? -/
def placeP (n m : Nat) (xs P : List Int) : Bool := decide (P.length = n) && goodUp xs m P n

/-- The columns of the first rooks, as a set. -/
def tkn (P : List Int) : Nat → Nat
  | 0 => 0
  | k + 1 => if P.getD k 0 = -1 then tkn P k else tkn P k ||| 2 ^ (P.getD k 0).toNat
theorem or_put (t c d : Nat) (ht : t < 64) (hc : c < 6) (hd : d < 6) : (t ||| 2 ^ c).testBit d = (t.testBit d || decide (c = d)) := by
  have key : ∀ t : Fin 64, ∀ c : Fin 6, ∀ d : Fin 6, ((t : Nat) ||| 2 ^ (c : Nat)).testBit d = ((t : Nat).testBit d || decide ((c : Nat) = d)) := by decide +kernel
  exact key ⟨t, ht⟩ ⟨c, hc⟩ ⟨d, hd⟩
theorem good_col {xs : List Int} {m : Nat} {P : List Int} {j : Nat} (h : goodAt xs m P j = true) (he : P.getD j 0 ≠ -1) : 0 ≤ P.getD j 0 ∧ P.getD j 0 < m ∧ (xs.getD j 0).toNat.testBit (P.getD j 0).toNat = true ∧ P.getD j 0 ∉ P.take j := by
  unfold goodAt at h
  rw [Bool.or_eq_true, beq_iff_eq] at h
  rcases h with h | h
  · exact absurd h he
  · rw [Bool.and_eq_true, inB_iff, Bool.and_eq_true, Bool.not_eq_true'] at h
    refine ⟨h.1.1, by omega, h.2.1, ?_⟩
    exact hasI_no.1 h.2.2
theorem tkn_lt (xs : List Int) (m : Nat) (hm : m ≤ 6) (P : List Int) (k : Nat) (h : goodUp xs m P k = true) : tkn P k < 64 := by
  induction k with
  | zero => simp [tkn]
  | succ k ih =>
    rw [goodUp, Bool.and_eq_true] at h
    have := ih h.1
    rw [tkn]
    split
    · exact this
    · rename_i he
      obtain ⟨h1, h2, _⟩ := good_col h.2 he
      exact Nat.or_lt_two_pow (n := 6) this (Nat.pow_lt_pow_right (by omega) (by omega))
theorem tkn_mem (xs : List Int) (m : Nat) (hm : m ≤ 6) (P : List Int) (k : Nat) (hk : k ≤ P.length) (h : goodUp xs m P k = true) (c : Nat) (hc : c < 6) : (tkn P k).testBit c = hasI (P.take k) (c : Int) := by
  induction k with
  | zero => simp [tkn, hasI]
  | succ k ih =>
    have h' := h
    rw [goodUp, Bool.and_eq_true] at h
    have hlt := tkn_lt xs m hm P k h.1
    rw [tkn, take_snoc P k (by omega), hasI_snoc]
    split
    · rename_i he
      have h3 : ((-1 : Int) == (c : Int)) = false := by rw [beq_eq_false_iff_ne]; omega
      rw [ih (by omega) h.1, he, h3, Bool.or_false]
    · rename_i he
      obtain ⟨h1, h2, _⟩ := good_col h.2 he
      obtain ⟨d, hd⟩ := Int.eq_ofNat_of_zero_le h1
      rw [hd] at h2 ⊢
      rw [show ((d : Int)).toNat = d by simp, or_put _ _ _ hlt (by omega) hc, ih (by omega) h.1]
      by_cases e : d = c
      · subst e; simp
      · have h3 : (c : Int) ≠ d := by omega
        have h4 : ((d : Int) == (c : Int)) = false := by rw [beq_eq_false_iff_ne]; omega
        rw [h4]
        simp [e]
/-- The places of a list: what is laid for each of the six rows. -/
def plF (P : List Int) (k : Nat) (j : Nat) : Int := if j < k then P.getD j 0 else -1
/-- The cells of an array of six. -/
def pl6 (f : Nat → Int) : List Value := [.int .i64 (f 0), .int .i64 (f 1), .int .i64 (f 2), .int .i64 (f 3), .int .i64 (f 4), .int .i64 (f 5)]
abbrev pv6 (f : Nat → Int) : Value := .agg #[.int .i64 (f 0), .int .i64 (f 1), .int .i64 (f 2), .int .i64 (f 3), .int .i64 (f 4), .int .i64 (f 5)]
theorem pl6_get (f : Nat → Int) (i : Nat) (h : i < 6) : (pl6 f)[i]? = some (.int .i64 (f i)) := by
  have : i = 0 ∨ i = 1 ∨ i = 2 ∨ i = 3 ∨ i = 4 ∨ i = 5 := by omega
  rcases this with rfl | rfl | rfl | rfl | rfl | rfl <;> rfl
theorem pl6_set (f g : Nat → Int) (i : Nat) (h : i < 6) (x : Int) (hx : g i = x) (hg : ∀ k, k < 6 → k ≠ i → g k = f k) : (pl6 f).set i (.int .i64 x) = pl6 g := by
  have : i = 0 ∨ i = 1 ∨ i = 2 ∨ i = 3 ∨ i = 4 ∨ i = 5 := by omega
  subst hx
  rcases this with rfl | rfl | rfl | rfl | rfl | rfl <;> simp [pl6, hg]
theorem pl6_congr (f g : Nat → Int) (h : ∀ k, k < 6 → f k = g k) : pl6 f = pl6 g := by simp [pl6, h]
theorem Has.six {w : World} {b : Nat} {v0 v1 v2 v3 v4 v5 : Value} {t : TypeId} (h : Has w b [v0, v1, v2, v3, v4, v5] t) :
    w.cell? ⟨b, 0, none⟩ = some v0 ∧ w.cell? ⟨b, 1, none⟩ = some v1 ∧ w.cell? ⟨b, 2, none⟩ = some v2 ∧ w.cell? ⟨b, 3, none⟩ = some v3 ∧ w.cell? ⟨b, 4, none⟩ = some v4 ∧ w.cell? ⟨b, 5, none⟩ = some v5 ∧ ∀ o, w.frozen? ⟨b, o, none⟩ = false :=
  ⟨h.cell 0, h.cell 1, h.cell 2, h.cell 3, h.cell 4, h.cell 5, h.free⟩
theorem Reads.take {w : World} {a : Option Addr} {zs : List Int} (h : Reads w a zs.length zs) (k : Nat) (hk : k ≤ zs.length) : Reads w a k (zs.take k) := by
  refine ⟨by simp [hk], ?_⟩
  by_cases h0 : k = 0
  · exact .inl h0
  · obtain ⟨b, off, e, hb, hc⟩ := reads_row h (by omega)
    refine .inr ⟨b, off, e, hb, fun j hj => ?_⟩
    rw [hc j (by omega)]
    simp [List.getD, hj]

end Go.Proofs.Ytdgkcfpfldaopaa
end
