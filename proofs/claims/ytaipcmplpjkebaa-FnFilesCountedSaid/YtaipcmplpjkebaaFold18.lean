import Derived.Test.YtaipcmplpjkebaaFold17
import Derived.Test.YtaipcmplpjkebaaFold10
import Derived.Test.YtaipcmplpjkebaaFold4
import Derived.Test.YtaipcmplpjkebaaFold16

section
namespace Go.Proofs.Ytaipcmplpjkebaa
open Go.RowKit Go.WideShapes

/-- The board of a rule. -/
def ruleB (least n : Int) (R : Nat → Nat → Bool) : BR := if inB least n 6 then ⟨n, n, rowsL R n.toNat, true⟩ else BR.zero
theorem rowsL_len (R : Nat → Nat → Bool) (n : Nat) : (rowsL R n).length = n := lstH_len _ _
theorem rowsL_get (R : Nat → Nat → Bool) (n k : Nat) (h : k < n) : (rowsL R n).getD k 0 = (rulM R k n : Nat) := lstH_get n _ k h
theorem ruleB_len (least n : Int) (R : Nat → Nat → Bool) (_hl : 1 ≤ least) : (ruleB least n R).xs.length ≤ 1048576 := by
  unfold ruleB
  split
  · rename_i h
    have := inB_iff.1 h
    show (rowsL R n.toNat).length ≤ _
    rw [rowsL_len]; omega
  · simp [BR.zero]
def diagR (r c : Nat) : Bool := decide (c = r)
def aboveR (r c : Nat) : Bool := decide (r < c)
def tableR (n r c : Nat) : Bool := decide (c = r) || decide (c = (r + 1) % n)
def diagB (n : Int) : BR := ruleB 1 n diagR
def aboveB (n : Int) : BR := ruleB 1 n aboveR
def tableB (n : Int) : BR := ruleB 2 n (tableR n.toNat)
theorem diagB_len (n : Int) : (diagB n).xs.length ≤ 1048576 := ruleB_len _ _ _ (by omega)
theorem aboveB_len (n : Int) : (aboveB n).xs.length ≤ 1048576 := ruleB_len _ _ _ (by omega)
theorem tableB_len (n : Int) : (tableB n).xs.length ≤ 1048576 := ruleB_len _ _ _ (by omega)

set_option maxHeartbeats 800000 in
theorem onDiag_any (n r c : Nat) (w : World) : Calls Try.prog 61 #[.int .i64 n, .int .i64 r, .int .i64 c] w fun e w' => e = .returned (.bool (diagR r c)) ∧ w' = w := by
  have HD := Lib.hid (show ((c : Int) == (r : Int)) = diagR r c by unfold diagR; rw [Bool.eq_iff_iff, beq_iff_eq, decide_eq_true_eq]; omega)
  go_enter Try.func61, Try.ntmps61
  go_wp2_with fail
  go_ret
  exact ⟨ret_bool (by rw [← HD.out]), rfl⟩
set_option maxHeartbeats 800000 in
theorem above_any (n r c : Nat) (w : World) : Calls Try.prog 64 #[.int .i64 n, .int .i64 r, .int .i64 c] w fun e w' => e = .returned (.bool (aboveR r c)) ∧ w' = w := by
  have HD := Lib.hid (show decide ((r : Int) < (c : Int)) = aboveR r c by unfold aboveR; rw [decide_eq_decide]; omega)
  by_cases h : (r : Int) < c
  · have HT := Lib.hid (show aboveR r c = true by rw [← HD.out]; exact decide_eq_true h)
    go_enter Try.func64, Try.ntmps64
    go_wp2_with fail
    go_ret
    exact ⟨ret_bool (by rw [HT.out]), rfl⟩
  · have HT := Lib.hid (show aboveR r c = false by rw [← HD.out]; exact decide_eq_false h)
    go_enter Try.func64, Try.ntmps64
    go_wp2_with fail
    go_ret
    exact ⟨ret_bool (by rw [HT.out]), rfl⟩
set_option maxHeartbeats 800000 in
theorem atTable_any (n r c : Nat) (w : World) (hn : 0 < n) (hr : r < n) (hn2 : n ≤ 12) : Calls Try.prog 65 #[.int .i64 n, .int .i64 r, .int .i64 c] w fun e w' => e = .returned (.bool (tableR n r c)) ∧ w' = w := by
  have hn0 : ((n : Int) == 0) = false := by rw [beq_eq_false_iff_ne]; omega
  have hn1 : (1 : Int) ≤ n := by omega
  have hr0 : (0 : Int) ≤ r := by omega
  have hr12 : (r : Int) ≤ 12 := by omega
  have hn12 : (n : Int) ≤ 12 := by omega
  have hm : ((r : Int) + 1) % n = (((r + 1) % n : Nat) : Int) := by push_cast; rfl
  by_cases h : c = r
  · have HT := Lib.hid (show tableR n r c = true by unfold tableR; rw [decide_eq_true h]; rfl)
    have h1 : ((c : Int) == (r : Int)) = true := by rw [beq_iff_eq]; omega
    clear h hm
    go_enter Try.func65, Try.ntmps65
    go_wp2_with fail
    go_ret
    exact ⟨ret_bool (by rw [HT.out]), rfl⟩
  · have HT := Lib.hid (show tableR n r c = ((c : Int) == ((r : Int) + 1) % n) by unfold tableR; rw [decide_eq_false h, Bool.false_or, hm, Bool.eq_iff_iff, beq_iff_eq, decide_eq_true_eq]; omega)
    have h1 : ((c : Int) == (r : Int)) = false := by rw [beq_eq_false_iff_ne]; omega
    clear h hm
    go_enter Try.func65, Try.ntmps65
    go_wp2_with fail
    go_ret
    exact ⟨ret_bool (by rw [HT.out]), rfl⟩

set_option maxRecDepth 100000 in
set_option maxHeartbeats 3200000 in
theorem boardBy_any (n least : Int) (F : FuncId) (R : Nat → Nat → Bool) (w : World) (hl : 1 ≤ least)
    (hcall : ∀ (args : Array Value) (w : World), (callFunc F args).run Try.prog w = .ok (.enter F args) w)
    (hF : 1 ≤ n → n ≤ 6 → ∀ r c, r < n.toNat → c < n.toNat → ∀ W, Calls Try.prog F #[.int .i64 n.toNat, .int .i64 r, .int .i64 c] W fun e w' => e = .returned (.bool (R r c)) ∧ w' = W) :
    Calls Try.prog 60 #[.int .i64 n, .int .i64 least, .func (.func F) #[] #[]] w fun e w' => AnsB (ruleB least n R) w e w' := by
  have L0 := (Law.start w).box (.int .i64 0) (.int .i64 0) (.slice none 0 0) 27
  cases hg : inB least n 6
  · rw [show ruleB least n R = BR.zero by simp [ruleB, hg]]
    have hno : ¬ (least ≤ n ∧ n ≤ 6) := fun h => by rw [inB_yes h.1 h.2] at hg; cases hg
    have ⟨_, n0, n1, n2, nf⟩ := L0.ownBox
    have HB := Lib.hid L0.below
    clear L0 hg hF
    by_cases h1 : n < least
    · clear hno
      go_enter Try.func60, Try.ntmps60
      go_wp2_with fail
      refine bodyPost_ret (v := .tuple #[.agg #[.int .i64 0, .int .i64 0, .slice none 0 0], .bool false]) (by simp [results, Try.results60, go_sem, n0, n1, n2]) rfl (ansB_zero _ _ ?_)
      have h2 := HB.out
      repeat (refine Below.setCell ?_ (by first | exact Nat.le_refl _ | (simp <;> omega) | simp | omega) _)
      exact h2
    · have h2 : 6 < n := by omega
      clear hno
      go_enter Try.func60, Try.ntmps60
      go_wp2_with fail
      refine bodyPost_ret (v := .tuple #[.agg #[.int .i64 0, .int .i64 0, .slice none 0 0], .bool false]) (by simp [results, Try.results60, go_sem, n0, n1, n2]) rfl (ansB_zero _ _ ?_)
      have h2 := HB.out
      repeat (refine Below.setCell ?_ (by first | exact Nat.le_refl _ | (simp <;> omega) | simp | omega) _)
      exact h2
  · obtain ⟨h1, h2⟩ := inB_iff.1 hg
    obtain ⟨m, rfl⟩ := Int.eq_ofNat_of_zero_le (show 0 ≤ n by omega)
    rw [show ruleB least m R = ⟨m, m, rowsL R m, true⟩ by simp [ruleB, hg]]
    have HC := Lib.hid (fun W => cellsBy_any m F R W (by omega) hcall (fun r c hr hc => hF (by omega) (by omega) r c hr hc))
    have hlt : ¬ (m : Int) < least := by omega
    have h6 : ¬ (6 : Int) < m := by omega
    have HL := Lib.hid L0
    have HZ := Lib.hid (rowsL_len R m)
    clear L0 hg hF h1 h2
    go_enter Try.func60, Try.ntmps60
    go_wp2_with fail
    refine (HC.out _).mono ?_
    rintro e w1 ⟨g, p, rfl, hO, hb⟩
    have L1 := HL.out.own hb hO
    have ⟨_, n0, n1, n2, nf⟩ := L1.tl.ownBox
    have hfin := L1.fin3 (n := w.heap.size) (x := .int .i64 0) (y := .int .i64 0) (z := .slice none 0 0) (by simp) (.int .i64 m) (.int .i64 m) (.slice (some ⟨g, 0, none⟩) m p)
    have HF2 := Lib.hid hfin
    clear L1 hO hb hfin HL HC
    go_wp2_with fail
    exact bodyPost_ret (v := .tuple #[.agg #[.int .i64 m, .int .i64 m, .slice (some ⟨g, 0, none⟩) m p], .bool true]) (by simp [results, Try.results60, go_sem, n0, n1, n2]) rfl ⟨_, rfl, HF2.out.1, HF2.out.2⟩

set_option maxRecDepth 100000 in
set_option maxHeartbeats 1600000 in
theorem implDiagonalBoard_any (n : Int) (w : World) : Calls Try.prog 8 #[.int .i64 n] w fun e w' => AnsB (diagB n) w e w' := by
  have L0 := (Law.start w).box (.int .i64 0) (.int .i64 0) (.slice none 0 0) 27
  have hc := fun W => boardBy_any n 1 61 diagR W (by omega) (fun _ _ => by kernel_rfl) (fun hn hn6 r c hr hc W => onDiag_any n.toNat r c W)
  rw [show ruleB 1 n diagR = diagB n from rfl] at hc
  generalize diagB n = Q at *
  have HC := Lib.hid hc
  clear hc
  have HL := Lib.hid L0
  clear L0
  go_enter Try.func8, Try.ntmps8
  go_wp2_with fail
  refine (HC.out _).mono ?_
  rintro e w1 ⟨s, rfl, hO, hb⟩
  have L1 := HL.out.own hb hO
  obtain ⟨a1, p1, hv, _⟩ := hO.reads
  subst hv
  have ⟨_, n0, n1, n2, nf⟩ := L1.tl.ownBox
  have hfin := L1.fin3 (n := w.heap.size) (x := .int .i64 0) (y := .int .i64 0) (z := .slice none 0 0) (by simp) (.int .i64 Q.r) (.int .i64 Q.c) (.slice a1 Q.xs.length p1)
  have HF := Lib.hid hfin
  clear L1 hO hb hfin HL HC
  go_wp2_with fail
  exact bodyPost_ret (v := .tuple #[.agg #[.int .i64 Q.r, .int .i64 Q.c, .slice a1 Q.xs.length p1], .bool Q.ok]) (by simp [results, Try.results8, go_sem, n0, n1, n2]) rfl ⟨_, rfl, HF.out.1, HF.out.2⟩

set_option maxRecDepth 100000 in
set_option maxHeartbeats 1600000 in
theorem implAboveBoard_any (n : Int) (w : World) : Calls Try.prog 10 #[.int .i64 n] w fun e w' => AnsB (aboveB n) w e w' := by
  have L0 := (Law.start w).box (.int .i64 0) (.int .i64 0) (.slice none 0 0) 27
  have hc := fun W => boardBy_any n 1 64 aboveR W (by omega) (fun _ _ => by kernel_rfl) (fun hn hn6 r c hr hc W => above_any n.toNat r c W)
  rw [show ruleB 1 n aboveR = aboveB n from rfl] at hc
  generalize aboveB n = Q at *
  have HC := Lib.hid hc
  clear hc
  have HL := Lib.hid L0
  clear L0
  go_enter Try.func10, Try.ntmps10
  go_wp2_with fail
  refine (HC.out _).mono ?_
  rintro e w1 ⟨s, rfl, hO, hb⟩
  have L1 := HL.out.own hb hO
  obtain ⟨a1, p1, hv, _⟩ := hO.reads
  subst hv
  have ⟨_, n0, n1, n2, nf⟩ := L1.tl.ownBox
  have hfin := L1.fin3 (n := w.heap.size) (x := .int .i64 0) (y := .int .i64 0) (z := .slice none 0 0) (by simp) (.int .i64 Q.r) (.int .i64 Q.c) (.slice a1 Q.xs.length p1)
  have HF := Lib.hid hfin
  clear L1 hO hb hfin HL HC
  go_wp2_with fail
  exact bodyPost_ret (v := .tuple #[.agg #[.int .i64 Q.r, .int .i64 Q.c, .slice a1 Q.xs.length p1], .bool Q.ok]) (by simp [results, Try.results10, go_sem, n0, n1, n2]) rfl ⟨_, rfl, HF.out.1, HF.out.2⟩

set_option maxRecDepth 100000 in
set_option maxHeartbeats 1600000 in
theorem implTableBoard_any (n : Int) (w : World) : Calls Try.prog 12 #[.int .i64 n] w fun e w' => AnsB (tableB n) w e w' := by
  have L0 := (Law.start w).box (.int .i64 0) (.int .i64 0) (.slice none 0 0) 27
  have hc := fun W => boardBy_any n 2 65 (tableR n.toNat) W (by omega) (fun _ _ => by kernel_rfl) (fun hn hn6 r c hr hc W => atTable_any n.toNat r c W (by omega) hr (by omega))
  rw [show ruleB 2 n (tableR n.toNat) = tableB n from rfl] at hc
  generalize tableB n = Q at *
  have HC := Lib.hid hc
  clear hc
  have HL := Lib.hid L0
  clear L0
  go_enter Try.func12, Try.ntmps12
  go_wp2_with fail
  refine (HC.out _).mono ?_
  rintro e w1 ⟨s, rfl, hO, hb⟩
  have L1 := HL.out.own hb hO
  obtain ⟨a1, p1, hv, _⟩ := hO.reads
  subst hv
  have ⟨_, n0, n1, n2, nf⟩ := L1.tl.ownBox
  have hfin := L1.fin3 (n := w.heap.size) (x := .int .i64 0) (y := .int .i64 0) (z := .slice none 0 0) (by simp) (.int .i64 Q.r) (.int .i64 Q.c) (.slice a1 Q.xs.length p1)
  have HF := Lib.hid hfin
  clear L1 hO hb hfin HL HC
  go_wp2_with fail
  exact bodyPost_ret (v := .tuple #[.agg #[.int .i64 Q.r, .int .i64 Q.c, .slice a1 Q.xs.length p1], .bool Q.ok]) (by simp [results, Try.results12, go_sem, n0, n1, n2]) rfl ⟨_, rfl, HF.out.1, HF.out.2⟩
end Go.Proofs.Ytaipcmplpjkebaa
end

section
namespace Go.Proofs.Ytaipcmplpjkebaa
open Go.RowKit Go.WideShapes

/-- Is a number in a list? -/
def hasI (xs : List Int) (c : Int) : Bool := xs.contains c
theorem hasI_iff {xs : List Int} {c : Int} : hasI xs c = true ↔ c ∈ xs := by unfold hasI; simp
theorem hasI_no {xs : List Int} {c : Int} : hasI xs c = false ↔ c ∉ xs := by rw [← Bool.not_eq_true, hasI_iff]
theorem hasI_nil (c : Int) : hasI [] c = false := rfl
theorem hasI_snoc (l : List Int) (y c : Int) : hasI (l ++ [y]) c = (hasI l c || y == c) := by
  rw [Bool.eq_iff_iff, Bool.or_eq_true, hasI_iff, hasI_iff, beq_iff_eq, List.mem_append, List.mem_singleton]
  exact ⟨fun h => h.imp id Eq.symm, fun h => h.imp id Eq.symm⟩
theorem take_snoc (xs : List Int) (k : Nat) (hk : k < xs.length) : xs.take (k + 1) = xs.take k ++ [xs.getD k 0] := by
  rw [List.take_succ_eq_append_getElem hk]
  simp [List.getD, hk]

/-- Is the number at j one for the row j, the ones before it being there? -/
def goodAt (xs : List Int) (m : Nat) (P : List Int) (j : Nat) : Bool :=
  (P.getD j 0 == -1) || (inB 0 (P.getD j 0) ((m : Int) - 1) && ((xs.getD j 0).toNat.testBit (P.getD j 0).toNat && !hasI (P.take j) (P.getD j 0)))
def goodUp (xs : List Int) (m : Nat) (P : List Int) : Nat → Bool
  | 0 => true
  | k + 1 => goodUp xs m P k && goodAt xs m P k
theorem goodUp_no (xs : List Int) (m : Nat) (P : List Int) (k n : Nat) (h : goodAt xs m P k = false) (hk : k < n) : goodUp xs m P n = false := by
  induction n with
  | zero => omega
  | succ n ih =>
    rw [goodUp]
    by_cases e : k = n
    · subst e; rw [h, Bool.and_false]
    · rw [ih (by omega), Bool.false_and]
theorem goodUp_at (xs : List Int) (m : Nat) (P : List Int) (n k : Nat) (h : goodUp xs m P n = true) (hk : k < n) : goodAt xs m P k = true := by
  induction n with
  | zero => omega
  | succ n ih =>
    rw [goodUp, Bool.and_eq_true] at h
    by_cases e : k = n
    · subst e; exact h.2
    · exact ih h.1 (by omega)
/-- A placement? -/
def placeP (n m : Nat) (xs P : List Int) : Bool := decide (P.length = n) && goodUp xs m P n

/-- The columns of the first rooks, as a set. -/
def tkn (P : List Int) : Nat → Nat
  | 0 => 0
  | k + 1 => if P.getD k 0 = -1 then tkn P k else tkn P k ||| 2 ^ (P.getD k 0).toNat
theorem or_put (t c d : Nat) (ht : t < 64) (hc : c < 6) (hd : d < 6) : (t ||| 2 ^ c).testBit d = (t.testBit d || decide (c = d)) := by
  have key : ∀ t : Fin 64, ∀ c : Fin 6, ∀ d : Fin 6, ((t : Nat) ||| 2 ^ (c : Nat)).testBit d = ((t : Nat).testBit d || decide ((c : Nat) = d)) := by decide +kernel
  exact key ⟨t, ht⟩ ⟨c, hc⟩ ⟨d, hd⟩
theorem good_col {xs : List Int} {m : Nat} {P : List Int} {j : Nat} (h : goodAt xs m P j = true) (he : P.getD j 0 ≠ -1) : 0 ≤ P.getD j 0 ∧ P.getD j 0 < m ∧ (xs.getD j 0).toNat.testBit (P.getD j 0).toNat = true ∧ P.getD j 0 ∉ P.take j := by
  unfold goodAt at h
  rw [Bool.or_eq_true, beq_iff_eq] at h
  rcases h with h | h
  · exact absurd h he
  · rw [Bool.and_eq_true, inB_iff, Bool.and_eq_true, Bool.not_eq_true'] at h
    refine ⟨h.1.1, by omega, h.2.1, ?_⟩
    exact hasI_no.1 h.2.2
theorem tkn_lt (xs : List Int) (m : Nat) (hm : m ≤ 6) (P : List Int) (k : Nat) (h : goodUp xs m P k = true) : tkn P k < 64 := by
  induction k with
  | zero => simp [tkn]
  | succ k ih =>
    rw [goodUp, Bool.and_eq_true] at h
    have := ih h.1
    rw [tkn]
    split
    · exact this
    · rename_i he
      obtain ⟨h1, h2, _⟩ := good_col h.2 he
      exact Nat.or_lt_two_pow (n := 6) this (Nat.pow_lt_pow_right (by omega) (by omega))
theorem tkn_mem (xs : List Int) (m : Nat) (hm : m ≤ 6) (P : List Int) (k : Nat) (hk : k ≤ P.length) (h : goodUp xs m P k = true) (c : Nat) (hc : c < 6) : (tkn P k).testBit c = hasI (P.take k) (c : Int) := by
  induction k with
  | zero => simp [tkn, hasI]
  | succ k ih =>
    have h' := h
    rw [goodUp, Bool.and_eq_true] at h
    have hlt := tkn_lt xs m hm P k h.1
    rw [tkn, take_snoc P k (by omega), hasI_snoc]
    split
    · rename_i he
      have h3 : ((-1 : Int) == (c : Int)) = false := by rw [beq_eq_false_iff_ne]; omega
      rw [ih (by omega) h.1, he, h3, Bool.or_false]
    · rename_i he
      obtain ⟨h1, h2, _⟩ := good_col h.2 he
      obtain ⟨d, hd⟩ := Int.eq_ofNat_of_zero_le h1
      rw [hd] at h2 ⊢
      rw [show ((d : Int)).toNat = d by simp, or_put _ _ _ hlt (by omega) hc, ih (by omega) h.1]
      by_cases e : d = c
      · subst e; simp
      · have h3 : (c : Int) ≠ d := by omega
        have h4 : ((d : Int) == (c : Int)) = false := by rw [beq_eq_false_iff_ne]; omega
        rw [h4]
        simp [e]
/-- The places of a list: what is laid for each of the six rows. -/
def plF (P : List Int) (k : Nat) (j : Nat) : Int := if j < k then P.getD j 0 else -1
/-- The cells of an array of six. -/
def pl6 (f : Nat → Int) : List Value := [.int .i64 (f 0), .int .i64 (f 1), .int .i64 (f 2), .int .i64 (f 3), .int .i64 (f 4), .int .i64 (f 5)]
abbrev pv6 (f : Nat → Int) : Value := .agg #[.int .i64 (f 0), .int .i64 (f 1), .int .i64 (f 2), .int .i64 (f 3), .int .i64 (f 4), .int .i64 (f 5)]
theorem pl6_get (f : Nat → Int) (i : Nat) (h : i < 6) : (pl6 f)[i]? = some (.int .i64 (f i)) := by
  have : i = 0 ∨ i = 1 ∨ i = 2 ∨ i = 3 ∨ i = 4 ∨ i = 5 := by omega
  rcases this with rfl | rfl | rfl | rfl | rfl | rfl <;> rfl
theorem pl6_set (f g : Nat → Int) (i : Nat) (h : i < 6) (x : Int) (hx : g i = x) (hg : ∀ k, k < 6 → k ≠ i → g k = f k) : (pl6 f).set i (.int .i64 x) = pl6 g := by
  have : i = 0 ∨ i = 1 ∨ i = 2 ∨ i = 3 ∨ i = 4 ∨ i = 5 := by omega
  subst hx
  rcases this with rfl | rfl | rfl | rfl | rfl | rfl <;> simp [pl6, hg]
theorem pl6_congr (f g : Nat → Int) (h : ∀ k, k < 6 → f k = g k) : pl6 f = pl6 g := by simp [pl6, h]
theorem Has.six {w : World} {b : Nat} {v0 v1 v2 v3 v4 v5 : Value} {t : TypeId} (h : Has w b [v0, v1, v2, v3, v4, v5] t) :
    w.cell? ⟨b, 0, none⟩ = some v0 ∧ w.cell? ⟨b, 1, none⟩ = some v1 ∧ w.cell? ⟨b, 2, none⟩ = some v2 ∧ w.cell? ⟨b, 3, none⟩ = some v3 ∧ w.cell? ⟨b, 4, none⟩ = some v4 ∧ w.cell? ⟨b, 5, none⟩ = some v5 ∧ ∀ o, w.frozen? ⟨b, o, none⟩ = false :=
  ⟨h.cell 0, h.cell 1, h.cell 2, h.cell 3, h.cell 4, h.cell 5, h.free⟩
theorem Reads.take {w : World} {a : Option Addr} {zs : List Int} (h : Reads w a zs.length zs) (k : Nat) (hk : k ≤ zs.length) : Reads w a k (zs.take k) := by
  refine ⟨by simp [hk], ?_⟩
  by_cases h0 : k = 0
  · exact .inl h0
  · obtain ⟨b, off, e, hb, hc⟩ := reads_row h (by omega)
    refine .inr ⟨b, off, e, hb, fun j hj => ?_⟩
    rw [hc j (by omega)]
    simp [List.getD, hj]

end Go.Proofs.Ytaipcmplpjkebaa
end
