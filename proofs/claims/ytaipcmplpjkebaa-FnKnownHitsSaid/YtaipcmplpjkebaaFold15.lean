import Derived.Test.YtaipcmplpjkebaaFold13
import Derived.Test.YtaipcmplpjkebaaFold14
namespace Go.Proofs.Ytaipcmplpjkebaa
open Go.RowKit Go.WideShapes

/-- The board of a rule. -/
def ruleB (least n : Int) (R : Nat → Nat → Bool) : BR := if inB least n 6 then ⟨n, n, rowsL R n.toNat, true⟩ else BR.zero
theorem rowsL_len (R : Nat → Nat → Bool) (n : Nat) : (rowsL R n).length = n := lstH_len _ _
theorem rowsL_get (R : Nat → Nat → Bool) (n k : Nat) (h : k < n) : (rowsL R n).getD k 0 = (rulM R k n : Nat) := lstH_get n _ k h
theorem ruleB_len (least n : Int) (R : Nat → Nat → Bool) (_hl : 1 ≤ least) : (ruleB least n R).xs.length ≤ 1048576 := by
  unfold ruleB
  split
  · rename_i h
    have := inB_iff.1 h
    show (rowsL R n.toNat).length ≤ _
    rw [rowsL_len]; omega
  · simp [BR.zero]
def diagR (r c : Nat) : Bool := decide (c = r)
def aboveR (r c : Nat) : Bool := decide (r < c)
def tableR (n r c : Nat) : Bool := decide (c = r) || decide (c = (r + 1) % n)
def diagB (n : Int) : BR := ruleB 1 n diagR
def aboveB (n : Int) : BR := ruleB 1 n aboveR
def tableB (n : Int) : BR := ruleB 2 n (tableR n.toNat)
theorem diagB_len (n : Int) : (diagB n).xs.length ≤ 1048576 := ruleB_len _ _ _ (by omega)
theorem aboveB_len (n : Int) : (aboveB n).xs.length ≤ 1048576 := ruleB_len _ _ _ (by omega)
theorem tableB_len (n : Int) : (tableB n).xs.length ≤ 1048576 := ruleB_len _ _ _ (by omega)

set_option maxHeartbeats 800000 in
theorem onDiag_any (n r c : Nat) (w : World) : Calls Try.prog 61 #[.int .i64 n, .int .i64 r, .int .i64 c] w fun e w' => e = .returned (.bool (diagR r c)) ∧ w' = w := by
  have HD := Lib.hid (show ((c : Int) == (r : Int)) = diagR r c by unfold diagR; rw [Bool.eq_iff_iff, beq_iff_eq, decide_eq_true_eq]; omega)
  go_enter Try.func61, Try.ntmps61
  go_wp2_with fail
  go_ret
  exact ⟨ret_bool (by rw [← HD.out]), rfl⟩
set_option maxHeartbeats 800000 in
theorem above_any (n r c : Nat) (w : World) : Calls Try.prog 64 #[.int .i64 n, .int .i64 r, .int .i64 c] w fun e w' => e = .returned (.bool (aboveR r c)) ∧ w' = w := by
  have HD := Lib.hid (show decide ((r : Int) < (c : Int)) = aboveR r c by unfold aboveR; rw [decide_eq_decide]; omega)
  by_cases h : (r : Int) < c
  · have HT := Lib.hid (show aboveR r c = true by rw [← HD.out]; exact decide_eq_true h)
    go_enter Try.func64, Try.ntmps64
    go_wp2_with fail
    go_ret
    exact ⟨ret_bool (by rw [HT.out]), rfl⟩
  · have HT := Lib.hid (show aboveR r c = false by rw [← HD.out]; exact decide_eq_false h)
    go_enter Try.func64, Try.ntmps64
    go_wp2_with fail
    go_ret
    exact ⟨ret_bool (by rw [HT.out]), rfl⟩
set_option maxHeartbeats 800000 in
theorem atTable_any (n r c : Nat) (w : World) (hn : 0 < n) (hr : r < n) (hn2 : n ≤ 12) : Calls Try.prog 65 #[.int .i64 n, .int .i64 r, .int .i64 c] w fun e w' => e = .returned (.bool (tableR n r c)) ∧ w' = w := by
  have hn0 : ((n : Int) == 0) = false := by rw [beq_eq_false_iff_ne]; omega
  have hn1 : (1 : Int) ≤ n := by omega
  have hr0 : (0 : Int) ≤ r := by omega
  have hr12 : (r : Int) ≤ 12 := by omega
  have hn12 : (n : Int) ≤ 12 := by omega
  have hm : ((r : Int) + 1) % n = (((r + 1) % n : Nat) : Int) := by push_cast; rfl
  by_cases h : c = r
  · have HT := Lib.hid (show tableR n r c = true by unfold tableR; rw [decide_eq_true h]; rfl)
    have h1 : ((c : Int) == (r : Int)) = true := by rw [beq_iff_eq]; omega
    clear h hm
    go_enter Try.func65, Try.ntmps65
    go_wp2_with fail
    go_ret
    exact ⟨ret_bool (by rw [HT.out]), rfl⟩
  · have HT := Lib.hid (show tableR n r c = ((c : Int) == ((r : Int) + 1) % n) by unfold tableR; rw [decide_eq_false h, Bool.false_or, hm, Bool.eq_iff_iff, beq_iff_eq, decide_eq_true_eq]; omega)
    have h1 : ((c : Int) == (r : Int)) = false := by rw [beq_eq_false_iff_ne]; omega
    clear h hm
    go_enter Try.func65, Try.ntmps65
    go_wp2_with fail
    go_ret
    exact ⟨ret_bool (by rw [HT.out]), rfl⟩

set_option maxRecDepth 100000 in
set_option maxHeartbeats 3200000 in
theorem boardBy_any (n least : Int) (F : FuncId) (R : Nat → Nat → Bool) (w : World) (hl : 1 ≤ least)
    (hcall : ∀ (args : Array Value) (w : World), (callFunc F args).run Try.prog w = .ok (.enter F args) w)
    (hF : 1 ≤ n → n ≤ 6 → ∀ r c, r < n.toNat → c < n.toNat → ∀ W, Calls Try.prog F #[.int .i64 n.toNat, .int .i64 r, .int .i64 c] W fun e w' => e = .returned (.bool (R r c)) ∧ w' = W) :
    Calls Try.prog 60 #[.int .i64 n, .int .i64 least, .func (.func F) #[] #[]] w fun e w' => AnsB (ruleB least n R) w e w' := by
  have L0 := (Law.start w).box (.int .i64 0) (.int .i64 0) (.slice none 0 0) 27
  cases hg : inB least n 6
  · rw [show ruleB least n R = BR.zero by simp [ruleB, hg]]
    have hno : ¬ (least ≤ n ∧ n ≤ 6) := fun h => by rw [inB_yes h.1 h.2] at hg; cases hg
    have ⟨_, n0, n1, n2, nf⟩ := L0.ownBox
    have HB := Lib.hid L0.below
    clear L0 hg hF
    by_cases h1 : n < least
    · clear hno
      go_enter Try.func60, Try.ntmps60
      go_wp2_with fail
      refine bodyPost_ret (v := .tuple #[.agg #[.int .i64 0, .int .i64 0, .slice none 0 0], .bool false]) (by simp [results, Try.results60, go_sem, n0, n1, n2]) rfl (ansB_zero _ _ ?_)
      have h2 := HB.out
      repeat (refine Below.setCell ?_ (by first | exact Nat.le_refl _ | (simp <;> omega) | simp | omega) _)
      exact h2
    · have h2 : 6 < n := by omega
      clear hno
      go_enter Try.func60, Try.ntmps60
      go_wp2_with fail
      refine bodyPost_ret (v := .tuple #[.agg #[.int .i64 0, .int .i64 0, .slice none 0 0], .bool false]) (by simp [results, Try.results60, go_sem, n0, n1, n2]) rfl (ansB_zero _ _ ?_)
      have h2 := HB.out
      repeat (refine Below.setCell ?_ (by first | exact Nat.le_refl _ | (simp <;> omega) | simp | omega) _)
      exact h2
  · obtain ⟨h1, h2⟩ := inB_iff.1 hg
    obtain ⟨m, rfl⟩ := Int.eq_ofNat_of_zero_le (show 0 ≤ n by omega)
    rw [show ruleB least m R = ⟨m, m, rowsL R m, true⟩ by simp [ruleB, hg]]
    have HC := Lib.hid (fun W => cellsBy_any m F R W (by omega) hcall (fun r c hr hc => hF (by omega) (by omega) r c hr hc))
    have hlt : ¬ (m : Int) < least := by omega
    have h6 : ¬ (6 : Int) < m := by omega
    have HL := Lib.hid L0
    have HZ := Lib.hid (rowsL_len R m)
    clear L0 hg hF h1 h2
    go_enter Try.func60, Try.ntmps60
    go_wp2_with fail
    refine (HC.out _).mono ?_
    rintro e w1 ⟨g, p, rfl, hO, hb⟩
    have L1 := HL.out.own hb hO
    have ⟨_, n0, n1, n2, nf⟩ := L1.tl.ownBox
    have hfin := L1.fin3 (n := w.heap.size) (x := .int .i64 0) (y := .int .i64 0) (z := .slice none 0 0) (by simp) (.int .i64 m) (.int .i64 m) (.slice (some ⟨g, 0, none⟩) m p)
    have HF2 := Lib.hid hfin
    clear L1 hO hb hfin HL HC
    go_wp2_with fail
    exact bodyPost_ret (v := .tuple #[.agg #[.int .i64 m, .int .i64 m, .slice (some ⟨g, 0, none⟩) m p], .bool true]) (by simp [results, Try.results60, go_sem, n0, n1, n2]) rfl ⟨_, rfl, HF2.out.1, HF2.out.2⟩

set_option maxRecDepth 100000 in
set_option maxHeartbeats 1600000 in
theorem implDiagonalBoard_any (n : Int) (w : World) : Calls Try.prog 8 #[.int .i64 n] w fun e w' => AnsB (diagB n) w e w' := by
  have L0 := (Law.start w).box (.int .i64 0) (.int .i64 0) (.slice none 0 0) 27
  have hc := fun W => boardBy_any n 1 61 diagR W (by omega) (fun _ _ => by kernel_rfl) (fun hn hn6 r c hr hc W => onDiag_any n.toNat r c W)
  rw [show ruleB 1 n diagR = diagB n from rfl] at hc
  generalize diagB n = Q at *
  have HC := Lib.hid hc
  clear hc
  have HL := Lib.hid L0
  clear L0
  go_enter Try.func8, Try.ntmps8
  go_wp2_with fail
  refine (HC.out _).mono ?_
  rintro e w1 ⟨s, rfl, hO, hb⟩
  have L1 := HL.out.own hb hO
  obtain ⟨a1, p1, hv, _⟩ := hO.reads
  subst hv
  have ⟨_, n0, n1, n2, nf⟩ := L1.tl.ownBox
  have hfin := L1.fin3 (n := w.heap.size) (x := .int .i64 0) (y := .int .i64 0) (z := .slice none 0 0) (by simp) (.int .i64 Q.r) (.int .i64 Q.c) (.slice a1 Q.xs.length p1)
  have HF := Lib.hid hfin
  clear L1 hO hb hfin HL HC
  go_wp2_with fail
  exact bodyPost_ret (v := .tuple #[.agg #[.int .i64 Q.r, .int .i64 Q.c, .slice a1 Q.xs.length p1], .bool Q.ok]) (by simp [results, Try.results8, go_sem, n0, n1, n2]) rfl ⟨_, rfl, HF.out.1, HF.out.2⟩

set_option maxRecDepth 100000 in
set_option maxHeartbeats 1600000 in
theorem implAboveBoard_any (n : Int) (w : World) : Calls Try.prog 10 #[.int .i64 n] w fun e w' => AnsB (aboveB n) w e w' := by
  have L0 := (Law.start w).box (.int .i64 0) (.int .i64 0) (.slice none 0 0) 27
  have hc := fun W => boardBy_any n 1 64 aboveR W (by omega) (fun _ _ => by kernel_rfl) (fun hn hn6 r c hr hc W => above_any n.toNat r c W)
  rw [show ruleB 1 n aboveR = aboveB n from rfl] at hc
  generalize aboveB n = Q at *
  have HC := Lib.hid hc
  clear hc
  have HL := Lib.hid L0
  clear L0
  go_enter Try.func10, Try.ntmps10
  go_wp2_with fail
  refine (HC.out _).mono ?_
  rintro e w1 ⟨s, rfl, hO, hb⟩
  have L1 := HL.out.own hb hO
  obtain ⟨a1, p1, hv, _⟩ := hO.reads
  subst hv
  have ⟨_, n0, n1, n2, nf⟩ := L1.tl.ownBox
  have hfin := L1.fin3 (n := w.heap.size) (x := .int .i64 0) (y := .int .i64 0) (z := .slice none 0 0) (by simp) (.int .i64 Q.r) (.int .i64 Q.c) (.slice a1 Q.xs.length p1)
  have HF := Lib.hid hfin
  clear L1 hO hb hfin HL HC
  go_wp2_with fail
  exact bodyPost_ret (v := .tuple #[.agg #[.int .i64 Q.r, .int .i64 Q.c, .slice a1 Q.xs.length p1], .bool Q.ok]) (by simp [results, Try.results10, go_sem, n0, n1, n2]) rfl ⟨_, rfl, HF.out.1, HF.out.2⟩

set_option maxRecDepth 100000 in
set_option maxHeartbeats 1600000 in
theorem implTableBoard_any (n : Int) (w : World) : Calls Try.prog 12 #[.int .i64 n] w fun e w' => AnsB (tableB n) w e w' := by
  have L0 := (Law.start w).box (.int .i64 0) (.int .i64 0) (.slice none 0 0) 27
  have hc := fun W => boardBy_any n 2 65 (tableR n.toNat) W (by omega) (fun _ _ => by kernel_rfl) (fun hn hn6 r c hr hc W => atTable_any n.toNat r c W (by omega) hr (by omega))
  rw [show ruleB 2 n (tableR n.toNat) = tableB n from rfl] at hc
  generalize tableB n = Q at *
  have HC := Lib.hid hc
  clear hc
  have HL := Lib.hid L0
  clear L0
  go_enter Try.func12, Try.ntmps12
  go_wp2_with fail
  refine (HC.out _).mono ?_
  rintro e w1 ⟨s, rfl, hO, hb⟩
  have L1 := HL.out.own hb hO
  obtain ⟨a1, p1, hv, _⟩ := hO.reads
  subst hv
  have ⟨_, n0, n1, n2, nf⟩ := L1.tl.ownBox
  have hfin := L1.fin3 (n := w.heap.size) (x := .int .i64 0) (y := .int .i64 0) (z := .slice none 0 0) (by simp) (.int .i64 Q.r) (.int .i64 Q.c) (.slice a1 Q.xs.length p1)
  have HF := Lib.hid hfin
  clear L1 hO hb hfin HL HC
  go_wp2_with fail
  exact bodyPost_ret (v := .tuple #[.agg #[.int .i64 Q.r, .int .i64 Q.c, .slice a1 Q.xs.length p1], .bool Q.ok]) (by simp [results, Try.results12, go_sem, n0, n1, n2]) rfl ⟨_, rfl, HF.out.1, HF.out.2⟩
end Go.Proofs.Ytaipcmplpjkebaa
