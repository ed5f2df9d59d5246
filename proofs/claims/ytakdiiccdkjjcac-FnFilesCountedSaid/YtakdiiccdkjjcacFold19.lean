import Derived.Test.YtakdiiccdkjjcacFold18
import Derived.Test.YtakdiiccdkjjcacFold6
import Derived.Test.YtakdiiccdkjjcacFold5
import Derived.Laws.BitsLemmas
import Derived.Test.YtakdiiccdkjjcacFold8
import Derived.Deep.RegionHeld3
import Derived.Test.YtakdiiccdkjjcacFold11

section
namespace Go.Proofs.Ytakdiiccdkjjcac
open Go.RowKit Go.WideShapes

theorem wrap63 (n : Int) (h0 : 0 ≤ n) (h : n < 2 ^ 63) : IntKind.i64.wrap n = n := IntWalk.i64_in _ (by omega)
theorem div_nat (x c : Nat) : (x : Int) / 2 ^ c = ((x / 2 ^ c : Nat) : Int) := by push_cast; rfl
theorem bit_one (x c : Nat) (hx : x < 4096) : bits .and .i64 ((x : Int) / 2 ^ c) 1 = if x.testBit c = true then 1 else 0 := by
  have hd : x / 2 ^ c < 2 ^ 63 := Nat.lt_of_le_of_lt (Nat.div_le_self _ _) (by omega)
  rw [div_nat]
  have := (bits_nat .i64 63 (by decide) (fun n h0 h => wrap63 n h0 h) (x / 2 ^ c) 1 hd (by omega)).1
  rw [show (1 : Int) = ((1 : Nat) : Int) from rfl, this, Nat.and_one_is_mod, Nat.testBit_eq_decide_div_mod_eq]
  rcases Nat.mod_two_eq_zero_or_one (x / 2 ^ c) with h | h <;> simp [h]
theorem bit_on (x c : Nat) (hx : x < 4096) : (bits .and .i64 ((x : Int) / 2 ^ c) 1 == 1) = x.testBit c := by
  rw [bit_one x c hx]
  cases x.testBit c <;> rfl
theorem bit_no (x c : Nat) (hx : x < 4096) : (bits .and .i64 ((x : Int) / 2 ^ c) 1 == 0) = !x.testBit c := by
  rw [bit_one x c hx]
  cases x.testBit c <;> rfl
theorem pow_wrap (c : Nat) (hc : c ≤ 12) : wrap64 (2 ^ c) = ((2 ^ c : Nat) : Int) := by
  have key : ∀ c : Fin 13, wrap64 (2 ^ (c : Nat)) = ((2 ^ (c : Nat) : Nat) : Int) := by decide +kernel
  exact key ⟨c, by omega⟩
theorem or_set (s c : Nat) (hs : s < 4096) (hc : c < 12) : bits .or .i64 (s : Int) (wrap64 (2 ^ c)) = ((s ||| 2 ^ c : Nat) : Int) := by
  have h2 : 2 ^ c ≤ 2 ^ 12 := Nat.pow_le_pow_right (by omega) (by omega)
  rw [pow_wrap c (by omega)]
  exact (bits_nat .i64 63 (by decide) (fun n h0 h => wrap63 n h0 h) s (2 ^ c) (by omega) (by omega)).2
theorem add_big (x y : Nat) (hx : x ≤ 1000000000000000000) (hy : y ≤ 1000000000000000000) : IntKind.i64.wrap ((x : Int) + y) = ((x + y : Nat) : Int) := by
  rw [show (x : Int) + y = ((x + y : Nat) : Int) by push_cast; rfl]
  exact IntWalk.i64_in _ (by omega)

theorem oc_all (n : Nat) (h : n < 4096) : oc n = cntG 12 n := by
  have key : ∀ a : Fin 64, ∀ b : Fin 64, oc (((64 * (a : Nat) + (b : Nat)) : Nat) : Int) = (cntG 12 (64 * (a : Nat) + (b : Nat)) : Int) := by decide +kernel
  have := key ⟨n / 64, by omega⟩ ⟨n % 64, by omega⟩
  simp only at this
  rw [show 64 * (n / 64) + n % 64 = n by omega] at this
  exact this
set_option maxHeartbeats 1600000 in
theorem onesG64_any (n : Nat) (w : World) (hn : n < 4096) :
    Calls Try.prog 168 #[.int .u64 n] w fun e w' => e = .returned (.int .i64 (cntG 12 n)) ∧ w = w' := by
  have h0 : 0 ≤ (n : Int) := by omega
  have h1 : (n : Int) < 4096 := by omega
  go_enter Try.func168, Try.ntmps168
  go_wp2
  go_ret
  exact ⟨ret_int (oc_all n hn), rfl⟩
set_option maxHeartbeats 800000 in
theorem onesG_any (n : Nat) (w : World) (hn : n < 4096) :
    Calls Try.prog 150 #[.int .u64 n] w fun e w' => e = .returned (.int .i64 (cntG 12 n)) ∧ w = w' := by
  go_enter Try.func150, Try.ntmps150
  go_wp2_with fail
  refine (onesG64_any n w hn).mono ?_
  rintro e w' ⟨rfl, rfl⟩
  go_wp2_with fail
  go_ret
  exact ⟨rfl, rfl⟩

/-- Sets of j columns among the first k sets, summed up. -/
def sumG (m : Nat) (B : Nat → Nat → Bool) (r k j : Nat) : Nat := sumN (fun s => if cntG m s = j then wS m B r s else 0) k
theorem sumG_succ (m : Nat) (B : Nat → Nat → Bool) (r k j : Nat) : sumG m B r (k + 1) j = sumG m B r k j + if cntG m k = j then wS m B r k else 0 := rfl
theorem sumG_le (m : Nat) (hm : m ≤ 12) (B : Nat → Nat → Bool) (r : Nat) (hr : r ≤ 12) (k j : Nat) : sumG m B r k j ≤ k * 23298085122481 :=
  sumN_le _ _ _ (fun s _ => by
    show (if _ then _ else _) ≤ _
    split
    · exact Nat.le_trans (wSG_le m hm B r s) (pow13 r hr)
    · omega)
theorem lstL_start (m N : Nat) (B : Nat → Nat → Bool) : (List.replicate N (0 : Int)).set 0 1 = lstL N (wS m B 0) := by
  rw [lstL_zero]
  exact lstL_set N _ _ 0 1 (by simp [wS]) (fun k _ hk => by simp [wS, hk])

/-- The head of the loop over sets. -/
def HcSet (w : World) (m N g : Nat) (B : Nat → Nat → Bool) (r : Nat) (i : Value) (wr : World) : Prop :=
  (∃ s : Nat, s < N ∧ i = .int .i64 s ∧ Law w [tOwn (.slice (some ⟨g, 0, none⟩) N N) (lstL N (midW m B r (s + 1) 0))] wr) ∨
  (i = .int .i64 (-1) ∧ Law w [tOwn (.slice (some ⟨g, 0, none⟩) N N) (lstL N (midW m B r 0 0))] wr)

end Go.Proofs.Ytakdiiccdkjjcac
end

section
namespace Go.Proofs.Ytakdiiccdkjjcac
open Go.RowKit Go.WideShapes

/-- The first c columns of a row that a rule draws. -/
def rulM (R : Nat → Nat → Bool) (r : Nat) : Nat → Nat
  | 0 => 0
  | c + 1 => if R r c = true then rulM R r c ||| 2 ^ c else rulM R r c
theorem rulM_lt (R : Nat → Nat → Bool) (r c : Nat) : rulM R r c < 2 ^ c := by
  induction c with
  | zero => simp [rulM]
  | succ c ih =>
    have h2 : 2 ^ c < 2 ^ (c + 1) := Nat.pow_lt_pow_right (by omega) (by omega)
    rw [rulM]
    split
    · exact Nat.or_lt_two_pow (by omega) h2
    · omega
theorem rulM_bit (R : Nat → Nat → Bool) (r c b : Nat) : (rulM R r c).testBit b = (decide (b < c) && R r b) := by
  induction c with
  | zero => simp [rulM]
  | succ c ih =>
    rw [rulM]
    cases h : R r c
    · rw [if_neg (by simp), ih]
      by_cases e : b = c
      · subst e; simp [h]
      · have : decide (b < c + 1) = decide (b < c) := by rw [decide_eq_decide]; omega
        rw [this]
    · rw [if_pos rfl, Nat.testBit_or, ih, Nat.testBit_two_pow]
      by_cases e : b = c
      · subst e; simp [h]
      · have h1 : decide (b < c + 1) = decide (b < c) := by rw [decide_eq_decide]; omega
        have h2 : decide (c = b) = false := by simp; omega
        rw [h1, h2, Bool.or_false]
/-- All rows. -/
def rowsL (R : Nat → Nat → Bool) (n : Nat) : List Int := lstH n (fun r => (rulM R r n : Nat))
/-- The first r rows, and c columns of the next one. -/
def curM (R : Nat → Nat → Bool) (n r c i : Nat) : Int := if i < r then (rulM R i n : Nat) else if i = r then (rulM R r c : Nat) else 0
theorem curM_zero (R : Nat → Nat → Bool) (n : Nat) : List.replicate n (0 : Int) = lstH n (curM R n 0 0) := by
  rw [lstH_zero]
  exact lstH_congr n _ _ (fun k _ => by simp [curM, rulM])
theorem curM_row (R : Nat → Nat → Bool) (n r : Nat) : lstH n (curM R n r n) = lstH n (curM R n (r + 1) 0) := lstH_congr n _ _ (fun k _ => by
  unfold curM
  by_cases h1 : k < r
  · rw [if_pos h1, if_pos (by omega)]
  · rw [if_neg h1]
    by_cases h2 : k = r
    · rw [if_pos h2, if_pos (by omega), h2]
    · rw [if_neg h2, if_neg (by omega)]
      split <;> simp [rulM])
theorem curM_full (R : Nat → Nat → Bool) (n : Nat) : lstH n (curM R n n 0) = rowsL R n := lstH_congr n _ _ (fun k hk => by simp [curM, hk])
theorem curM_skip (R : Nat → Nat → Bool) (n r c : Nat) (h : R r c = false) : lstH n (curM R n r c) = lstH n (curM R n r (c + 1)) := lstH_congr n _ _ (fun k _ => by simp [curM, rulM, h])
theorem curM_set (R : Nat → Nat → Bool) (n r c : Nat) (h : R r c = true) : (lstH n (curM R n r c)).set r ((rulM R r c ||| 2 ^ c : Nat) : Int) = lstH n (curM R n r (c + 1)) :=
  lstH_set n _ _ r _ (by simp [curM, rulM, h]) (fun i _ hi => by simp [curM, hi])
theorem curM_at (R : Nat → Nat → Bool) (n r c : Nat) : curM R n r c r = (rulM R r c : Nat) := by simp [curM]

set_option maxRecDepth 100000 in
set_option maxHeartbeats 6400000 in
theorem cellsBy_any (n : Nat) (F : FuncId) (R : Nat → Nat → Bool) (w : World) (hn : n ≤ 12)
    (hcall : ∀ (args : Array Value) (w : World), (callFunc F args).run Try.prog w = .ok (.enter F args) w)
    (hF : ∀ r c, r < n → c < n → ∀ W, Calls Try.prog F #[.int .i64 n, .int .i64 r, .int .i64 c] W fun e w' => e = .returned (.bool (R r c)) ∧ w' = W) :
    Calls Try.prog 162 #[.int .i64 n, .func (.func F) #[] #[]] w fun e w' => ∃ g p, e = .returned (.slice (some ⟨g, 0, none⟩) n p) ∧ Own w' w.heap.size (.slice (some ⟨g, 0, none⟩) n p) (rowsL R n) ∧ Below w.heap.size w w' := by
  have hmk : ∀ w, (Instr.makeSlice 22 (.int .i64 (n : Int)) (.int .i64 (n : Int))).run Try.prog w = .ok (.slice (some ⟨w.heap.size, 0, none⟩) n n) (w.alloc (.cells (madeCells #[.int .i64 0] n) 3)) := by
    intro w
    exact run_make_row' (P := Try.prog) 22 3 (.int .i64 0) 8 Try.underlying22 Try.infoI rfl .i64 .i64 n (by omega) (by omega) w
  have L0 := (Law.start w).own (below_new _) (own_made w n _ w.heap.size rfl (Nat.le_refl _) (by omega))
  rw [curM_zero R n] at L0
  have HL := Lib.hid L0
  have HF := Lib.hid hF
  have hn12 : (n : Int) ≤ 12 := by omega
  clear L0 hF
  go_enter Try.func162, Try.ntmps162
  go_upto_region 2 with fail
  generalize w.alloc (.cells (madeCells #[.int .i64 0] n) 3) = w5 at *
  obtain ⟨g, hgg⟩ : ∃ g, g = w.heap.size := ⟨_, rfl⟩
  rw [← hgg] at HL ⊢
  have HGG := Lib.hid hgg
  clear hmk hgg
  go_wp2_with fail
  go_loopw [12] (fun i wr => ∃ r : Nat, r ≤ n ∧ i = .int .i64 r ∧ Law w [tOwn (.slice (some ⟨g, 0, none⟩) n n) (lstH n (curM R n r 0))] wr) (fun i _ => n - (intOf i).toNat)
  case atStart => exact ⟨0, Nat.zero_le _, rfl, HL.out⟩
  case round =>
    clear HL
    obtain ⟨r, hr, rfl, L⟩ := hrel
    have HL := Lib.hid L
    clear L
    by_cases hlt : r < n
    · go_wp2_with fail
      go_loopw [16] (fun i wr => ∃ c : Nat, c ≤ n ∧ i = .int .i64 c ∧ Law w [tOwn (.slice (some ⟨g, 0, none⟩) n n) (lstH n (curM R n r c))] wr) (fun i _ => n - (intOf i).toNat)
      case atStart => exact ⟨0, Nat.zero_le _, rfl, HL.out⟩
      case round =>
        clear HL
        obtain ⟨c, hc, rfl, L⟩ := hrel
        by_cases hcn : c < n
        · have HC := Lib.hid (HF.out r c hlt hcn wr)
          cases hR : R r c
          · rw [hR] at HC
            rw [curM_skip R n r c hR] at L
            have HL := Lib.hid L
            clear L hR
            go_wp2_with fail
            refine HC.out.mono ?_
            rintro e w2 ⟨rfl, rfl⟩
            go_wp2_with fail
            go_roundw
            case rel => exact ⟨c + 1, by omega, by go_num, HL.out⟩
            case measure => simp [intOf]; omega
          · rw [hR] at HC
            have hO := L.drew.ownInts
            have y1 := Own.cell (by rw [lstH_len]; exact hO) r (by rw [lstH_len]; exact hlt)
            have y2 := Own.free (by rw [lstH_len]; exact hO) r
            rw [lstH_get n _ r hlt, curM_at] at y1
            have hS := Law.store (ts := []) L.drew (lstH_len _ _) r ((rulM R r c ||| 2 ^ c : Nat) : Int)
            rw [curM_set R n r c hR] at hS
            have HS2 := Lib.hid (show Law w [tOwn (.slice (some ⟨g, 0, none⟩) n n) (lstH n (curM R n r (c + 1)))] (wr.drew.setCell ⟨g, r, none⟩ (.int .i64 ((rulM R r c ||| 2 ^ c : Nat) : Int))) from hS)
            have hlt2 := rulM_lt R r c
            have hp : 2 ^ c ≤ 2 ^ 12 := Nat.pow_le_pow_right (by omega) (by omega)
            have hor := or_set (rulM R r c) c (by omega) (by omega)
            have hr0 : (0 : Int) ≤ r := by omega
            have hr1 : (r : Int) < n := by omega
            have hc64 : (c : Int) < 64 := by omega
            generalize rulM R r c ||| 2 ^ c = y at *
            generalize rulM R r c = x at *
            clear hS hO L hR hlt2 hp
            go_wp2_with fail
            refine HC.out.mono ?_
            rintro e w2 ⟨rfl, hw⟩
            subst w2
            go_wp2_with fail
            go_region
            go_wp2_with fail
            go_roundw
            case rel => exact ⟨c + 1, by omega, by go_num, HS2.out⟩
            case measure => simp [intOf]; omega
        · obtain rfl : c = n := by omega
          rw [curM_row] at L
          have HL := Lib.hid L
          clear L hcn
          go_wp2_with fail
          go_roundw
          case rel => exact ⟨r + 1, by omega, by go_num, HL.out⟩
          case measure => simp [intOf]; omega
    · obtain rfl : r = n := by omega
      have HL2 := Lib.hid (show Law w [tOwn (.slice (some ⟨g, 0, none⟩) r r) (rowsL R r)] wr by rw [← curM_full]; exact HL.out)
      clear HL
      go_wp2_with fail
      go_ret
      exact ⟨_, _, rfl, HL2.out.ownLo, HL2.out.below⟩
end Go.Proofs.Ytakdiiccdkjjcac
end

section
namespace Go.Proofs.Ytakdiiccdkjjcac
open Go.RowKit Go.WideShapes

/-- The board of a rule. -/
def ruleB (least n : Int) (R : Nat → Nat → Bool) : BR := if inB least n 6 then ⟨n, n, rowsL R n.toNat, true⟩ else BR.zero
theorem rowsL_len (R : Nat → Nat → Bool) (n : Nat) : (rowsL R n).length = n := lstH_len _ _
theorem rowsL_get (R : Nat → Nat → Bool) (n k : Nat) (h : k < n) : (rowsL R n).getD k 0 = (rulM R k n : Nat) := lstH_get n _ k h
theorem ruleB_len (least n : Int) (R : Nat → Nat → Bool) (_hl : 1 ≤ least) : (ruleB least n R).xs.length ≤ 1048576 := by
  unfold ruleB
  split
  · rename_i h
    have := inB_iff.1 h
    show (rowsL R n.toNat).length ≤ _
    rw [rowsL_len]; omega
  · simp [BR.zero]
def diagR (r c : Nat) : Bool := decide (c = r)
def aboveR (r c : Nat) : Bool := decide (r < c)
def tableR (n r c : Nat) : Bool := decide (c = r) || decide (c = (r + 1) % n)
def diagB (n : Int) : BR := ruleB 1 n diagR
def aboveB (n : Int) : BR := ruleB 1 n aboveR
def tableB (n : Int) : BR := ruleB 2 n (tableR n.toNat)
theorem diagB_len (n : Int) : (diagB n).xs.length ≤ 1048576 := ruleB_len _ _ _ (by omega)
theorem aboveB_len (n : Int) : (aboveB n).xs.length ≤ 1048576 := ruleB_len _ _ _ (by omega)
theorem tableB_len (n : Int) : (tableB n).xs.length ≤ 1048576 := ruleB_len _ _ _ (by omega)

set_option maxHeartbeats 800000 in
theorem above_any (n r c : Nat) (w : World) : Calls Try.prog 132 #[.int .i64 n, .int .i64 r, .int .i64 c] w fun e w' => e = .returned (.bool (aboveR r c)) ∧ w' = w := by
  have HD := Lib.hid (show decide ((r : Int) < (c : Int)) = aboveR r c by unfold aboveR; rw [decide_eq_decide]; omega)
  by_cases h : (r : Int) < c
  · have HT := Lib.hid (show aboveR r c = true by rw [← HD.out]; exact decide_eq_true h)
    go_enter Try.func132, Try.ntmps132
    go_wp2_with fail
    go_ret
    exact ⟨ret_bool (by rw [HT.out]), rfl⟩
  · have HT := Lib.hid (show aboveR r c = false by rw [← HD.out]; exact decide_eq_false h)
    go_enter Try.func132, Try.ntmps132
    go_wp2_with fail
    go_ret
    exact ⟨ret_bool (by rw [HT.out]), rfl⟩

set_option maxRecDepth 100000 in
set_option maxHeartbeats 3200000 in
theorem boardBy_any (n least : Int) (F : FuncId) (R : Nat → Nat → Bool) (w : World) (hl : 1 ≤ least)
    (hcall : ∀ (args : Array Value) (w : World), (callFunc F args).run Try.prog w = .ok (.enter F args) w)
    (hF : 1 ≤ n → n ≤ 6 → ∀ r c, r < n.toNat → c < n.toNat → ∀ W, Calls Try.prog F #[.int .i64 n.toNat, .int .i64 r, .int .i64 c] W fun e w' => e = .returned (.bool (R r c)) ∧ w' = W) :
    Calls Try.prog 131 #[.int .i64 n, .int .i64 least, .func (.func F) #[] #[]] w fun e w' => AnsB (ruleB least n R) w e w' := by
  have L0 := (Law.start w).box (.int .i64 0) (.int .i64 0) (.slice none 0 0) 28
  cases hg : inB least n 6
  · rw [show ruleB least n R = BR.zero by simp [ruleB, hg]]
    have hno : ¬ (least ≤ n ∧ n ≤ 6) := fun h => by rw [inB_yes h.1 h.2] at hg; cases hg
    have ⟨_, n0, n1, n2, nf⟩ := L0.ownBox
    have HB := Lib.hid L0.below
    clear L0 hg hF
    by_cases h1 : n < least
    · clear hno
      go_enter Try.func131, Try.ntmps131
      go_wp2_with fail
      refine bodyPost_ret (v := .tuple #[.agg #[.int .i64 0, .int .i64 0, .slice none 0 0], .bool false]) (by simp [results, Try.results131, go_sem, n0, n1, n2]) rfl (ansB_zero _ _ ?_)
      have h2 := HB.out
      repeat (refine Below.setCell ?_ (by first | exact Nat.le_refl _ | (simp <;> omega) | simp | omega) _)
      exact h2
    · have h2 : 6 < n := by omega
      clear hno
      go_enter Try.func131, Try.ntmps131
      go_wp2_with fail
      refine bodyPost_ret (v := .tuple #[.agg #[.int .i64 0, .int .i64 0, .slice none 0 0], .bool false]) (by simp [results, Try.results131, go_sem, n0, n1, n2]) rfl (ansB_zero _ _ ?_)
      have h2 := HB.out
      repeat (refine Below.setCell ?_ (by first | exact Nat.le_refl _ | (simp <;> omega) | simp | omega) _)
      exact h2
  · obtain ⟨h1, h2⟩ := inB_iff.1 hg
    obtain ⟨m, rfl⟩ := Int.eq_ofNat_of_zero_le (show 0 ≤ n by omega)
    rw [show ruleB least m R = ⟨m, m, rowsL R m, true⟩ by simp [ruleB, hg]]
    have HC := Lib.hid (fun W => cellsBy_any m F R W (by omega) hcall (fun r c hr hc => hF (by omega) (by omega) r c hr hc))
    have hlt : ¬ (m : Int) < least := by omega
    have h6 : ¬ (6 : Int) < m := by omega
    have HL := Lib.hid L0
    have HZ := Lib.hid (rowsL_len R m)
    clear L0 hg hF h1 h2
    go_enter Try.func131, Try.ntmps131
    go_wp2_with fail
    refine (HC.out _).mono ?_
    rintro e w1 ⟨g, p, rfl, hO, hb⟩
    have L1 := HL.out.own hb hO
    have ⟨_, n0, n1, n2, nf⟩ := L1.tl.ownBox
    have hfin := L1.fin3 (n := w.heap.size) (x := .int .i64 0) (y := .int .i64 0) (z := .slice none 0 0) (by simp) (.int .i64 m) (.int .i64 m) (.slice (some ⟨g, 0, none⟩) m p)
    have HF2 := Lib.hid hfin
    clear L1 hO hb hfin HL HC
    go_wp2_with fail
    exact bodyPost_ret (v := .tuple #[.agg #[.int .i64 m, .int .i64 m, .slice (some ⟨g, 0, none⟩) m p], .bool true]) (by simp [results, Try.results131, go_sem, n0, n1, n2]) rfl ⟨_, rfl, HF2.out.1, HF2.out.2⟩


set_option maxRecDepth 100000 in
set_option maxHeartbeats 1600000 in
theorem implAboveBoard_any (n : Int) (w : World) : Calls Try.prog 75 #[.int .i64 n] w fun e w' => AnsB (aboveB n) w e w' := by
  have L0 := (Law.start w).box (.int .i64 0) (.int .i64 0) (.slice none 0 0) 28
  have hc := fun W => boardBy_any n 1 132 aboveR W (by omega) (fun _ _ => by kernel_rfl) (fun hn hn6 r c hr hc W => above_any n.toNat r c W)
  rw [show ruleB 1 n aboveR = aboveB n from rfl] at hc
  generalize aboveB n = Q at *
  have HC := Lib.hid hc
  clear hc
  have HL := Lib.hid L0
  clear L0
  go_enter Try.func75, Try.ntmps75
  go_wp2_with fail
  refine (HC.out _).mono ?_
  rintro e w1 ⟨s, rfl, hO, hb⟩
  have L1 := HL.out.own hb hO
  obtain ⟨a1, p1, hv, _⟩ := hO.reads
  subst hv
  have ⟨_, n0, n1, n2, nf⟩ := L1.tl.ownBox
  have hfin := L1.fin3 (n := w.heap.size) (x := .int .i64 0) (y := .int .i64 0) (z := .slice none 0 0) (by simp) (.int .i64 Q.r) (.int .i64 Q.c) (.slice a1 Q.xs.length p1)
  have HF := Lib.hid hfin
  clear L1 hO hb hfin HL HC
  go_wp2_with fail
  exact bodyPost_ret (v := .tuple #[.agg #[.int .i64 Q.r, .int .i64 Q.c, .slice a1 Q.xs.length p1], .bool Q.ok]) (by simp [results, Try.results75, go_sem, n0, n1, n2]) rfl ⟨_, rfl, HF.out.1, HF.out.2⟩

end Go.Proofs.Ytakdiiccdkjjcac
end
