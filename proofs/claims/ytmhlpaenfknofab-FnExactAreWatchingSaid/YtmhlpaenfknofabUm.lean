/- Places that queens reach, in the program. No condition but the sizes. -/
import Derived.Test.YtmhlpaenfknofabUc
import Derived.Test.YtmhlpaenfknofabD
import Derived.ChangeKeysEq
namespace Go.Proofs.Ytmhlpaenfknofab
open Go.RowKit Go.WideShapes

/-- A set of places: its rows' masks. -/
def sl8 (F : Nat → Int) : List Value := [.int .i64 (F 0), .int .i64 (F 1), .int .i64 (F 2), .int .i64 (F 3), .int .i64 (F 4), .int .i64 (F 5), .int .i64 (F 6), .int .i64 (F 7)]
abbrev sv (F : Nat → Int) : Value := .agg #[.int .i64 (F 0), .int .i64 (F 1), .int .i64 (F 2), .int .i64 (F 3), .int .i64 (F 4), .int .i64 (F 5), .int .i64 (F 6), .int .i64 (F 7)]
theorem sl8_get (F : Nat → Int) (i : Nat) (h : i < 8) : (sl8 F)[i]? = some (.int .i64 (F i)) := by
  rcases eight_cases h with rfl | rfl | rfl | rfl | rfl | rfl | rfl | rfl <;> rfl
theorem sl8_set (F G : Nat → Int) (i : Nat) (h : i < 8) (x : Int) (hx : G i = x) (ho : ∀ k, k ≠ i → G k = F k) : (sl8 F).set i (.int .i64 x) = sl8 G := by
  rcases eight_cases h with rfl | rfl | rfl | rfl | rfl | rfl | rfl | rfl <;> simp [sl8, hx, ho]
theorem Has.put8Q {w : World} {b : Nat} {v0 v1 v2 v3 v4 v5 v6 v7 : Value} {t : TypeId} (h : Has w b [v0, v1, v2, v3, v4, v5, v6, v7] t) (F : Nat → Int) : Has ((((((((w.setCell ⟨b, 0, none⟩ (.int .i64 (F 0))).setCell ⟨b, 1, none⟩ (.int .i64 (F 1))).setCell ⟨b, 2, none⟩ (.int .i64 (F 2))).setCell ⟨b, 3, none⟩ (.int .i64 (F 3))).setCell ⟨b, 4, none⟩ (.int .i64 (F 4))).setCell ⟨b, 5, none⟩ (.int .i64 (F 5))).setCell ⟨b, 6, none⟩ (.int .i64 (F 6))).setCell ⟨b, 7, none⟩ (.int .i64 (F 7))) b (sl8 F) t :=
  (((((((h.set 0 _).set 1 _).set 2 _).set 3 _).set 4 _).set 5 _).set 6 _).set 7 _
theorem below_put8 {lo : Nat} {w0 w : World} (h : Below lo w0 w) (b : Nat) (hb : lo ≤ b) (F : Nat → Int) : Below lo w0 ((((((((w.setCell ⟨b, 0, none⟩ (.int .i64 (F 0))).setCell ⟨b, 1, none⟩ (.int .i64 (F 1))).setCell ⟨b, 2, none⟩ (.int .i64 (F 2))).setCell ⟨b, 3, none⟩ (.int .i64 (F 3))).setCell ⟨b, 4, none⟩ (.int .i64 (F 4))).setCell ⟨b, 5, none⟩ (.int .i64 (F 5))).setCell ⟨b, 6, none⟩ (.int .i64 (F 6))).setCell ⟨b, 7, none⟩ (.int .i64 (F 7))) :=
  (((((((h.setCell hb _).setCell hb _).setCell hb _).setCell hb _).setCell hb _).setCell hb _).setCell hb _).setCell hb _
theorem or_step8 (x : Nat) (c : Nat) (hc : c < 8) (h : x < 2 ^ c) : bits .or .i64 (x : Int) (wrap64 (2 ^ c)) = ((x + 2 ^ c : Nat) : Int) := by
  have key : ∀ c : Fin 8, ∀ x : Fin 256, (x : Nat) < 2 ^ (c : Nat) → bits .or .i64 ((x : Nat) : Int) (wrap64 (2 ^ (c : Nat))) = (((x : Nat) + 2 ^ (c : Nat) : Nat) : Int) := by decide +kernel
  have h64 : x < 256 := Nat.lt_of_lt_of_le h (by have := Nat.pow_le_pow_right (show 0 < 2 by omega) (show c ≤ 8 by omega); simpa using this)
  exact key ⟨c, hc⟩ ⟨x, h64⟩ h
theorem or_ints8 (a b : Nat) (ha : a < 256) (hb : b < 256) : bits .or .i64 (a : Int) (b : Int) = ((a ||| b : Nat) : Int) := by
  have key : ∀ a1 : Fin 16, ∀ a2 : Fin 16, ∀ b : Fin 256, bits .or .i64 ((a1.val * 16 + a2.val : Nat) : Int) ((b.val : Nat) : Int) = (((a1.val * 16 + a2.val) ||| b.val : Nat) : Int) := by decide +kernel
  have := key ⟨a / 16, by omega⟩ ⟨a % 16, by omega⟩ ⟨b, hb⟩
  simp only at this
  rwa [show a / 16 * 16 + a % 16 = a by omega] at this
theorem rowM_tq (p : Nat → Bool) (m b : Nat) : (rowM p m).testBit b = (decide (b < m) && p b) := by
  induction m with
  | zero => simp [rowM]
  | succ m ih =>
    rw [rowM]
    by_cases hp : p m = true
    · rw [if_pos hp, Nat.add_comm, show 2 ^ m = 2 ^ m * 1 by omega]
      by_cases hb : b < m
      · rw [Nat.testBit_two_pow_mul_add 1 (rowM_lt p m), if_pos hb, ih]
        simp [hb, show b < m + 1 by omega]
      · rw [Nat.testBit_two_pow_mul_add 1 (rowM_lt p m), if_neg hb]
        by_cases e : b = m
        · subst e; simp [hp]
        · have : b - m = (b - m - 1) + 1 := by omega
          rw [this, Nat.testBit_succ]
          simp
          omega
    · rw [if_neg hp, Nat.add_zero, ih]
      by_cases e : b = m
      · subst e
        have : p b = false := by simpa using hp
        simp [this]
      · by_cases hb : b < m
        · simp [hb, show b < m + 1 by omega]
        · simp [hb, show ¬ b < m + 1 by omega]
theorem rowM_256 (p : Nat → Bool) (m : Nat) (h : m ≤ 8) : rowM p m < 256 :=
  Nat.lt_of_lt_of_le (rowM_lt p m) (by have := Nat.pow_le_pow_right (show 0 < 2 by omega) h; simpa using this)
theorem rowM_or (p q : Nat → Bool) (m : Nat) : rowM p m ||| rowM q m = rowM (fun j => p j || q j) m := by
  refine Nat.eq_of_testBit_eq (fun b => ?_)
  rw [Nat.testBit_or, rowM_tq, rowM_tq, rowM_tq]
  cases decide (b < m) <;> simp
/-- A set of places as the program keeps it. -/
def sgF (n : Nat) (R : Nat → Nat → Bool) : Nat → Int := drawn R n n 0
theorem sgF_at (n : Nat) (R : Nat → Nat → Bool) (i : Nat) : sgF n R i = if i < n then (rowM (R i) n : Int) else 0 := by
  unfold sgF drawn
  split
  · rfl
  · split
    · simp [rowM]
    · rfl
theorem sgF_none (n : Nat) : sgF n (fun _ _ => false) = fun _ => 0 := by
  funext i
  rw [sgF_at]
  split
  · have : ∀ m, rowM (fun _ => false) m = 0 := by
      intro m
      induction m with
      | zero => rfl
      | succ m ih => rw [rowM, ih]; rfl
    rw [this]; rfl
  · rfl
theorem sgF_or (n : Nat) (hn : n ≤ 8) (R S : Nat → Nat → Bool) (i : Nat) : bits .or .i64 (sgF n R i) (sgF n S i) = sgF n (fun a b => R a b || S a b) i := by
  rw [sgF_at, sgF_at, sgF_at]
  split
  · rw [or_ints8 _ _ (rowM_256 _ _ hn) (rowM_256 _ _ hn), rowM_or]
  · exact or_ints8 0 0 (by omega) (by omega)
theorem rowM_inj (p q : Nat → Bool) (m : Nat) (h : rowM p m = rowM q m) (j : Nat) (hj : j < m) : p j = q j := by
  have := congrArg (fun x => x.testBit j) h
  simp only [rowM_tq, hj, decide_true, Bool.true_and] at this
  exact this
theorem rowM_same (p q : Nat → Bool) (m : Nat) (h : ∀ j, j < m → p j = q j) : rowM p m = rowM q m := by
  induction m with
  | zero => rfl
  | succ m ih => rw [rowM, rowM, ih (fun j hj => h j (by omega)), h m (by omega)]
/-- All places. -/
def allT : Nat → Nat → Bool := fun _ _ => true
def seeAll (n : Nat) (R : Nat → Nat → Bool) : Bool := (List.range n).all fun i => (List.range n).all fun j => R i j
theorem seeAll_iff (n : Nat) (R : Nat → Nat → Bool) : seeAll n R = true ↔ ∀ i j, i < n → j < n → R i j = true := by
  unfold seeAll
  simp only [List.all_eq_true, List.mem_range]
  constructor
  · intro h i j hi hj
    exact h i hi j hj
  · intro h i hi j hj
    exact h i j hi hj
def eq8 (F G : Nat → Int) : Bool := (List.range 8).all fun i => F i == G i
theorem eq8_all (n : Nat) (hn : n ≤ 8) (R : Nat → Nat → Bool) : eq8 (sgF n R) (sgF n allT) = seeAll n R := by
  rw [Bool.eq_iff_iff, seeAll_iff]
  unfold eq8
  simp only [List.all_eq_true, List.mem_range, beq_iff_eq]
  constructor
  · intro h i j hi hj
    have := h i (by omega)
    rw [sgF_at, sgF_at, if_pos hi, if_pos hi] at this
    exact rowM_inj (R i) (fun _ => true) n (by exact_mod_cast this) j hj
  · intro h i _
    rw [sgF_at, sgF_at]
    split
    · rename_i hi
      rw [rowM_same (R i) (allT i) n (fun j hj => by rw [h i j hi hj]; rfl)]
    · rfl
theorem eqItemsQ (P : Program) (d : Nat) (e : TypeId) (he : P.plainKey e = true) (hu : P.underlying e = some (.int .i64)) (xs ys : Array Value) (F G : Nat → Int) (W : World) : ∀ is : List Nat, (∀ i ∈ is, xs[i]? = some (.int .i64 (F i)) ∧ ys[i]? = some (.int .i64 (G i))) →
    (Op.eqItems (d + 1) e 1 xs ys is).run P W = .ok (is.all fun i => F i == G i) W := by
  intro is
  induction is with
  | nil => intro _; simp [Op.eqItems]
  | cons i is ih =>
    intro h
    obtain ⟨h1, h2⟩ := h i (by simp)
    have ih := ih (fun k hk => h k (by simp [hk]))
    simp only [Op.eqItems, Sem.run_bind, Nat.mul_one, run_part_plain W he h1, run_part_plain W he h2, Result.andThen_ok, run_equalIn_int W d e .i64 .i64 (F i) (G i) hu, List.all_cons]
    cases hh : F i == G i
    · simp
    · simp only [Bool.not_true, Bool.false_eq_true, if_false, ih, Bool.true_and]
theorem equal8 (F G : Nat → Int) (W : World) : (Op.equalIn 10000 60 (.agg #[.int .i64 (F 0), .int .i64 (F 1), .int .i64 (F 2), .int .i64 (F 3), .int .i64 (F 4), .int .i64 (F 5), .int .i64 (F 6), .int .i64 (F 7)]) (.agg #[.int .i64 (G 0), .int .i64 (G 1), .int .i64 (G 2), .int .i64 (G 3), .int .i64 (G 4), .int .i64 (G 5), .int .i64 (G 6), .int .i64 (G 7)])).run Try.prog W = .ok (eq8 F G) W := by
  obtain ⟨i, hi, _⟩ := Option.map_eq_some_iff.1 Try.infoI
  rw [run_equalIn_array W 9999 (e := 3) (n := 8) (i := i) _ _ (by kernel_rfl) hi, show Try.prog.cellsOf 3 = 1 by kernel_rfl]
  exact eqItemsQ Try.prog 9998 3 (by kernel_rfl) (by kernel_rfl) _ _ F G W (List.range 8) (fun i hi => by
    have h6 := List.mem_range.1 hi
    have e1 := sl8_get F i h6
    have e2 := sl8_get G i h6
    exact ⟨by rw [← List.getElem?_toArray] at e1; exact e1, by rw [← List.getElem?_toArray] at e2; exact e2⟩)

def qQ (d r : Int) : Bool := d == 0 || (r == 0 || bQ d r)
theorem queenQ_any (d r : Int) (W : World) (hr : -8 ≤ r ∧ r ≤ 8) : Calls Try.prog 79 #[.int .i64 d, .int .i64 r] W fun e w' => e = .returned (.bool (qQ d r)) ∧ w' = W := by
  have HB := Lib.hid (fun W => bishopQ_any d r W hr)
  unfold qQ
  generalize bQ d r = b at *
  cases h1 : (d == 0)
  · cases h2 : (r == 0)
    · go_enter Try.func79, Try.ntmps79
      go_wp2_with fail
      refine (HB.out _).mono ?_
      rintro e w2 ⟨rfl, hw⟩
      subst hw
      go_wp2_with fail
      go_ret
      exact ⟨rfl, rfl⟩
    · go_enter Try.func79, Try.ntmps79
      go_wp2_with fail
      go_ret
      exact ⟨rfl, rfl⟩
  · go_enter Try.func79, Try.ntmps79
    go_wp2_with fail
    go_ret
    exact ⟨rfl, rfl⟩
theorem firstColsQ_any (n : Nat) (w : World) (hn : n ≤ 8) : Calls Try.prog 80 #[.int .i64 n] w fun e w' => e = .returned (.int .i64 (rowM (fun _ => true) n : Nat)) ∧ w' = w := by
  have : n = 0 ∨ n = 1 ∨ n = 2 ∨ n = 3 ∨ n = 4 ∨ n = 5 ∨ n = 6 ∨ n = 7 ∨ n = 8 := by omega
  rcases this with rfl | rfl | rfl | rfl | rfl | rfl | rfl | rfl | rfl <;>
  · go_enter Try.func80, Try.ntmps80
    go_wp2
    go_ret
    exact ⟨rfl, rfl⟩
theorem drawn_row (p : Nat → Nat → Bool) (m k : Nat) : drawn p m (k + 1) 0 k = (rowM (p k) m : Int) ∧ ∀ j, j ≠ k → drawn p m (k + 1) 0 j = drawn p m k 0 j := by
  constructor
  · unfold drawn; rw [if_pos (by omega)]
  · intro j hj
    unfold drawn
    by_cases h : j < k
    · rw [if_pos (by omega), if_pos h]
    · rw [if_neg (by omega), if_neg h, if_neg hj]
      split
      · simp [rowM]
      · rfl
set_option maxRecDepth 100000 in
set_option maxHeartbeats 3200000 in
theorem allPlaces_any (n : Nat) (w : World) (hn : n ≤ 8) :
    Calls Try.prog 50 #[.int .i64 n] w fun e w' => e = .returned (sv (sgF n allT)) ∧ Below w.heap.size w w' := by
  have L0 := ((Law.start w).has (sl8 (fun _ => 0)) 60).has (sl8 (drawn allT n 0 0)) 60
  simp only [World.size_alloc] at L0
  rw [drawn_zero] at L0
  rw [show (w.alloc (.cells (sl8 (fun _ => 0)).toArray 60)).alloc (.cells (sl8 (fun _ => 0)).toArray 60) = (w.alloc (.cells #[.int .i64 0, .int .i64 0, .int .i64 0, .int .i64 0, .int .i64 0, .int .i64 0, .int .i64 0, .int .i64 0] 60)).alloc (.cells #[.int .i64 0, .int .i64 0, .int .i64 0, .int .i64 0, .int .i64 0, .int .i64 0, .int .i64 0, .int .i64 0] 60) from rfl] at L0
  have HL := Lib.hid L0
  have HC := Lib.hid (fun W => firstColsQ_any n W hn)
  clear L0
  obtain ⟨S, hS⟩ : ∃ S, S = sgF n allT := ⟨_, rfl⟩
  have HSS := Lib.hid (show S = drawn allT n n 0 from hS)
  rw [← hS]
  clear hS
  go_enter Try.func50, Try.ntmps50
  go_upto_region 2 with fail
  generalize (w.alloc _).alloc _ = w1 at *
  go_wp2_with fail
  go_loopw [6] (fun i wr => ∃ k : Nat, k ≤ n ∧ i = .int .i64 k ∧ Hid (Law w [tHas (w.heap.size + 1) (sl8 (drawn allT n k 0)) 60, tHas w.heap.size (sl8 (fun _ => 0)) 60] wr)) (fun i _ => n - (intOf i).toNat)
  case atStart => exact ⟨0, Nat.zero_le _, rfl, by rw [drawn_zero]; exact HL⟩
  case round =>
    clear HL
    obtain ⟨k, hk, rfl, HL⟩ := hrel
    by_cases hlt : k < n
    · have hk8 : k < 8 := by omega
      have hst := Law.setHas (ts := []) HL.out k (.int .i64 (rowM (fun _ => true) n : Nat))
      rw [sl8_set _ (drawn allT n (k + 1) 0) k hk8 _ (show drawn allT n (k + 1) 0 k = ((rowM (fun _ => true) n : Nat) : Int) from (drawn_row allT n k).1) (drawn_row allT n k).2] at hst
      have HS := Lib.hid hst
      have hcz := HL.out.ownHas.cell k
      rw [sl8_get _ k hk8] at hcz
      have hfz := HL.out.ownHas.free k
      generalize drawn allT n k 0 k = old at *
      generalize ((rowM (fun _ => true) n : Nat) : Int) = z at *
      clear HL hst
      go_wp2_with (go_at_call 80; ((with_reducible refine (HC.out _).mono ?_); rintro e w' ⟨rfl, hw⟩; subst hw))
      clear hcz hfz
      go_roundw
      case rel => first | exact ⟨k + 1, by omega, by go_num, HS⟩ | ((repeat apply Exists.intro); exact ⟨⟨k + 1, by omega, by go_num, HS⟩, rfl⟩)
      case measure => simp [intOf]; omega
    · obtain rfl : k = n := by omega
      have hL := HL.out
      rw [← HSS.out] at hL
      obtain ⟨f0, f1, f2, f3, f4, f5, f6, f7, ff⟩ := hL.tl.ownHas.eight
      obtain ⟨g0, g1, g2, g3, g4, g5, g6, g7, gf⟩ := hL.ownHas.eight
      have hp := hL.tl.ownHas.put8Q S
      have HB := Lib.hid (And.intro hL.below hL.tl.ownHas.lt)
      clear HL hL
      go_wp2_with fail
      clear f0 f1 f2 f3 f4 f5 f6 f7 ff g0 g1 g2 g3 g4 g5 g6 g7 gf
      obtain ⟨f0, f1, f2, f3, f4, f5, f6, f7, ff⟩ := hp.eight
      clear hp
      refine bodyPost_ret (v := sv S) (by simp [results, Try.results50, go_sem, f0, f1, f2, f3, f4, f5, f6, f7]) rfl ⟨rfl, ?_⟩
      exact below_put8 HB.out.1 _ (Nat.le_refl _) S
def rchB (r c : Nat) : Nat → Nat → Bool := fun i j => qQ ((i : Int) - r) ((j : Int) - c)
set_option maxRecDepth 100000 in
set_option maxHeartbeats 6400000 in
theorem reach_any (n r c : Nat) (w : World) (hn : n ≤ 8) (hr : r < 8) (hc : c < 8) :
    Calls Try.prog 49 #[.int .i64 n, .int .i64 r, .int .i64 c] w fun e w' => e = .returned (sv (sgF n (rchB r c))) ∧ Below w.heap.size w w' := by
  have L0 := ((Law.start w).has (sl8 (fun _ => 0)) 60).has (sl8 (fun _ => 0)) 60
  simp only [World.size_alloc] at L0
  rw [show (w.alloc (.cells (sl8 (fun _ => 0)).toArray 60)).alloc (.cells (sl8 (fun _ => 0)).toArray 60) = (w.alloc (.cells #[.int .i64 0, .int .i64 0, .int .i64 0, .int .i64 0, .int .i64 0, .int .i64 0, .int .i64 0, .int .i64 0] 60)).alloc (.cells #[.int .i64 0, .int .i64 0, .int .i64 0, .int .i64 0, .int .i64 0, .int .i64 0, .int .i64 0, .int .i64 0] 60) from rfl] at L0
  have HL := Lib.hid L0
  clear L0
  have HC := Lib.hid (fun (i j : Nat) W (hj : j < 8) => queenQ_any ((i : Int) - r) ((j : Int) - c) W (by omega))
  have HP := Lib.hid (fun i j => show rchB r c i j = qQ ((i : Int) - r) ((j : Int) - c) from rfl)
  obtain ⟨S, hS⟩ : ∃ S, S = sgF n (rchB r c) := ⟨_, rfl⟩
  have HSS := Lib.hid (show S = drawn (rchB r c) n n 0 from hS)
  rw [← hS]
  clear hS
  generalize rchB r c = p at *
  go_enter Try.func49, Try.ntmps49
  go_upto_region 2 with fail
  generalize (w.alloc _).alloc _ = w1 at *
  go_wp2_with fail
  go_loopw [8, 9, 11] (fun _ _ i wr => ∃ k : Nat, k ≤ n ∧ i = .int .i64 k ∧ Hid (Law w [tHas (w.heap.size + 1) (sl8 (drawn p n k 0)) 60, tHas w.heap.size (sl8 (fun _ => 0)) 60] wr)) (fun _ _ i _ => n - (intOf i).toNat)
  case atStart => exact ⟨0, Nat.zero_le _, rfl, by rw [drawn_zero]; exact HL⟩
  case round =>
    clear HL
    obtain ⟨i, hi, rfl, HL⟩ := hrel
    obtain ⟨wo, rfl⟩ : ∃ wo : World, wo = wr := ⟨_, rfl⟩
    by_cases hin : i < n
    · have hi8 : i < 8 := by omega
      have hw1 : wrap64 ((i : Int) - r) = (i : Int) - r := IntWalk.wrap64_in _ (by omega)
      go_wp2_with fail
      go_loopw [9, 15] (fun _ j wr => ∃ l : Nat, l ≤ n ∧ j = .int .i64 l ∧ Hid (Law w [tHas (w.heap.size + 1) (sl8 (drawn p n i l)) 60, tHas w.heap.size (sl8 (fun _ => 0)) 60] wr)) (fun _ j _ => n - (intOf j).toNat)
      case atStart => exact ⟨0, Nat.zero_le _, rfl, HL⟩
      case round =>
        clear HL
        obtain ⟨j, hj, rfl, HL⟩ := hrel
        obtain ⟨w4, rfl⟩ : ∃ w4 : World, w4 = wr := ⟨_, rfl⟩
        by_cases hjm : j < n
        · have hj8 : j < 8 := by omega
          have hw2 : wrap64 ((j : Int) - c) = (j : Int) - c := IntWalk.wrap64_in _ (by omega)
          have HCJ := Lib.hid (HC.out i j w4 hj8)
          rw [← HP.out i j] at HCJ
          cases hp : p i j
          · have hsk := drawn_skip p n i j hp
            have hL := HL.out
            rw [← hsk] at hL
            have HS := Lib.hid hL
            rw [hp] at HCJ
            clear HL hp hL hsk
            go_wp2_with (go_at_call 79; ((with_reducible refine HCJ.out.mono ?_); rintro e wQ ⟨rfl, hw⟩; subst wQ))
            go_roundw
            case rel => first | exact ⟨j + 1, by omega, by go_num, HS⟩ | ((repeat apply Exists.intro); exact ⟨⟨j + 1, by omega, by go_num, HS⟩, rfl⟩)
            case measure => simp [intOf]; omega
          · have hst := Law.setHas (ts := []) HL.out i (.int .i64 ((rowM (p i) j + 2 ^ j : Nat) : Int))
            rw [sl8_set _ (drawn p n i (j + 1)) i hi8 _ (drawn_put p n i j hp) (fun k hk => drawn_off p n i j k hk)] at hst
            have HS := Lib.hid hst.drew
            have hce := HL.out.ownHas.cell i
            rw [sl8_get _ i hi8, drawn_at] at hce
            have hfe := HL.out.ownHas.free i
            have hor := or_step8 (rowM (p i) j) j hj8 (rowM_lt _ _)
            rw [hp] at HCJ
            generalize ((rowM (p i) j + 2 ^ j : Nat) : Int) = z at *
            have i0 : (0 : Int) ≤ i := by omega
            have i8 : (i : Int) < 8 := by omega
            have j0 : (0 : Int) ≤ j := by omega
            have j64 : (j : Int) < 64 := by omega
            clear HL hp hst
            go_wp2_with (go_at_call 79; ((with_reducible refine HCJ.out.mono ?_); rintro e wQ ⟨rfl, hw⟩; subst wQ))
            go_region
            generalize (w4.setCell _ _).drew = w7 at *
            clear hce hfe hor
            go_wp2_with fail
            go_roundw
            case rel => first | exact ⟨j + 1, by omega, by go_num, HS⟩ | ((repeat apply Exists.intro); exact ⟨⟨j + 1, by omega, by go_num, HS⟩, rfl⟩)
            case measure => simp [intOf]; omega
        · obtain rfl : j = n := by omega
          have hL := HL.out
          rw [drawn_next] at hL
          have HS := Lib.hid hL
          clear HL hL
          go_wp2_with fail
          go_roundw
          case rel => first | exact ⟨i + 1, by omega, by go_num, HS⟩ | ((repeat apply Exists.intro); exact ⟨⟨i + 1, by omega, by go_num, HS⟩, rfl⟩)
          case measure => simp [intOf]; omega
    · obtain rfl : i = n := by omega
      have hL := HL.out
      rw [← HSS.out] at hL
      obtain ⟨f0, f1, f2, f3, f4, f5, f6, f7, ff⟩ := hL.tl.ownHas.eight
      obtain ⟨g0, g1, g2, g3, g4, g5, g6, g7, gf⟩ := hL.ownHas.eight
      have hp := hL.tl.ownHas.put8Q S
      have HB := Lib.hid (And.intro hL.below hL.tl.ownHas.lt)
      clear HL hL
      go_wp2_with fail
      clear f0 f1 f2 f3 f4 f5 f6 f7 ff g0 g1 g2 g3 g4 g5 g6 g7 gf
      obtain ⟨f0, f1, f2, f3, f4, f5, f6, f7, ff⟩ := hp.eight
      clear hp
      refine bodyPost_ret (v := sv S) (by simp [results, Try.results49, go_sem, f0, f1, f2, f3, f4, f5, f6, f7]) rfl ⟨rfl, ?_⟩
      exact below_put8 HB.out.1 _ (Nat.le_refl _) S
/-- Of two sets the first k rows are joined. -/
def orU (F G : Nat → Int) (k : Nat) : Nat → Int := fun i => if i < k then bits .or .i64 (F i) (G i) else F i
theorem orU_zero (F G : Nat → Int) : orU F G 0 = F := by funext i; simp [orU]
theorem orU_at (F G : Nat → Int) (k : Nat) : orU F G k k = F k := by simp [orU]
theorem orU_next (F G : Nat → Int) (k : Nat) : orU F G (k + 1) k = bits .or .i64 (F k) (G k) ∧ ∀ j, j ≠ k → orU F G (k + 1) j = orU F G k j := by
  unfold orU
  refine ⟨by rw [if_pos (by omega)], fun j hj => ?_⟩
  by_cases h : j < k
  · rw [if_pos (by omega), if_pos h]
  · rw [if_neg (by omega), if_neg h]
set_option maxRecDepth 100000 in
set_option maxHeartbeats 6400000 in
theorem withS_any (F G H : Nat → Int) (w : World) (hH : ∀ i, i < 8 → H i = bits .or .i64 (F i) (G i)) :
    Calls Try.prog 48 #[sv F, sv G] w fun e w' => e = .returned (sv H) ∧ Below w.heap.size w w' := by
  have L0 := (((Law.start w).has (sl8 F) 60).has (sl8 G) 60).has (sl8 (fun _ => 0)) 60
  simp only [World.size_alloc] at L0
  rw [show ((w.alloc (.cells (sl8 F).toArray 60)).alloc (.cells (sl8 G).toArray 60)).alloc (.cells (sl8 (fun _ => 0)).toArray 60) = ((w.alloc (.cells #[.int .i64 (F 0), .int .i64 (F 1), .int .i64 (F 2), .int .i64 (F 3), .int .i64 (F 4), .int .i64 (F 5), .int .i64 (F 6), .int .i64 (F 7)] 60)).alloc (.cells #[.int .i64 (G 0), .int .i64 (G 1), .int .i64 (G 2), .int .i64 (G 3), .int .i64 (G 4), .int .i64 (G 5), .int .i64 (G 6), .int .i64 (G 7)] 60)).alloc (.cells #[.int .i64 0, .int .i64 0, .int .i64 0, .int .i64 0, .int .i64 0, .int .i64 0, .int .i64 0, .int .i64 0] 60) from rfl] at L0
  have HL := Lib.hid L0
  clear L0
  have HHE := Lib.hid (show sv H = sv (orU F G 8) by simp [sv, orU, hH])
  rw [HHE.out]
  clear hH
  go_enter Try.func48, Try.ntmps48
  go_upto_region 1 with fail
  generalize ((w.alloc _).alloc _).alloc _ = w1 at *
  go_wp2_with fail
  go_loopw [6] (fun i wr => ∃ k : Nat, k ≤ 8 ∧ i = .int .i64 k ∧ Hid (Law w [tHas (w.heap.size + 1 + 1) (sl8 (fun _ => 0)) 60, tHas (w.heap.size + 1) (sl8 G) 60, tHas w.heap.size (sl8 (orU F G k)) 60] wr)) (fun i _ => 8 - (intOf i).toNat)
  case atStart => exact ⟨0, Nat.zero_le _, rfl, by rw [orU_zero]; exact HL⟩
  case round =>
    clear HL
    obtain ⟨k, hk, rfl, HL⟩ := hrel
    obtain ⟨wo, rfl⟩ : ∃ wo : World, wo = wr := ⟨_, rfl⟩
    by_cases hk8 : k < 8
    · have hst := Law.setHas (ts := [_, _]) (ts' := []) HL.out k (.int .i64 (bits .or .i64 (F k) (G k)))
      rw [sl8_set _ (orU F G (k + 1)) k hk8 _ (orU_next F G k).1 (orU_next F G k).2] at hst
      have HS := Lib.hid hst.drew
      have hce := HL.out.tl.tl.ownHas.cell k
      rw [sl8_get _ k hk8, orU_at] at hce
      have hfe := HL.out.tl.tl.ownHas.free k
      have hge := HL.out.tl.ownHas.cell k
      rw [sl8_get _ k hk8] at hge
      have i0 : (0 : Int) ≤ k := by omega
      have i8 : (k : Int) < 8 := by omega
      generalize hz : bits .or .i64 (F k) (G k) = z at *
      generalize F k = x at *
      generalize G k = y at *
      clear HL hst
      go_wp2_with fail
      go_region
      generalize (wo.setCell _ _).drew = w7 at *
      clear hce hfe hge hz
      go_wp2_with fail
      go_roundw
      case rel => first | exact ⟨k + 1, by omega, by go_num, HS⟩ | ((repeat apply Exists.intro); exact ⟨⟨k + 1, by omega, by go_num, HS⟩, rfl⟩)
      case measure => simp [intOf]; omega
    · obtain rfl : k = 8 := by omega
      obtain ⟨f0, f1, f2, f3, f4, f5, f6, f7, ff⟩ := HL.out.ownHas.eight
      generalize hGG : orU F G 8 = S at *
      have HSS := Lib.hid hGG
      clear hGG
      obtain ⟨g0, g1, g2, g3, g4, g5, g6, g7, gf⟩ := HL.out.tl.tl.ownHas.eight
      have hp := HL.out.ownHas.put8Q S
      have HB := Lib.hid (And.intro HL.out.below HL.out.ownHas.lt)
      clear HL
      go_wp2_with fail
      clear f0 f1 f2 f3 f4 f5 f6 f7 ff g0 g1 g2 g3 g4 g5 g6 g7 gf
      obtain ⟨f0, f1, f2, f3, f4, f5, f6, f7, ff⟩ := hp.eight
      clear hp
      refine bodyPost_ret (v := sv S) (by simp [results, Try.results48, go_sem, f0, f1, f2, f3, f4, f5, f6, f7]) rfl ⟨by rw [HSS.out], ?_⟩
      exact below_put8 HB.out.1 _ (by omega) S

end Go.Proofs.Ytmhlpaenfknofab
