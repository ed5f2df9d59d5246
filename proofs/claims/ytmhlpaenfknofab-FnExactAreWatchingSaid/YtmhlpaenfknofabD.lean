/- Boards drawn place by place. No condition but the sizes. -/
import Derived.Test.YtmhlpaenfknofabG2
namespace Go.Proofs.Ytmhlpaenfknofab
open Go.RowKit Go.WideShapes

/-- The mask of the places c < n with p c. -/
def rowM (p : Nat → Bool) : Nat → Nat
  | 0 => 0
  | c + 1 => rowM p c + if p c then 2 ^ c else 0
theorem rowM_lt (p : Nat → Bool) (n : Nat) : rowM p n < 2 ^ n := by
  induction n with
  | zero => simp [rowM]
  | succ n ih => rw [rowM, Nat.pow_succ]; split <;> omega
theorem or_step (x : Nat) (c : Nat) (hc : c < 6) (h : x < 2 ^ c) : bits .or .i64 (x : Int) (wrap64 (2 ^ c)) = ((x + 2 ^ c : Nat) : Int) := by
  have key : ∀ c : Fin 6, ∀ x : Fin 64, (x : Nat) < 2 ^ (c : Nat) → bits .or .i64 ((x : Nat) : Int) (wrap64 (2 ^ (c : Nat))) = (((x : Nat) + 2 ^ (c : Nat) : Nat) : Int) := by decide +kernel
  have h64 : x < 64 := Nat.lt_of_lt_of_le h (by have := Nat.pow_le_pow_right (show 0 < 2 by omega) (show c ≤ 6 by omega); simpa using this)
  exact key ⟨c, hc⟩ ⟨x, h64⟩ h

/-- The masks when the rows before i and of row i the places before j are drawn. -/
def drawn (p : Nat → Nat → Bool) (m i j : Nat) : Nat → Int := fun k => if k < i then (rowM (p k) m : Int) else if k = i then (rowM (p i) j : Int) else 0
theorem drawn_next (p : Nat → Nat → Bool) (m i : Nat) : drawn p m i m = drawn p m (i + 1) 0 := by
  funext k
  unfold drawn
  by_cases h1 : k < i
  · rw [if_pos h1, if_pos (by omega)]
  · by_cases h2 : k = i
    · subst h2; rw [if_neg h1, if_pos rfl, if_pos (by omega)]
    · rw [if_neg h1, if_neg h2, if_neg (by omega)]
      split
      · simp [rowM]
      · rfl
theorem drawn_zero (p : Nat → Nat → Bool) (m : Nat) : drawn p m 0 0 = fun _ => 0 := by
  funext k
  unfold drawn
  rw [if_neg (by omega)]
  split
  · simp [rowM]
  · rfl
theorem drawn_skip (p : Nat → Nat → Bool) (m i j : Nat) (h : p i j = false) : drawn p m i (j + 1) = drawn p m i j := by
  funext k; unfold drawn; rw [rowM, h]; simp
theorem drawn_at (p : Nat → Nat → Bool) (m i j : Nat) : drawn p m i j i = (rowM (p i) j : Int) := by unfold drawn; rw [if_neg (by omega), if_pos rfl]
theorem drawn_put (p : Nat → Nat → Bool) (m i j : Nat) (h : p i j = true) : drawn p m i (j + 1) i = ((rowM (p i) j + 2 ^ j : Nat) : Int) := by rw [drawn_at, rowM, h]; simp
theorem drawn_off (p : Nat → Nat → Bool) (m i j k : Nat) (h : k ≠ i) : drawn p m i (j + 1) k = drawn p m i j k := by
  unfold drawn; rw [if_neg h, if_neg h]

/-- At the head of a round of the drawing: of what was there nothing has turned; the new board's block, and the grid. -/
structure Draw (w : World) (n m : Nat) (p : Nat → Nat → Bool) (i j : Nat) (wr : World) : Prop where
  below : Below w.heap.size w wr
  res : Has wr w.heap.size (gl 0 0 (fun _ => 0)) 74
  grid : Has wr (w.heap.size + 1) (gl n m (drawn p m i j)) 74

theorem Draw.kept {w : World} {n m : Nat} {p : Nat → Nat → Bool} {i j : Nat} {wr w' : World} (h : Draw w n m p i j wr) (hb : Below wr.heap.size wr w') : Draw w n m p i j w' :=
  ⟨below_on h.below hb, h.res.kept hb h.res.lt, h.grid.kept hb h.grid.lt⟩

theorem Draw.next {w : World} {n m : Nat} {p : Nat → Nat → Bool} {i : Nat} {wr : World} (h : Draw w n m p i m wr) : Draw w n m p (i + 1) 0 wr :=
  ⟨h.below, h.res, by rw [← drawn_next]; exact h.grid⟩
theorem Draw.skip {w : World} {n m : Nat} {p : Nat → Nat → Bool} {i j : Nat} {wr : World} (h : Draw w n m p i j wr) (hp : p i j = false) : Draw w n m p i (j + 1) wr :=
  ⟨h.below, h.res, by rw [drawn_skip p m i j hp]; exact h.grid⟩
theorem Draw.put {w : World} {n m : Nat} {p : Nat → Nat → Bool} {i j : Nat} {wr : World} (h : Draw w n m p i j wr) (hp : p i j = true) (hi : i < 6) :
    Draw w n m p i (j + 1) (wr.setCell ⟨w.heap.size + 1, 2 + i, none⟩ (.int .i64 ((rowM (p i) j + 2 ^ j : Nat) : Int))).drew := by
  refine ⟨(h.below.setCell (by simp <;> omega) _).drew, (h.res.other _ (by simp <;> omega) _).drew, ?_⟩
  have := h.grid.set (2 + i) (.int .i64 ((rowM (p i) j + 2 ^ j : Nat) : Int))
  rw [gl_set n m (drawn p m i j) (drawn p m i (j + 1)) i hi _ (drawn_put p m i j hp) (fun k hk => drawn_off p m i j k hk)] at this
  exact this.drew

set_option maxHeartbeats 1600000 in
theorem drawGrid_any (n m : Nat) (F : FuncId) (first cap : Array Value) (p : Nat → Nat → Bool) (w : World) (hn : n ≤ 6) (hm : m ≤ 6)
    (hcall : ∀ (args : Array Value) (w : World), (callFunc F args).run Try.prog w = .ok (.enter F args) w)
    (hat : ∀ (r c : Nat) (w' : World), r < n → c < m → Below w.heap.size w w' → Calls Try.prog F (first ++ (#[.int .i64 r, .int .i64 c] ++ cap)) w' fun e w'' => e = .returned (.bool (p r c)) ∧ Below w'.heap.size w' w'') :
    Calls Try.prog 93 #[.int .i64 n, .int .i64 m, .func (.func F) first cap] w
      fun e w' => e = .returned (.agg #[.int .i64 n, .int .i64 m, .int .i64 (drawn p m n 0 0), .int .i64 (drawn p m n 0 1), .int .i64 (drawn p m n 0 2), .int .i64 (drawn p m n 0 3), .int .i64 (drawn p m n 0 4), .int .i64 (drawn p m n 0 5)]) ∧ Below w.heap.size w w' := by
  go_enter Try.func93, Try.ntmps93
  go_wp2_with fail
  have HD : Draw w n m p 0 0 ((w.alloc (.cells #[.int .i64 0, .int .i64 0, .int .i64 0, .int .i64 0, .int .i64 0, .int .i64 0, .int .i64 0, .int .i64 0] 74)).alloc (.cells #[.int .i64 n, .int .i64 m, .int .i64 0, .int .i64 0, .int .i64 0, .int .i64 0, .int .i64 0, .int .i64 0] 74)) := by
    refine ⟨below_on (below_new _) (below_new _), (Has.new w (gl 0 0 (fun _ => 0)) 74).kept (below_new _) (by simp), ?_⟩
    have := Has.new (w.alloc (.cells #[.int .i64 0, .int .i64 0, .int .i64 0, .int .i64 0, .int .i64 0, .int .i64 0, .int .i64 0, .int .i64 0] 74)) (gl n m (drawn p m 0 0)) 74
    rw [drawn_zero] at this ⊢
    simpa [gl] using this
  go_loopw [8, 9] (fun i _ wr => ∃ k : Nat, k ≤ n ∧ i = .int .i64 k ∧ Draw w n m p k 0 wr) (fun i _ _ => n - (intOf i).toNat)
  case atStart => exact ⟨0, Nat.zero_le _, rfl, HD⟩
  case round =>
    clear HD
    obtain ⟨i, hi, rfl, HD⟩ := hrel
    obtain ⟨wo, rfl⟩ : ∃ wo : World, wo = wr := ⟨_, rfl⟩
    by_cases hin : i < n
    · go_wp2_with fail
      go_loopw [9] (fun j wr => ∃ l : Nat, l ≤ m ∧ j = .int .i64 l ∧ Draw w n m p i l wr) (fun j _ => m - (intOf j).toNat)
      case atStart => exact ⟨0, Nat.zero_le _, rfl, HD⟩
      case round =>
        clear HD
        obtain ⟨j, hj, rfl, HD⟩ := hrel
        by_cases hjm : j < m
        · go_wp2_with fail
          refine (hat i j wr hin hjm HD.below).mono ?_
          rintro e w2 ⟨rfl, hb⟩
          have HD2 := HD.kept hb
          clear HD hb
          cases hp : p i j
          · have HS := Lib.hid (HD2.skip hp)
            clear HD2 hp
            go_wp2_with fail
            go_roundw
            case rel => exact ⟨j + 1, by omega, by go_num, HS.out⟩
            case measure => simp [intOf]; omega
          · have HS := Lib.hid (HD2.put hp (by omega))
            have hce := HD2.grid.cell (2 + i)
            rw [gl_get _ _ _ i (by omega), drawn_at] at hce
            have hfe := HD2.grid.free (2 + i)
            have hor := or_step (rowM (p i) j) j (by omega) (rowM_lt _ _)
            generalize ((rowM (p i) j + 2 ^ j : Nat) : Int) = z at *
            clear HD2 hp
            go_wp2_with fail
            go_region
            go_wp2_with fail
            go_roundw
            case rel => exact ⟨j + 1, by omega, by go_num, HS.out⟩
            case measure => simp [intOf]; omega
        · go_wp2_with fail
          obtain rfl : j = m := by omega
          have HN := HD.next
          go_roundw
          case rel => exact ⟨i + 1, by omega, by go_num, HN⟩
          case measure => simp [intOf]; omega
    · obtain rfl : i = n := by omega
      obtain ⟨e0, e1, e2, e3, e4, e5, e6, e7, _⟩ := HD.grid.eight
      obtain ⟨f0, f1, f2, f3, f4, f5, f6, f7, ff⟩ := HD.res.eight
      have HB := Lib.hid HD.below
      have hlo : w.heap.size + 1 < wo.heap.size := HD.grid.lt
      clear HD
      go_wp2_with fail
      refine bodyPost_ret (v := .agg #[.int .i64 i, .int .i64 m, .int .i64 (drawn p m i 0 0), .int .i64 (drawn p m i 0 1), .int .i64 (drawn p m i 0 2), .int .i64 (drawn p m i 0 3), .int .i64 (drawn p m i 0 4), .int .i64 (drawn p m i 0 5)]) (by simp [results, Try.results93, go_sem, f0, f1, f2, f3, f4, f5, f6, f7] <;> omega) rfl ⟨rfl, ?_⟩
      have h2 := HB.out
      repeat (refine Below.setCell ?_ (by simp <;> omega) _)
      exact h2

end Go.Proofs.Ytmhlpaenfknofab
