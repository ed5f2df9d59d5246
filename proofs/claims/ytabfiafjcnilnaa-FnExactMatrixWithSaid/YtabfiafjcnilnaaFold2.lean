import Derived.Test.YtabfiafjcnilnaaFold1

section
namespace Go.Proofs.Ytabfiafjcnilnaa
open Go.RowKit

/-- lo ≤ n ≤ hi. -/
def inB (lo n hi : Int) : Bool := decide (lo ≤ n ∧ n ≤ hi)
theorem inB_yes {lo n hi : Int} (h1 : lo ≤ n) (h2 : n ≤ hi) : inB lo n hi = true := by simp [inB, h1, h2]
theorem inB_no {lo n hi : Int} (h : ¬ (lo ≤ n ∧ n ≤ hi)) : inB lo n hi = false := by simp only [inB, decide_eq_false_iff_not]; exact h
theorem inB_iff {lo n hi : Int} : inB lo n hi = true ↔ lo ≤ n ∧ n ≤ hi := by simp [inB]

theorem isSide_any (n : Int) (w : World) : Calls Try.prog 51 #[.int .i64 n] w fun e w' => e = .returned (.bool (inB 1 n 6)) ∧ w = w' := by
  by_cases h1 : 1 ≤ n
  · by_cases h2 : n ≤ 6
    · rw [inB_yes h1 h2]
      go_enter Try.func51, Try.ntmps51
      go_wp2
      go_ret
      exact ⟨rfl, rfl⟩
    · rw [inB_no (by omega)]
      go_enter Try.func51, Try.ntmps51
      go_wp2
      go_ret
      exact ⟨ret_bool (by simp <;> omega), rfl⟩
  · rw [inB_no (by omega)]
    go_enter Try.func51, Try.ntmps51
    go_wp2
    go_ret
    exact ⟨ret_bool (by simp <;> omega), rfl⟩

theorem l1In_any (n lo hi : Int) (w : World) : Calls Try.prog 36 #[.int .i64 n, .int .i64 lo, .int .i64 hi] w fun e w' => e = .returned (.bool (inB lo n hi)) ∧ w = w' := by
  by_cases h1 : lo ≤ n
  · by_cases h2 : n ≤ hi
    · rw [inB_yes h1 h2]
      go_enter Try.func36, Try.ntmps36
      go_wp2
      go_ret
      exact ⟨rfl, rfl⟩
    · rw [inB_no (by omega)]
      go_enter Try.func36, Try.ntmps36
      go_wp2
      go_ret
      exact ⟨ret_bool (by simp <;> omega), rfl⟩
  · rw [inB_no (by omega)]
    go_enter Try.func36, Try.ntmps36
    go_wp2
    go_ret
    exact ⟨ret_bool (by simp <;> omega), rfl⟩

theorem boSide_any (n : Int) (w : World) : Calls Try.prog 48 #[.int .i64 n] w fun e w' => e = .returned (.bool (inB 1 n 6)) ∧ w = w' := by
  go_enter Try.func48, Try.ntmps48
  go_wp2_with (go_at_call 36; refine (l1In_any _ _ _ _).mono ?_; rintro e w' ⟨rfl, rfl⟩)
  go_ret
  exact ⟨rfl, rfl⟩

def within (lo hi : Int) (xs : List Int) : Bool := xs.all fun x => decide (lo ≤ x ∧ x ≤ hi)
theorem within_upto (lo hi : Int) (xs : List Int) (k : Nat) (hk : k < xs.length) (h : within lo hi (xs.take k) = true) (hx : lo ≤ xs.getD k 0 ∧ xs.getD k 0 ≤ hi) : within lo hi (xs.take (k + 1)) = true := by
  rw [List.take_succ_eq_append_getElem hk]
  simp [List.getD, hk] at hx
  simp only [within, List.all_append, Bool.and_eq_true] at h ⊢
  exact ⟨h, by simp [hx]⟩
theorem within_no (lo hi : Int) (xs : List Int) (k : Nat) (hk : k < xs.length) (hx : ¬ (lo ≤ xs.getD k 0 ∧ xs.getD k 0 ≤ hi)) : within lo hi xs = false := by
  simp [List.getD, hk] at hx
  rw [within, List.all_eq_false]
  exact ⟨xs[k], List.getElem_mem hk, by simp; omega⟩

set_option maxHeartbeats 800000 in
theorem l1All_any (a : Option Addr) (cap : Nat) (xs : List Int) (lo hi : Int) (w : World) (hx : xs.length ≤ 1048576) (hr : Reads w a xs.length xs) :
    Calls Try.prog 31 #[.slice a xs.length cap, .int .i64 lo, .int .i64 hi] w fun e w' => e = .returned (.bool (within lo hi xs)) ∧ w = w' := by
  go_enter Try.func31, Try.ntmps31
  go_wp2
  go_loop [11] (fun i => ∃ k : Nat, k ≤ xs.length ∧ i = .int .i64 k ∧ Hid (within lo hi (xs.take k) = true)) (fun i => xs.length - (intOf i).toNat)
  case atStart => exact ⟨0, Nat.zero_le _, rfl, (rfl : within lo hi (xs.take 0) = true)⟩
  case round =>
    obtain ⟨k, hk, rfl, HW⟩ := hrel
    by_cases hlt : k < xs.length
    · obtain ⟨b, off, rfl, hb, hc⟩ := reads_row hr (by omega)
      have hck := hc k hlt
      have hyes := within_upto lo hi xs k hlt HW.out
      have hno := within_no lo hi xs k hlt
      clear hc
      generalize xs.getD k 0 = x at *
      by_cases hd : lo ≤ x ∧ x ≤ hi
      · have HN := Lib.hid (hyes hd)
        have HD := Lib.hid (inB_yes hd.1 hd.2)
        clear hyes hno hd
        go_wp2_with (go_at_call 36; refine (l1In_any _ _ _ _).mono ?_; rintro e w' ⟨rfl, rfl⟩; rw [HD.out])
        go_round
        case rel => exact ⟨k + 1, by omega, by go_num, HN.out⟩
        case measure => simp [intOf]; omega
      · have HN := Lib.hid (hno hd)
        have HD := Lib.hid (inB_no hd)
        clear hyes hno hd
        go_wp2_with (go_at_call 36; refine (l1In_any _ _ _ _).mono ?_; rintro e w' ⟨rfl, rfl⟩; rw [HD.out])
        go_ret
        exact ⟨ret_bool HN.out.symm, rfl⟩
    · go_wp2
      go_ret
      obtain rfl : k = xs.length := by omega
      have h := HW.out
      rw [List.take_length] at h
      exact ⟨ret_bool h.symm, rfl⟩


theorem flip {P : Program} {f : FuncId} {args : Array Value} {w : World} {v : Value} (h : Calls P f args w fun e w' => e = .returned v ∧ w = w') : Calls P f args w fun e w' => e = .returned v ∧ w' = w :=
  h.mono fun _ _ h => ⟨h.1, h.2.symm⟩

theorem Reads.drewN {w : World} {a : Option Addr} {len : Nat} {zs : List Int} (h : Reads w a len zs) (n : Nat) : Reads (w.drewN n) a len zs :=
  h.kept (below_drewN (Below.refl _ _) n)

/-- 2 to the power c. -/
def pw (c : Int) : Int := 2 ^ c.toNat
theorem pw_bd {c : Int} (h : 0 ≤ c ∧ c ≤ 6) : 1 ≤ pw c ∧ pw c ≤ 64 ∧ IntKind.i64.wrap (2 ^ c.toNat) = pw c ∧ IntKind.i64.wrap (pw c - 1) = pw c - 1 := by
  obtain ⟨h0, h1⟩ := h
  have : c = 0 ∨ c = 1 ∨ c = 2 ∨ c = 3 ∨ c = 4 ∨ c = 5 ∨ c = 6 := by omega
  rcases this with rfl | rfl | rfl | rfl | rfl | rfl | rfl <;> decide

/-- What makes a board. -/
def goodB (r c : Int) (xs : List Int) : Bool := inB 1 r 6 && (inB 1 c 6 && (decide ((xs.length : Int) = r) && within 0 (pw c - 1) xs))

/-- A contract whose answer is a Bool, at that Bool. -/
theorem at_bool {P : Program} {f : FuncId} {args : Array Value} {b c : Bool} (h : ∀ w, Calls P f args w fun e w' => e = .returned (.bool b) ∧ w = w') (e : b = c) : ∀ w, Calls P f args w fun e w' => e = .returned (.bool c) ∧ w' = w := by
  subst e
  exact fun w => flip (h w)

end Go.Proofs.Ytabfiafjcnilnaa
end

section
namespace Go.Proofs.Ytabfiafjcnilnaa
open Go.RowKit

theorem below_new {w : World} (o : Obj) : Below w.heap.size w (w.alloc o) := (Below.refl _ _).alloc (Nat.le_refl _) o

theorem below_on {w0 w w' : World} (h : Below w0.heap.size w0 w) (h' : Below w.heap.size w w') : Below w0.heap.size w0 w' := h.trans (h'.mono h.size)

/-- A block of three cells. -/
structure Box (w : World) (b : Nat) (x y z : Value) : Prop where
  lt : b < w.heap.size
  c0 : w.cell? ⟨b, 0, none⟩ = some x
  c1 : w.cell? ⟨b, 1, none⟩ = some y
  c2 : w.cell? ⟨b, 2, none⟩ = some z
  fr : ∀ o, w.frozen? ⟨b, o, none⟩ = false

theorem Box.kept {w w' : World} {b : Nat} {x y z : Value} (h : Box w b x y z) (hb : Below w.heap.size w w') : Box w' b x y z :=
  ⟨Nat.lt_of_lt_of_le h.lt hb.size, (hb.cell (p := ⟨b, 0, none⟩) h.lt).trans h.c0, (hb.cell (p := ⟨b, 1, none⟩) h.lt).trans h.c1, (hb.cell (p := ⟨b, 2, none⟩) h.lt).trans h.c2, fun o => (hb.frozen (p := ⟨b, o, none⟩) h.lt).trans (h.fr o)⟩

theorem Box.new (w : World) (x y z : Value) (t : TypeId) : Box (w.alloc (.cells #[x, y, z] t)) w.heap.size x y z :=
  ⟨by simp, by rw [World.cell?_alloc_at _ _ _ _ rfl]; rfl, by rw [World.cell?_alloc_at _ _ _ _ rfl]; rfl, by rw [World.cell?_alloc_at _ _ _ _ rfl]; rfl, fun o => World.frozen?_alloc_at _ _ _ _ rfl⟩

/-- w: where the law began; the board that was handed in lies in block n. -/
structure St (w0 : World) (n : Nat) (r c : Int) (a : Option Addr) (cap : Nat) (zs : List Int) (w : World) : Prop where
  below : Below w0.heap.size w0 w
  reads : Reads w a zs.length zs
  box : Box w n (.int .i64 r) (.int .i64 c) (.slice a zs.length cap)

theorem St.kept {w0 : World} {n : Nat} {r c : Int} {a : Option Addr} {cap : Nat} {zs : List Int} {w w' : World} (h : St w0 n r c a cap zs w) (hb : Below w.heap.size w w') : St w0 n r c a cap zs w' :=
  ⟨below_on h.below hb, h.reads.kept hb, h.box.kept hb⟩

end Go.Proofs.Ytabfiafjcnilnaa
end
