import Derived.Test.YtabfiafjcnilnaaFold0

section
namespace Go.Proofs.Ytabfiafjcnilnaa
open Go.RowKit

def szN (left : Int) (len : Nat) : Int := if left - len < 0 then -1 else left - len

set_option maxHeartbeats 400000 in
theorem szIntS_any (a : Option Addr) (len cap : Nat) (left : Int) (w : World) (hl : len ≤ 9223372036854775807) (h0 : 0 ≤ left) (h1 : left ≤ 1048576) :
    Calls Try.prog 27 #[.slice a len cap, .int .i64 left] w fun e w' => e = .returned (.int .i64 (szN left len)) ∧ w = w' := by
  by_cases h : left - len < 0
  · have hs : -1 = szN left len := by rw [szN, if_pos h]
    have Hs := Lib.hid hs; clear hs
    go_enter Try.func27, Try.ntmps27
    go_wp2
    all_goals go_ret
    all_goals exact ⟨ret_int Hs.out, rfl⟩
  · have hs : left - len = szN left len := by rw [szN, if_neg h]
    have Hs := Lib.hid hs; clear hs
    go_enter Try.func27, Try.ntmps27
    go_wp2
    all_goals go_ret
    all_goals exact ⟨ret_int Hs.out, rfl⟩

theorem own_store {w : World} {lo g n cap : Nat} {xs : List Int} (h : Own w lo (.slice (some ⟨g, 0, none⟩) n cap) xs) (hn : xs.length = n) (j : Nat) (x : Int) :
    Own (w.setCell ⟨g, j, none⟩ (.int .i64 x)) lo (.slice (some ⟨g, 0, none⟩) n cap) (xs.set j x) := by
  subst hn
  have := (World.ownsRow.stored h j (.int .i64 x)).1
  unfold Own
  rw [List.map_set, List.length_set]
  exact this

/-- The numbers that a copying loop holds behind k rounds. -/
def part (zs : List Int) (n k : Nat) : List Int := zs.take k ++ List.replicate (n - k) 0
theorem part_len (zs : List Int) (n k : Nat) (hk : k ≤ n) (hz : n ≤ zs.length) : (part zs n k).length = n := by simp [part]; omega
theorem part_zero (zs : List Int) (n : Nat) : part zs n 0 = List.replicate n 0 := by simp [part]
theorem part_full (zs : List Int) (n : Nat) : part zs n n = zs.take n := by simp [part]
theorem part_step (zs : List Int) (n k : Nat) (hk : k < n) (hz : n ≤ zs.length) : (part zs n k).set k (zs.getD k 0) = part zs n (k + 1) := by
  unfold part
  have e : n - k = (n - (k + 1)) + 1 := by omega
  have l : (zs.take k).length = k := by simp; omega
  rw [List.set_append, if_neg (by omega), l, Nat.sub_self, e, List.replicate_succ, List.set_cons_zero, List.take_succ_eq_append_getElem (by omega : k < zs.length), List.append_assoc]
  simp [List.getD, show k < zs.length by omega]

theorem own_fresh {w : World} {lo n : Nat} {v : Value} (h : w.ownsRow lo 3 1 v n (madeCells #[Value.int .i64 0] n).toList) : Own w lo v (List.replicate n 0) := by
  unfold Own
  have e : (madeCells #[Value.int .i64 0] n).toList = (List.replicate n (0 : Int)).map (Value.int .i64) := by
    rw [toList_madeCells_one, List.map_replicate]
  rw [e] at h
  simpa using h

set_option maxHeartbeats 800000 in
theorem toIntS_row (b off len cap : Nat) (zs : List Int) (w : World) (hl : len ≤ 1048576) (hz : len ≤ zs.length) (hb : b < w.heap.size)
    (hc : ∀ j, j < len → w.cell? ⟨b, off + j, none⟩ = some (.int .i64 (zs.getD j 0))) :
    Calls Try.prog 10 #[.slice (some ⟨b, off, none⟩) len cap] w fun e w' => ∃ v, e = .returned v ∧ Own w' w.heap.size v (zs.take len) ∧ Below w.heap.size w w' := by
  obtain ⟨i0, hi, hz0, hz1, hz2⟩ := info_parts Try.infoI
  go_enter Try.func10, Try.ntmps10
  go_wp2_with (at_make; refine wpList_make_full _ rfl _ _ 22 rfl w.heap.size 3 i0 (.int .i64 0) 1 Try.underlying22 hi hz0 hz1 .i64 .i64 _ _ len rfl rfl rfl rfl ?b1 ?b2 ?b3 ?_)
  case b1 => rw [hz2]; omega
  case b2 => unfold maxLen; omega
  case b3 => exact Nat.le_refl _
  intro w1 hown1 hgrow1
  have hO : Own w1 w.heap.size (.slice (some ⟨w.heap.size, 0, none⟩) len len) (part zs len 0) := by
    rw [part_zero]; exact own_fresh hown1
  have hB : Below w.heap.size w w1 := (Below.refl _ _).grown hgrow1 (Nat.le_refl _) (by simp)
  clear hown1 hgrow1
  go_wp2
  go_loopw [4] (fun i wr => ∃ k : Nat, k ≤ len ∧ i = .int .i64 k ∧ Own wr w.heap.size (.slice (some ⟨w.heap.size, 0, none⟩) len len) (part zs len k) ∧ Below w.heap.size w wr) (fun i _ => len - (intOf i).toNat)
  case atStart => exact ⟨0, Nat.zero_le _, rfl, hO, hB⟩
  case round =>
    obtain ⟨k, hk, rfl, hOr, hBr⟩ := hrel
    clear hO hB
    by_cases hlt : k < len
    · have hcx : wr.cell? ⟨b, off + k, none⟩ = some (.int .i64 (zs.getD k 0)) := (hBr.cell hb).trans (hc k hlt)
      have hpl := part_len zs len k hk hz
      have hcy := Own.cell (by rw [hpl]; exact hOr) k (by omega)
      have hfy := Own.free (by rw [hpl]; exact hOr) k
      clear hc
      have HL := Lib.hid hpl; clear hpl
      go_wp2
      go_roundw
      case rel => exact ⟨k + 1, by omega, by go_num, by rw [← part_step zs len k hlt hz]; exact own_store hOr HL.out k _, hBr.setCell (Nat.le_refl _) _⟩
      case measure => simp [intOf]; omega
    · go_wp2
      go_ret
      obtain rfl : k = len := by omega
      exact ⟨_, rfl, by rw [← part_full]; exact hOr, hBr⟩

set_option maxHeartbeats 800000 in
theorem toIntS_none (a : Option Addr) (cap : Nat) (w : World) :
    Calls Try.prog 10 #[.slice a 0 cap] w fun e w' => ∃ v, e = .returned v ∧ Own w' w.heap.size v [] ∧ Below w.heap.size w w' := by
  obtain ⟨i0, hi, hz0, hz1, hz2⟩ := info_parts Try.infoI
  go_enter Try.func10, Try.ntmps10
  go_wp2_with (at_make; refine wpList_make_full _ rfl _ _ 22 rfl w.heap.size 3 i0 (.int .i64 0) 1 Try.underlying22 hi hz0 hz1 .i64 .i64 _ _ 0 rfl rfl rfl rfl ?b1 ?b2 ?b3 ?_)
  case b1 => omega
  case b2 => unfold maxLen; omega
  case b3 => exact Nat.le_refl _
  intro w1 hown1 hgrow1
  have hO : Own w1 w.heap.size (.slice (some ⟨w.heap.size, 0, none⟩) 0 0) [] := own_fresh hown1
  have hB : Below w.heap.size w w1 := (Below.refl _ _).grown hgrow1 (Nat.le_refl _) (by simp)
  clear hown1 hgrow1
  go_wp2
  refine wp_loop_rounds 1 ?_
  rw [rounds_succ]
  go_wp2
  go_ret
  exact ⟨_, rfl, hO, hB⟩

/-- What a slice of ints that came in reads as. -/
def Reads (w : World) (a : Option Addr) (len : Nat) (zs : List Int) : Prop :=
  len = zs.length ∧ (len = 0 ∨ ∃ b off, a = some ⟨b, off, none⟩ ∧ b < w.heap.size ∧ ∀ j, j < len → w.cell? ⟨b, off + j, none⟩ = some (.int .i64 (zs.getD j 0)))

theorem Reads.kept {w w' : World} {a : Option Addr} {len : Nat} {zs : List Int} (h : Reads w a len zs) (hb : Below w.heap.size w w') : Reads w' a len zs := by
  obtain ⟨h1, h2⟩ := h
  refine ⟨h1, ?_⟩
  rcases h2 with h2 | ⟨b, off, ha, hlt, hc⟩
  · exact .inl h2
  · exact .inr ⟨b, off, ha, Nat.lt_of_lt_of_le hlt hb.size, fun j hj => (hb.cell (p := ⟨b, off + j, none⟩) hlt).trans (hc j hj)⟩

theorem toIntS_any (a : Option Addr) (len cap : Nat) (zs : List Int) (w : World) (hl : len ≤ 1048576) (hr : Reads w a len zs) :
    Calls Try.prog 10 #[.slice a len cap] w fun e w' => ∃ v, e = .returned v ∧ Own w' w.heap.size v zs ∧ Below w.heap.size w w' := by
  obtain ⟨h1, h2⟩ := hr
  rcases h2 with h2 | ⟨b, off, rfl, hlt, hc⟩
  · subst h2
    obtain rfl : zs = [] := List.eq_nil_of_length_eq_zero h1.symm
    exact toIntS_none a cap w
  · refine (toIntS_row b off len cap zs w hl (by omega) hlt hc).mono fun e w' ⟨v, he, ho, hb⟩ => ⟨v, he, ?_, hb⟩
    rwa [h1, List.take_length] at ho

/-- Equal lists, told by a loop. -/
theorem eq_upto_succ (xs ys : List Int) (k : Nat) (hx : k < xs.length) (hy : k < ys.length) (h : xs.take k = ys.take k) (he : xs.getD k 0 = ys.getD k 0) : xs.take (k + 1) = ys.take (k + 1) := by
  rw [List.take_succ_eq_append_getElem hx, List.take_succ_eq_append_getElem hy, h]
  simp [List.getD, hx, hy] at he
  rw [he]

theorem Own.reads {w : World} {lo : Nat} {v : Value} {xs : List Int} (h : Own w lo v xs) : ∃ a cap, v = .slice a xs.length cap ∧ Reads w a xs.length xs := by
  rcases h.cases with ⟨rfl, rfl⟩ | ⟨g, cap, rfl, h1, h2, h3, h4⟩
  · exact ⟨none, 0, rfl, rfl, .inl rfl⟩
  · exact ⟨_, cap, rfl, rfl, .inr ⟨g, 0, rfl, h2, fun j hj => by rw [Nat.zero_add]; exact h.cell j hj⟩⟩

theorem reads_row {w : World} {a : Option Addr} {len : Nat} {zs : List Int} (h : Reads w a len zs) (h0 : 0 < len) :
    ∃ b off, a = some ⟨b, off, none⟩ ∧ b < w.heap.size ∧ ∀ j, j < len → w.cell? ⟨b, off + j, none⟩ = some (.int .i64 (zs.getD j 0)) := by
  rcases h.2 with h | h
  · omega
  · exact h

/-- The world moved on by draws alone. -/
def Drawn (w w' : World) : Prop := ∃ n, w' = w.drewN n
theorem drawn2 (w : World) (n m : Nat) : Drawn w ((w.drewN n).drewN m) := ⟨n + m, by rw [World.drewN_drewN]⟩
theorem Drawn.below {w w' : World} (h : Drawn w w') : Below w.heap.size w w' := by
  obtain ⟨n, rfl⟩ := h
  exact below_drewN (Below.refl _ _) n
theorem Drawn.refl (w : World) : Drawn w w := ⟨0, rfl⟩

set_option maxHeartbeats 800000 in
theorem eqIntS_any (a a' : Option Addr) (cap cap' : Nat) (xs ys : List Int) (w : World) (hx : xs.length ≤ 1048576) (_hy : ys.length ≤ 1048576)
    (h1 : Reads w a xs.length xs) (h2 : Reads w a' ys.length ys) :
    Calls Try.prog 13 #[.slice a xs.length cap, .slice a' ys.length cap'] w fun e w' => e = .returned (.bool (decide (xs = ys))) ∧ Drawn w w' := by
  by_cases hl : xs.length = ys.length
  · have hle : ys.length ≤ xs.length := by omega
    have hge : xs.length ≤ ys.length := by omega
    have Hl := Lib.hid hl; clear hl
    go_enter Try.func13, Try.ntmps13
    go_wp2
    go_loopw [5] (fun i wr => ∃ k : Nat, k ≤ xs.length ∧ i = .int .i64 k ∧ Hid (xs.take k = ys.take k) ∧ Drawn w wr) (fun i _ => xs.length - (intOf i).toNat)
    case atStart => exact ⟨0, Nat.zero_le _, rfl, (rfl : xs.take 0 = ys.take 0), 0, rfl⟩
    case round =>
      obtain ⟨k, hk, rfl, HE, n, rfl⟩ := hrel
      by_cases hlt : k < xs.length
      · obtain ⟨b, off, rfl, hb, hc⟩ := reads_row h1 (by omega)
        obtain ⟨b', off', rfl, hb', hc'⟩ := reads_row h2 (by omega)
        have hck := hc k hlt
        have hck' := hc' k (by omega)
        clear hc hc'
        have hne0 : xs.getD k 0 ≠ ys.getD k 0 → decide (xs = ys) = false := fun he => by rw [decide_eq_false_iff_not]; exact fun h => he (by rw [h])
        have heq0 := eq_upto_succ xs ys k hlt (by omega) HE.out
        generalize xs.getD k 0 = x at *
        generalize ys.getD k 0 = y at *
        by_cases he : x = y
        · have HN := Lib.hid (heq0 he)
          clear heq0 hne0
          subst he
          go_wp2
          go_quiet (fail)
          go_wp2
          go_roundw
          case rel => exact ⟨k + 1, by omega, by go_num, HN.out, _, rfl⟩
          case measure => simp [intOf]; omega
        · have hne : (x == y) = false := by rw [beq_eq_false_iff_ne]; exact he
          have Hd := Lib.hid (hne0 he); clear hne0 heq0 he
          go_wp2
          go_quiet (fail)
          go_wp2
          go_ret
          exact ⟨ret_bool Hd.out.symm, drawn2 _ _ _⟩
      · have hd : decide (xs = ys) = true := by
          have h := HE.out
          obtain rfl : k = xs.length := by omega
          rw [List.take_length, Hl.out, List.take_length] at h
          simpa using h
        have Hd := Lib.hid hd; clear hd
        go_wp2
        go_ret
        exact ⟨ret_bool Hd.out.symm, n, rfl⟩
  · have hd : decide (xs = ys) = false := by rw [decide_eq_false_iff_not]; exact fun h => hl (by rw [h])
    have Hd := Lib.hid hd; clear hd
    go_enter Try.func13, Try.ntmps13
    go_wp2
    go_ret
    exact ⟨ret_bool Hd.out.symm, Drawn.refl _⟩

/-- The numbers that a mark writes: k, k + 1, .. -/
def run (k : Int) (n : Nat) : List Int := (List.range n).map (fun (i : Nat) => k + (i : Int))
theorem run_len (k : Int) (n : Nat) : (run k n).length = n := by simp [run]
theorem run_get (k : Int) (n j : Nat) (h : j < n) : (run k n).getD j 0 = k + j := by simp [run, List.getD, h]
/-- Behind k rounds of marking. -/
def marked (xs : List Int) (m : Int) (k : Nat) : List Int := run m k ++ xs.drop k
theorem marked_zero (xs : List Int) (m : Int) : marked xs m 0 = xs := by simp [marked, run]
theorem marked_full (xs : List Int) (m : Int) : marked xs m xs.length = run m xs.length := by simp [marked]
theorem marked_len (xs : List Int) (m : Int) (k : Nat) (h : k ≤ xs.length) : (marked xs m k).length = xs.length := by simp [marked, run_len]; omega
theorem run_succ (m : Int) (k : Nat) : run m (k + 1) = run m k ++ [m + k] := by simp [run, List.range_succ]
theorem marked_step (xs : List Int) (m : Int) (k : Nat) (h : k < xs.length) : (marked xs m k).set k (m + k) = marked xs m (k + 1) := by
  unfold marked
  rw [List.set_append, if_neg (by rw [run_len]; omega), run_len, Nat.sub_self, List.drop_eq_getElem_cons h, List.set_cons_zero, run_succ, List.append_assoc]
  rfl

/-- A world in which, of the blocks that were there, g alone may have turned. -/
def Only (g : Nat) (w w' : World) : Prop := w.grownBy w' (some g)
theorem grownBy_trans {w w1 w2 : World} {row : Option Nat} (h : w.grownBy w1 row) (k : w1.grownBy w2 row) : w.grownBy w2 row :=
  ⟨k.os.trans h.os, k.tape.trans h.tape, k.output.trans h.output, Nat.le_trans h.size k.size, fun i hi hr => (k.block i (Nat.lt_of_lt_of_le hi h.size) hr).trans (h.block i hi hr)⟩

set_option maxHeartbeats 800000 in
theorem markIntS_row (lo g cap : Nat) (xs : List Int) (m : Int) (w : World) (hx : xs.length ≤ 1048576) (h0 : 0 ≤ m) (h1 : m ≤ 4294967296)
    (hO : Own w lo (.slice (some ⟨g, 0, none⟩) xs.length cap) xs) :
    Calls Try.prog 17 #[.slice (some ⟨g, 0, none⟩) xs.length cap, .int .i64 m] w fun e w' => e = .returned (.int .i64 (m + xs.length)) ∧
      Own w' lo (.slice (some ⟨g, 0, none⟩) xs.length cap) (run m xs.length) ∧ Only g w w' := by
  go_enter Try.func17, Try.ntmps17
  go_wp2
  go_loopw [1, 5] (fun q i wr => ∃ k : Nat, k ≤ xs.length ∧ i = .int .i64 k ∧ q = .int .i64 (m + k) ∧ Own wr lo (.slice (some ⟨g, 0, none⟩) xs.length cap) (marked xs m k) ∧ Only g w wr) (fun _ i _ => xs.length - (intOf i).toNat)
  case atStart => exact ⟨0, Nat.zero_le _, rfl, by simp, by rw [marked_zero]; exact hO, World.grownBy.refl _ _⟩
  case round =>
    obtain ⟨k, hk, rfl, rfl, hOr, hBr⟩ := hrel
    clear hO
    by_cases hlt : k < xs.length
    · have hpl := marked_len xs m k hk
      have hcy := Own.cell (by rw [hpl]; exact hOr) k (by omega)
      have hfy := Own.free (by rw [hpl]; exact hOr) k
      have HL := Lib.hid hpl; clear hpl
      have HS := Lib.hid (own_store hOr HL.out k (m + k))
      rw [marked_step xs m k hlt] at HS
      have HB := Lib.hid (World.ownsRow.stored (by unfold Own at hOr; rw [HL.out] at hOr; exact hOr) k (.int .i64 (m + k))).2
      clear hOr
      go_wp2
      go_roundw
      case rel => exact ⟨k + 1, by omega, by go_num, by go_num, HS.out, grownBy_trans hBr HB.out⟩
      case measure => simp [intOf]; omega
    · go_wp2
      go_ret
      obtain rfl : k = xs.length := by omega
      rw [marked_full] at hOr
      exact ⟨rfl, hOr, hBr⟩

theorem markIntS_any (lo : Nat) (v : Value) (xs : List Int) (m : Int) (w : World) (hx : xs.length ≤ 1048576) (h0 : 0 ≤ m) (h1 : m ≤ 4294967296) (hO : Own w lo v xs) :
    Calls Try.prog 17 #[v, .int .i64 m] w fun e w' => e = .returned (.int .i64 (m + xs.length)) ∧ Own w' lo v (run m xs.length) ∧ w.grownBy w' v.ownBlock := by
  rcases hO.cases with ⟨rfl, rfl⟩ | ⟨g, cap, rfl, h2, h3, h4, h5⟩
  · go_enter Try.func17, Try.ntmps17
    go_wp2
    refine wp_loop_rounds 1 ?_
    rw [rounds_succ]
    go_wp2
    go_ret
    exact ⟨ret_int (by simp), Own.nil _ _, World.grownBy.refl _ _⟩
  · exact markIntS_row lo g cap xs m w hx h0 h1 hO

set_option maxHeartbeats 800000 in
theorem heldIntS_any (lo : Nat) (v : Value) (n : Nat) (m : Int) (w : World) (hn : n ≤ 1048576) (h0 : 0 ≤ m) (h1 : m ≤ 4294967296) (hO : Own w lo v (run m n)) :
    Calls Try.prog 24 #[v, .int .i64 m] w fun e w' => e = .returned (.int .i64 (m + n)) ∧ Drawn w w' := by
  obtain ⟨a, cap, rfl, hr⟩ := hO.reads
  have hlen := run_len m n
  rw [hlen] at hr ⊢
  go_enter Try.func24, Try.ntmps24
  go_wp2
  go_loopw [1, 5] (fun q i wr => ∃ k : Nat, k ≤ n ∧ i = .int .i64 k ∧ q = .int .i64 (m + k) ∧ Drawn w wr) (fun _ i _ => n - (intOf i).toNat)
  case atStart => exact ⟨0, Nat.zero_le _, rfl, by simp, Drawn.refl _⟩
  case round =>
    obtain ⟨k, hk, rfl, rfl, d, rfl⟩ := hrel
    by_cases hlt : k < n
    · obtain ⟨b, off, rfl, hb, hc⟩ := reads_row hr (by omega)
      have hck := hc k hlt
      rw [run_get m n k hlt] at hck
      clear hc hlen
      go_wp2
      go_roundw
      case rel => exact ⟨k + 1, by omega, by go_num, by go_num, _, rfl⟩
      case measure => simp [intOf]; omega
    · go_wp2
      go_ret
      obtain rfl : k = n := by omega
      exact ⟨rfl, _, rfl⟩

end Go.Proofs.Ytabfiafjcnilnaa
end

section
namespace Go.Proofs.Ytabfiafjcnilnaa
open Go.RowKit
/-- v is a board value of the call's own: its numbers and its cells. -/
def OwnB (w : World) (lo : Nat) (v : Value) (r c : Int) (xs : List Int) : Prop := ∃ s, v = .agg #[.int .i64 r, .int .i64 c, s] ∧ Own w lo s xs

end Go.Proofs.Ytabfiafjcnilnaa
end
