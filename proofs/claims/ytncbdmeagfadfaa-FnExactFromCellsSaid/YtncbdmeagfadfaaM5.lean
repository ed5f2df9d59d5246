/- A board out of its cells: the plain part. No condition. -/
import Derived.Test.YtncbdmeagfadfaaM4
import Derived.Test.YtncbdmeagfadfaaK
import Derived.BigRegion
import Derived.Deep.RegionWith
import Derived.Deep.RegionHeld3
import Derived.Deep.DeepCutAuto
namespace Go.Proofs.Ytncbdmeagfadfaa
open Go.RowKit Go.WideShapes

theorem OwnM.kept {w w' : World} {lo : Nat} {v : Value} {vs : List Value} {rss : List (List Int)} (h : OwnM w lo v vs rss) (hb : Below w.heap.size w w') : OwnM w' lo v vs rss := by
  refine h.stay (row := none) ⟨hb.os, hb.tape, hb.output, hb.size, fun k hk _ => hb.block k hk⟩ ?_ (fun u _ => ?_)
  · cases v.ownBlock <;> simp
  · cases u.ownBlock <;> simp

/-- May the cell x be put into a board of n rows and m columns with the masks M? -/
def okC (n m : Int) (M : Nat → Int) (x : List Int) : Bool := decide (x.length = 2) && (insB n m (x.getD 0 0) (x.getD 1 0) && !((M (x.getD 0 0).toNat).toNat.testBit (x.getD 1 0).toNat))
def addC (M : Nat → Int) (x : List Int) : Nat → Int := fun q => if q = (x.getD 0 0).toNat then M q + 2 ^ (x.getD 1 0).toNat else M q
def goC (n m : Int) : (Nat → Int) → List (List Int) → Option (Nat → Int)
  | M, [] => some M
  | M, x :: r => if okC n m M x = true then goC n m (addC M x) r else none
theorem goC_append (n m : Int) (l r : List (List Int)) : ∀ M M', goC n m M l = some M' → goC n m M (l ++ r) = goC n m M' r := by
  induction l with
  | nil => intro M M' h; simp [goC] at h; subst h; rfl
  | cons x l ih =>
    intro M M' h
    rw [goC] at h
    rw [List.cons_append, goC]
    split at h
    · rename_i hk
      rw [if_pos hk]
      exact ih _ _ h
    · cases h
theorem goC_next (n m : Int) (l : List (List Int)) (M M' : Nat → Int) (k : Nat) (hk : k < l.length) (h : goC n m M (l.take k) = some M') (ho : okC n m M' l[k] = true) : goC n m M (l.take (k + 1)) = some (addC M' l[k]) := by
  rw [List.take_succ_eq_append_getElem hk, goC_append n m _ _ M M' h, goC, if_pos ho]
  rfl
theorem goC_stop (n m : Int) (l : List (List Int)) (M M' : Nat → Int) (k : Nat) (hk : k < l.length) (h : goC n m M (l.take k) = some M') (ho : okC n m M' l[k] = false) : goC n m M l = none := by
  conv => lhs; rw [← List.take_append_drop k l, List.drop_eq_getElem_cons hk]
  rw [goC_append n m _ _ M M' h, goC, if_neg (by rw [ho]; simp)]

theorem pop_put (x : Int) (j : Nat) (h : 0 ≤ x ∧ x < 64) (hj : j < 6) (hb : x.toNat.testBit j = false) : pop (x + 2 ^ j) = pop x + 1 ∧ 0 ≤ x + 2 ^ j ∧ x + 2 ^ j < 64 ∧ bits .or .i64 x (wrap64 (2 ^ j)) = x + 2 ^ j := by
  obtain ⟨n, rfl⟩ := Int.eq_ofNat_of_zero_le h.1
  have key : ∀ n : Fin 64, ∀ j : Fin 6, ((n : Nat) : Int).toNat.testBit j = false → pop (((n : Nat) : Int) + 2 ^ (j : Nat)) = pop ((n : Nat) : Int) + 1 ∧ 0 ≤ ((n : Nat) : Int) + 2 ^ (j : Nat) ∧ ((n : Nat) : Int) + 2 ^ (j : Nat) < 64 ∧ bits .or .i64 ((n : Nat) : Int) (wrap64 (2 ^ (j : Nat))) = ((n : Nat) : Int) + 2 ^ (j : Nat) := by decide +kernel
  exact key ⟨n, by omega⟩ ⟨j, hj⟩ hb
/-- The masks are masks of n rows and m columns, with k cells. -/
structure Fit6 (M : Nat → Int) (k : Nat) : Prop where
  bd : ∀ q, 0 ≤ M q ∧ M q < 64
  sum : sumP M 6 = k
theorem fit_zero : Fit6 (fun _ => 0) 0 := ⟨fun _ => by simp, by decide +kernel⟩
theorem okC_facts {n m : Int} {M : Nat → Int} {x : List Int} (h : okC n m M x = true) : ∃ i j : Int, x = [i, j] ∧ 0 ≤ i ∧ i < n ∧ 0 ≤ j ∧ j < m ∧ (M i.toNat).toNat.testBit j.toNat = false := by
  unfold okC at h
  simp only [Bool.and_eq_true, decide_eq_true_eq, Bool.not_eq_true'] at h
  obtain ⟨h1, h2, h3⟩ := h
  match x, h1 with
  | [i, j], _ =>
    have h2 : insB n m i j = true := h2
    rw [insB_iff] at h2
    exact ⟨i, j, rfl, h2.1, h2.2.1, h2.2.2.1, h2.2.2.2, h3⟩
theorem fit_add {n m : Int} {M : Nat → Int} {k : Nat} {x : List Int} (hf : Fit6 M k) (h : okC n m M x = true) (hn : n ≤ 6) (hm : m ≤ 6) : Fit6 (addC M x) (k + 1) := by
  obtain ⟨i, j, rfl, h1, h2, h3, h4, h5⟩ := okC_facts h
  obtain ⟨a, rfl⟩ := Int.eq_ofNat_of_zero_le h1
  obtain ⟨b, rfl⟩ := Int.eq_ofNat_of_zero_le h3
  rw [Int.toNat_natCast, Int.toNat_natCast] at h5
  have ha : a < 6 := by omega
  obtain ⟨p1, p2, p3, _⟩ := pop_put (M a) b (hf.bd a) (by omega) h5
  have e : addC M [(a : Int), (b : Int)] = fun q => if q = a then M q + 2 ^ b else M q := by funext q; simp [addC]
  rw [e]
  refine ⟨fun q => ?_, ?_⟩
  · by_cases hq : q = a
    · subst hq; simp only [if_pos]; exact ⟨p2, p3⟩
    · simp only [if_neg hq]; exact hf.bd q
  · have hs := hf.sum
    simp only [sumP] at hs ⊢
    have : a = 0 ∨ a = 1 ∨ a = 2 ∨ a = 3 ∨ a = 4 ∨ a = 5 := by omega
    rcases this with rfl | rfl | rfl | rfl | rfl | rfl <;> simp <;> omega
theorem goC_fit (n m : Int) (hn : n ≤ 6) (hm : m ≤ 6) (l : List (List Int)) : ∀ (M M' : Nat → Int) (k : Nat), Fit6 M k → goC n m M l = some M' → Fit6 M' (k + l.length) := by
  induction l with
  | nil => intro M M' k hf h; simp [goC] at h; subst h; exact hf
  | cons x l ih =>
    intro M M' k hf h
    rw [goC] at h
    split at h
    · rename_i hk
      have := ih _ _ _ (fit_add hf hk hn hm) h
      rw [List.length_cons]
      rw [show k + (l.length + 1) = k + 1 + l.length by omega]
      exact this
    · cases h
theorem goC_len {n m : Int} (hn : n ≤ 6) (hm : m ≤ 6) {l : List (List Int)} {M' : Nat → Int} (h : goC n m (fun _ => 0) l = some M') : l.length ≤ 36 := by
  have := (goC_fit n m hn hm l _ _ 0 fit_zero h).sum
  have := (sumP_bd M' 6).2
  omega

/-- What FromCells answers. -/
def fromB (r c : Int) (cells : List (List Int)) : BR :=
  if inB 1 r 6 && inB 1 c 6 then (match goC r c (fun _ => 0) cells with | some M => ⟨r, c, [M 0, M 1, M 2, M 3, M 4, M 5].take r.toNat, true⟩ | none => BR.zero) else BR.zero
theorem fromB_len (r c : Int) (cells : List (List Int)) : (fromB r c cells).xs.length ≤ 1048576 := by
  unfold fromB
  split
  · split
    · simp; omega
    · simp [BR.zero]
  · simp [BR.zero]
theorem fromB_off {r c : Int} (cells : List (List Int)) (h : (inB 1 r 6 && inB 1 c 6) = false) : fromB r c cells = BR.zero := by unfold fromB; rw [h]; rfl
theorem fromB_none {r c : Int} {cells : List (List Int)} (h : goC r c (fun _ => 0) cells = none) : fromB r c cells = BR.zero := by
  unfold fromB
  split
  · rw [h]
  · rfl
theorem fromB_some {r c : Int} {cells : List (List Int)} {M : Nat → Int} (h1 : (inB 1 r 6 && inB 1 c 6) = true) (h : goC r c (fun _ => 0) cells = some M) : fromB r c cells = ⟨r, c, [M 0, M 1, M 2, M 3, M 4, M 5].take r.toNat, true⟩ := by
  unfold fromB
  rw [h1, if_pos rfl, h]

set_option maxRecDepth 100000 in
set_option maxHeartbeats 6400000 in
theorem implFrom_any (r c : Int) (rss : List (List Int)) (w : World) (hl : rss.length ≤ 1048576) (lo : Nat) (s : Value) (vs : List Value) (hO : OwnM w lo s vs rss) :
    Calls Try.prog 36 #[.int .i64 r, .int .i64 c, s] w fun e w' => AnsB (fromB r c rss) w e w' := by
  have L0 := (Law.start w).box (.int .i64 0) (.int .i64 0) (.slice none 0 0) 27
  obtain ⟨a, cap, rfl, _⟩ := hO.form
  cases h1 : inB 1 r 6
  · rw [fromB_off rss (by rw [h1]; rfl)]
    have ⟨_, n0, n1, n2, nf⟩ := L0.ownBox
    have HB := Lib.hid L0.below
    have C1 := Lib.hid (at_bool (isSide_any r) h1)
    clear L0 hO h1
    go_enter Try.func36, Try.ntmps36
    go_wp2_with (go_at_call 54; with_reducible refine (C1.out _).mono ?_; rintro e w' ⟨rfl, rfl⟩)
    refine bodyPost_ret (v := .tuple #[.agg #[.int .i64 0, .int .i64 0, .slice none 0 0], .bool false]) (by simp [results, Try.results36, go_sem]) rfl (ansB_zero _ _ ?_)
    exact HB.out
  · cases h2 : inB 1 c 6
    · rw [fromB_off rss (by rw [h1, h2]; rfl)]
      have HB := Lib.hid L0.below
      have C1 := Lib.hid (at_bool (isSide_any r) h1)
      have C2 := Lib.hid (at_bool (isSide_any c) h2)
      clear L0 hO h1 h2
      go_enter Try.func36, Try.ntmps36
      go_wp2_with (first | (go_at_call 54; ((with_reducible refine (C1.out _).mono ?_); rintro e w' ⟨rfl, rfl⟩)) | (go_at_call 54; ((with_reducible refine (C2.out _).mono ?_); rintro e w' ⟨rfl, rfl⟩)))
      refine bodyPost_ret (v := .tuple #[.agg #[.int .i64 0, .int .i64 0, .slice none 0 0], .bool false]) (by simp [results, Try.results36, go_sem]) rfl (ansB_zero _ _ ?_)
      exact HB.out
    · have H12 := Lib.hid (show (inB 1 r 6 && inB 1 c 6) = true by rw [h1, h2]; rfl)
      obtain ⟨r1, r2⟩ := inB_iff.1 h1
      obtain ⟨c1, c2⟩ := inB_iff.1 h2
      obtain ⟨n, rfl⟩ := Int.eq_ofNat_of_zero_le (show 0 ≤ r by omega)
      obtain ⟨m, rfl⟩ := Int.eq_ofNat_of_zero_le (show 0 ≤ c by omega)
      have C1 := Lib.hid (at_bool (isSide_any n) h1)
      have C2 := Lib.hid (at_bool (isSide_any m) h2)
      have L1 := L0.has (gl n m (fun _ => 0)) 63
      rw [show (gl n m (fun _ => 0)).toArray = #[.int .i64 n, .int .i64 m, .int .i64 0, .int .i64 0, .int .i64 0, .int .i64 0, .int .i64 0, .int .i64 0] from rfl] at L1
      simp only [World.size_alloc] at L1
      have HL := Lib.hid L1
      have HVL := Lib.hid (show vs.length = rss.length from hO.len.symm)
      have HO := Lib.hid hO
      clear L0 L1 h1 h2 hO
      go_enter Try.func36, Try.ntmps36
      go_upto_region 4 with (first | (go_at_call 54; ((with_reducible refine (C1.out _).mono ?_); rintro e w' ⟨rfl, rfl⟩)) | (go_at_call 54; ((with_reducible refine (C2.out _).mono ?_); rintro e w' ⟨rfl, rfl⟩)))
      clear C1 C2
      generalize (w.alloc (.cells #[.int .i64 0, .int .i64 0, .slice none 0 0] 27)).alloc (.cells #[.int .i64 n, .int .i64 m, .int .i64 0, .int .i64 0, .int .i64 0, .int .i64 0, .int .i64 0, .int .i64 0] 63) = w5 at *
      go_wp2_with fail
      go_loopw [25] (fun i wr => ∃ (k : Nat) (M : Nat → Int), k ≤ vs.length ∧ i = .int .i64 k ∧ Hid (goC n m (fun _ => 0) (rss.take k) = some M) ∧ Law w [tHas (w.heap.size + 1) (gl n m M) 63, tBox w.heap.size (.int .i64 0) (.int .i64 0) (.slice none 0 0)] wr) (fun i _ => vs.length - (intOf i).toNat)
      case atStart => exact ⟨0, fun _ => 0, Nat.zero_le _, rfl, rfl, HL.out⟩
      case round =>
        clear HL
        obtain ⟨k, M, hk, rfl, HG, L⟩ := hrel
        have HLr := Lib.hid L
        by_cases hlt : k < vs.length
        · have hkr : k < rss.length := by have := HVL.out; omega
          have hOk := HO.out.kept L.below
          obtain ⟨a', cap', hv, hc⟩ := hOk.form
          injection hv with ha hb hcp
          subst ha
          obtain ⟨g, rfl, c1⟩ := hc k hlt
          have hrow := hOk.row k hlt
          have hst := goC_stop n m rss (fun _ => 0) M k hkr HG.out
          have hnx := goC_next n m rss (fun _ => 0) M k hkr HG.out
          have hbd := (goC_fit n m (by omega) (by omega) (rss.take k) (fun _ => 0) M 0 fit_zero HG.out).bd
          generalize rss[k] = x at *
          obtain ⟨ax, px, hvx, _⟩ := hrow.reads
          rw [hvx] at c1 hrow
          clear hOk hb hcp hc hvx
          by_cases hx2 : x.length = 2
          · obtain ⟨i, j, rfl⟩ : ∃ i j, x = [i, j] := by
              match x, hx2 with
              | [i, j], _ => exact ⟨i, j, rfl⟩
            rcases hrow.cases with ⟨_, h0⟩ | ⟨gr, cr, hvr, _⟩
            · cases h0
            · injection hvr with ha hb hcp
              subst ha
              subst hcp
              have p0 := hrow.cell 0 (by simp)
              have p1 := hrow.cell 1 (by simp)
              have p0 : wr.cell? ⟨gr, 0, none⟩ = some (.int .i64 i) := p0
              have p1 : wr.cell? ⟨gr, 1, none⟩ = some (.int .i64 j) := p1
              simp only [List.length_cons, List.length_nil, Nat.zero_add, Nat.reduceAdd] at c1
              have e8 : wr.drew.cell? ⟨gr, 0, none⟩ = some (.int .i64 i) := p0
              have e9 : wr.drew.cell? ⟨gr, 1, none⟩ = some (.int .i64 j) := p1
              have HB := Lib.hid ((Below.refl wr.heap.size wr).drew)
              clear hb hx2
              cases hi : insB n m i j
              · have HZ := Lib.hid (fromB_none (r := n) (c := m) (hst (by unfold okC; simp [hi])))
                have HI := Lib.hid (fun W => at_boolB (inside_any n m i j M W) hi)
                obtain ⟨e0, e1, e2, e3, e4, e5, e6, e7, _⟩ := (show Has wr.drew (w.heap.size + 1) (gl n m M) 63 from L.ownHas.drew).eight
                clear L hst hnx hi hrow
                go_upto_region 7 with fail
                go_cut [52] (fun t w' => t = .bool true ∧ Below wr.heap.size wr w')
                case first =>
                  refine wp_region_held_drew (S := fun w' => w'.cell? ⟨w.heap.size + 1, 0, none⟩ = some (.int .i64 n) ∧ w'.cell? ⟨w.heap.size + 1, 1, none⟩ = some (.int .i64 m) ∧ w'.cell? ⟨w.heap.size + 1, 2, none⟩ = some (.int .i64 (M 0)) ∧ w'.cell? ⟨w.heap.size + 1, 3, none⟩ = some (.int .i64 (M 1)) ∧ w'.cell? ⟨w.heap.size + 1, 4, none⟩ = some (.int .i64 (M 2)) ∧ w'.cell? ⟨w.heap.size + 1, 5, none⟩ = some (.int .i64 (M 3)) ∧ w'.cell? ⟨w.heap.size + 1, 6, none⟩ = some (.int .i64 (M 4)) ∧ w'.cell? ⟨w.heap.size + 1, 7, none⟩ = some (.int .i64 (M 5)) ∧ w'.cell? ⟨gr, 0, none⟩ = some (.int .i64 i) ∧ w'.cell? ⟨gr, 1, none⟩ = some (.int .i64 j)) (by kernel_rfl) ⟨e0, e1, e2, e3, e4, e5, e6, e7, e8, e9⟩ (fun hHeld => ?_)
                  refine wpAnyH_take (i := 0) (oi := { dst := some 29, op := Op.move (Operand.tmp 10), type := 22, pos := "l1_board.go:152", after := #[], guard := none }) (v := ?_) rfl (by kernel_rfl) (by kernel_rfl) (by kernel_rfl) (fun _ _ _ h => h) (Or.inl ⟨by rfl, ?_⟩) (by assumption) ?_
                  rotate_left
                  · (intro w hSw; (try dsimp only at hSw); go_simp; try with_reducible rfl)
                  try simp only [Act.put, List.setIfInBounds_toArray, List.set_cons_zero, List.set_cons_succ]
                  refine wpAnyH_take (i := 1) (oi := { dst := some 30, op := Op.call { callee := Callee.builtin Builtin.len, args := #[Operand.tmp 29], argTypes := #[22] }, type := 3, pos := "l1_board.go:152", after := #[{ on := 0, ground := Ground.data }], guard := none }) (v := ?_) rfl (by kernel_rfl) (by kernel_rfl) (by kernel_rfl) (fun _ _ _ h => h) (Or.inl ⟨by rfl, ?_⟩) (by assumption) ?_
                  rotate_left
                  · (intro w hSw; (try dsimp only at hSw); go_simp; try with_reducible rfl)
                  try simp only [Act.put, List.setIfInBounds_toArray, List.set_cons_zero, List.set_cons_succ]
                  refine wpAnyH_take (i := 2) (oi := { dst := some 31, op := Op.binOp BinOp.neq 3 (Operand.tmp 30) (Operand.const (Value.int IntKind.i64 2)) 3, type := 4, pos := "l1_board.go:152", after := #[{ on := 1, ground := Ground.data }], guard := none }) (v := ?_) rfl (by kernel_rfl) (by kernel_rfl) (by kernel_rfl) (fun _ _ _ h => h) (Or.inl ⟨by rfl, ?_⟩) (by assumption) ?_
                  rotate_left
                  · (intro w hSw; (try dsimp only at hSw); go_simp; try with_reducible rfl)
                  try simp only [Act.put, List.setIfInBounds_toArray, List.set_cons_zero, List.set_cons_succ]
                  refine wpAnyH_take (i := 3) (oi := { dst := some 32, op := Op.move (Operand.tmp 31), type := 4, pos := "l1_board.go:152", after := #[{ on := 2, ground := Ground.data }], guard := none }) (v := ?_) rfl (by kernel_rfl) (by kernel_rfl) (by kernel_rfl) (fun _ _ _ h => h) (Or.inl ⟨by rfl, ?_⟩) (by assumption) ?_
                  rotate_left
                  · (intro w hSw; (try dsimp only at hSw); go_simp; try with_reducible rfl)
                  try simp only [Act.put, List.setIfInBounds_toArray, List.set_cons_zero, List.set_cons_succ]
                  refine wpAnyH_take (i := 4) (oi := { dst := some 33, op := Op.load 63 (Operand.tmp 8), type := 63, pos := "l1_board.go:152", after := #[{ on := 3, ground := Ground.guard }], guard := some (3, false) }) (v := ?_) rfl (by kernel_rfl) (by kernel_rfl) (by kernel_rfl) (fun _ _ _ h => h) (Or.inl ⟨by rfl, ?_⟩) (by assumption) ?_
                  rotate_left
                  · (intro w hSw; (try dsimp only at hSw); go_simp; try with_reducible rfl)
                  try simp only [Act.put, List.setIfInBounds_toArray, List.set_cons_zero, List.set_cons_succ]
                  refine wpAnyH_take (i := 5) (oi := { dst := some 34, op := Op.move (Operand.tmp 10), type := 22, pos := "l1_board.go:152", after := #[{ on := 3, ground := Ground.guard }], guard := some (3, false) }) (v := ?_) rfl (by kernel_rfl) (by kernel_rfl) (by kernel_rfl) (fun _ _ _ h => h) (Or.inl ⟨by rfl, ?_⟩) (by assumption) ?_
                  rotate_left
                  · (intro w hSw; (try dsimp only at hSw); go_simp; try with_reducible rfl)
                  try simp only [Act.put, List.setIfInBounds_toArray, List.set_cons_zero, List.set_cons_succ]
                  refine wpAnyH_take (i := 6) (oi := { dst := some 35, op := Op.indexAddr 22 (Operand.tmp 34) (Operand.const (Value.int IntKind.i64 0)), type := 0, pos := "l1_board.go:152", after := #[{ on := 5, ground := Ground.data }, { on := 3, ground := Ground.guard }], guard := some (3, false) }) (v := ?_) rfl (by kernel_rfl) (by kernel_rfl) (by kernel_rfl) (fun _ _ _ h => h) (Or.inl ⟨by rfl, ?_⟩) (by assumption) ?_
                  rotate_left
                  · (intro w hSw; (try dsimp only at hSw); go_simp; try with_reducible rfl)
                  try simp only [Act.put, List.setIfInBounds_toArray, List.set_cons_zero, List.set_cons_succ]
                  refine wpAnyH_take (i := 7) (oi := { dst := some 36, op := Op.load 3 (Operand.tmp 35), type := 3, pos := "l1_board.go:152", after := #[{ on := 6, ground := Ground.data }, { on := 3, ground := Ground.guard }], guard := some (3, false) }) (v := ?_) rfl (by kernel_rfl) (by kernel_rfl) (by kernel_rfl) (fun _ _ _ h => h) (Or.inl ⟨by rfl, ?_⟩) (by assumption) ?_
                  rotate_left
                  · (intro w hSw; (try dsimp only at hSw); go_simp; try with_reducible rfl)
                  try simp only [Act.put, List.setIfInBounds_toArray, List.set_cons_zero, List.set_cons_succ]
                  refine wpAnyH_take (i := 8) (oi := { dst := some 37, op := Op.move (Operand.tmp 10), type := 22, pos := "l1_board.go:152", after := #[{ on := 3, ground := Ground.guard }], guard := some (3, false) }) (v := ?_) rfl (by kernel_rfl) (by kernel_rfl) (by kernel_rfl) (fun _ _ _ h => h) (Or.inl ⟨by rfl, ?_⟩) (by assumption) ?_
                  rotate_left
                  · (intro w hSw; (try dsimp only at hSw); go_simp; try with_reducible rfl)
                  try simp only [Act.put, List.setIfInBounds_toArray, List.set_cons_zero, List.set_cons_succ]
                  refine wpAnyH_take (i := 9) (oi := { dst := some 38, op := Op.indexAddr 22 (Operand.tmp 37) (Operand.const (Value.int IntKind.i64 1)), type := 0, pos := "l1_board.go:152", after := #[{ on := 8, ground := Ground.data }, { on := 3, ground := Ground.guard }], guard := some (3, false) }) (v := ?_) rfl (by kernel_rfl) (by kernel_rfl) (by kernel_rfl) (fun _ _ _ h => h) (Or.inl ⟨by rfl, ?_⟩) (by assumption) ?_
                  rotate_left
                  · (intro w hSw; (try dsimp only at hSw); go_simp; try with_reducible rfl)
                  try simp only [Act.put, List.setIfInBounds_toArray, List.set_cons_zero, List.set_cons_succ]
                  refine wpAnyH_take (i := 10) (oi := { dst := some 39, op := Op.load 3 (Operand.tmp 38), type := 3, pos := "l1_board.go:152", after := #[{ on := 9, ground := Ground.data }, { on := 3, ground := Ground.guard }], guard := some (3, false) }) (v := ?_) rfl (by kernel_rfl) (by kernel_rfl) (by kernel_rfl) (fun _ _ _ h => h) (Or.inl ⟨by rfl, ?_⟩) (by assumption) ?_
                  rotate_left
                  · (intro w hSw; (try dsimp only at hSw); go_simp; try with_reducible rfl)
                  try simp only [Act.put, List.setIfInBounds_toArray, List.set_cons_zero, List.set_cons_succ]
                  refine wpAnyH_ready (rs := [11]) (by kernel_rfl) (by simp) ?_
                  refine AllReadyH.cons (o := { dst := some 40, op := Op.call { callee := Callee.value (Operand.func 65), args := #[Operand.tmp 33, Operand.tmp 36, Operand.tmp 39], argTypes := #[63, 3, 3] }, type := 4, pos := "l1_board.go:152", after := #[{ on := 4, ground := Ground.data }, { on := 7, ground := Ground.data }, { on := 10, ground := Ground.data }, { on := 3, ground := Ground.chain }, { on := 3, ground := Ground.guard }], guard := some (3, false) }) rfl (fun K hK => ?_) AllReadyH.nil
                  go_simp
                  go_at_call 65
                  (with_reducible refine (HI.out _).mono ?_)
                  rintro e w1 ⟨rfl, hb⟩
                  have m0 := cell_later hb e0
                  have m1 := cell_later hb e1
                  have m2 := cell_later hb e2
                  have m3 := cell_later hb e3
                  have m4 := cell_later hb e4
                  have m5 := cell_later hb e5
                  have m6 := cell_later hb e6
                  have m7 := cell_later hb e7
                  have m8 := cell_later hb e8
                  have m9 := cell_later hb e9
                  have HB2 := Lib.hid (below_on (w0 := wr) (w := wr.drew) HB.out hb)
                  (try go_wp2_with fail)
                  refine hK.out _ _ ⟨m0, m1, m2, m3, m4, m5, m6, m7, m8, m9⟩ (fun hHeld2 => ?_)
                  clear hK K hHeld hb
                  try simp only [Act.put, List.setIfInBounds_toArray, List.set_cons_zero, List.set_cons_succ]
                  refine wpAnyH_take (i := 12) (oi := { dst := some 41, op := Op.unOp UnOp.not 4 (Operand.tmp 40), type := 4, pos := "l1_board.go:152", after := #[{ on := 11, ground := Ground.data }, { on := 3, ground := Ground.guard }], guard := some (3, false) }) (v := ?_) rfl (by kernel_rfl) (by kernel_rfl) (by kernel_rfl) (fun _ _ _ h => h) (Or.inl ⟨by rfl, ?_⟩) (by assumption) ?_
                  rotate_left
                  · (intro w hSw; (try dsimp only at hSw); go_simp; try with_reducible rfl)
                  try simp only [Act.put, List.setIfInBounds_toArray, List.set_cons_zero, List.set_cons_succ]
                  refine wpAnyH_take (i := 13) (oi := { dst := some 42, op := Op.pick (Operand.tmp 32) (Operand.const (Value.bool true)) (Operand.tmp 41), type := 4, pos := "l1_board.go:152", after := #[{ on := 3, ground := Ground.data }, { on := 12, ground := Ground.data }], guard := none }) (v := ?_) rfl (by kernel_rfl) (by kernel_rfl) (by kernel_rfl) (fun _ _ _ h => h) (Or.inl ⟨by rfl, ?_⟩) (by assumption) ?_
                  rotate_left
                  · (intro w hSw; (try dsimp only at hSw); go_simp; try with_reducible rfl)
                  try simp only [Act.put, List.setIfInBounds_toArray, List.set_cons_zero, List.set_cons_succ]
                  refine wpAnyH_take (i := 14) (oi := { dst := some 43, op := Op.move (Operand.tmp 42), type := 4, pos := "l1_board.go:152", after := #[{ on := 13, ground := Ground.data }, { on := 11, ground := Ground.chain }], guard := none }) (v := ?_) rfl (by kernel_rfl) (by kernel_rfl) (by kernel_rfl) (fun _ _ _ h => h) (Or.inl ⟨by rfl, ?_⟩) (by assumption) ?_
                  rotate_left
                  · (intro w hSw; (try dsimp only at hSw); go_simp; try with_reducible rfl)
                  try simp only [Act.put, List.setIfInBounds_toArray, List.set_cons_zero, List.set_cons_succ]
                  refine wpAnyH_take (i := 15) (oi := { dst := some 44, op := Op.load 63 (Operand.tmp 8), type := 63, pos := "l1_board.go:152", after := #[{ on := 14, ground := Ground.guard }], guard := some (14, false) }) (v := undef) rfl (by kernel_rfl) (by kernel_rfl) (by kernel_rfl) (fun _ _ _ h => h) (Or.inr ⟨by rfl, rfl⟩) (by assumption) ?_
                  try simp only [Act.put, List.setIfInBounds_toArray, List.set_cons_zero, List.set_cons_succ]
                  refine wpAnyH_take (i := 16) (oi := { dst := some 45, op := Op.move (Operand.tmp 10), type := 22, pos := "l1_board.go:152", after := #[{ on := 14, ground := Ground.guard }], guard := some (14, false) }) (v := undef) rfl (by kernel_rfl) (by kernel_rfl) (by kernel_rfl) (fun _ _ _ h => h) (Or.inr ⟨by rfl, rfl⟩) (by assumption) ?_
                  try simp only [Act.put, List.setIfInBounds_toArray, List.set_cons_zero, List.set_cons_succ]
                  refine wpAnyH_take (i := 17) (oi := { dst := some 46, op := Op.indexAddr 22 (Operand.tmp 45) (Operand.const (Value.int IntKind.i64 0)), type := 0, pos := "l1_board.go:152", after := #[{ on := 16, ground := Ground.data }, { on := 14, ground := Ground.guard }], guard := some (14, false) }) (v := undef) rfl (by kernel_rfl) (by kernel_rfl) (by kernel_rfl) (fun _ _ _ h => h) (Or.inr ⟨by rfl, rfl⟩) (by assumption) ?_
                  try simp only [Act.put, List.setIfInBounds_toArray, List.set_cons_zero, List.set_cons_succ]
                  refine wpAnyH_take (i := 18) (oi := { dst := some 47, op := Op.load 3 (Operand.tmp 46), type := 3, pos := "l1_board.go:152", after := #[{ on := 17, ground := Ground.data }, { on := 14, ground := Ground.guard }], guard := some (14, false) }) (v := undef) rfl (by kernel_rfl) (by kernel_rfl) (by kernel_rfl) (fun _ _ _ h => h) (Or.inr ⟨by rfl, rfl⟩) (by assumption) ?_
                  try simp only [Act.put, List.setIfInBounds_toArray, List.set_cons_zero, List.set_cons_succ]
                  refine wpAnyH_take (i := 19) (oi := { dst := some 48, op := Op.move (Operand.tmp 10), type := 22, pos := "l1_board.go:152", after := #[{ on := 14, ground := Ground.guard }], guard := some (14, false) }) (v := undef) rfl (by kernel_rfl) (by kernel_rfl) (by kernel_rfl) (fun _ _ _ h => h) (Or.inr ⟨by rfl, rfl⟩) (by assumption) ?_
                  try simp only [Act.put, List.setIfInBounds_toArray, List.set_cons_zero, List.set_cons_succ]
                  refine wpAnyH_take (i := 20) (oi := { dst := some 49, op := Op.indexAddr 22 (Operand.tmp 48) (Operand.const (Value.int IntKind.i64 1)), type := 0, pos := "l1_board.go:152", after := #[{ on := 19, ground := Ground.data }, { on := 14, ground := Ground.guard }], guard := some (14, false) }) (v := undef) rfl (by kernel_rfl) (by kernel_rfl) (by kernel_rfl) (fun _ _ _ h => h) (Or.inr ⟨by rfl, rfl⟩) (by assumption) ?_
                  try simp only [Act.put, List.setIfInBounds_toArray, List.set_cons_zero, List.set_cons_succ]
                  refine wpAnyH_take (i := 21) (oi := { dst := some 50, op := Op.load 3 (Operand.tmp 49), type := 3, pos := "l1_board.go:152", after := #[{ on := 20, ground := Ground.data }, { on := 14, ground := Ground.guard }], guard := some (14, false) }) (v := undef) rfl (by kernel_rfl) (by kernel_rfl) (by kernel_rfl) (fun _ _ _ h => h) (Or.inr ⟨by rfl, rfl⟩) (by assumption) ?_
                  try simp only [Act.put, List.setIfInBounds_toArray, List.set_cons_zero, List.set_cons_succ]
                  refine wpAnyH_take (i := 22) (oi := { dst := some 51, op := Op.call { callee := Callee.value (Operand.func 66), args := #[Operand.tmp 44, Operand.tmp 47, Operand.tmp 50], argTypes := #[63, 3, 3] }, type := 4, pos := "l1_board.go:152", after := #[{ on := 15, ground := Ground.data }, { on := 18, ground := Ground.data }, { on := 21, ground := Ground.data }, { on := 14, ground := Ground.chain }, { on := 14, ground := Ground.guard }], guard := some (14, false) }) (v := undef) rfl (by kernel_rfl) (by kernel_rfl) (by kernel_rfl) (fun _ _ _ h => h) (Or.inr ⟨by rfl, rfl⟩) (by assumption) ?_
                  try simp only [Act.put, List.setIfInBounds_toArray, List.set_cons_zero, List.set_cons_succ]
                  refine wpAnyH_take (i := 23) (oi := { dst := some 52, op := Op.pick (Operand.tmp 43) (Operand.const (Value.bool true)) (Operand.tmp 51), type := 4, pos := "l1_board.go:152", after := #[{ on := 14, ground := Ground.data }, { on := 22, ground := Ground.data }], guard := none }) (v := ?_) rfl (by kernel_rfl) (by kernel_rfl) (by kernel_rfl) (fun _ _ _ h => h) (Or.inl ⟨by rfl, ?_⟩) (by assumption) ?_
                  rotate_left
                  · (intro w hSw; (try dsimp only at hSw); go_simp; try with_reducible rfl)
                  try simp only [Act.put, List.setIfInBounds_toArray, List.set_cons_zero, List.set_cons_succ]
                  refine wpAnyH_done (by kernel_rfl) ?_ _
                  all_goals
                    go_wp2_with fail
                    go_meet
                    exact ⟨rfl, HB2.out⟩
                obtain ⟨rfl, hb⟩ := hcut
                have L2 := HLr.out.kept hb
                have ⟨_, n0, n1, n2, nf⟩ := L2.tl.ownBox
                have HB := Lib.hid L2.below
                clear L2 hb HLr
                go_wp2_with fail
                refine bodyPost_ret (v := .tuple #[.agg #[.int .i64 0, .int .i64 0, .slice none 0 0], .bool false]) (by simp [results, Try.results36, go_sem, n0, n1, n2]) rfl ?_
                rw [HZ.out]
                refine ansB_zero _ _ ?_
                exact ((HB.out.setCell (by simp <;> omega) _).setCell (by simp <;> omega) _).setCell (by simp <;> omega) _
              · obtain ⟨i1, i2, i3, i4⟩ := insB_iff.1 hi
                obtain ⟨q, rfl⟩ := Int.eq_ofNat_of_zero_le i1
                obtain ⟨l, rfl⟩ := Int.eq_ofNat_of_zero_le i3
                have HI := Lib.hid (fun W => at_boolB (inside_any n m q l M W) hi)
                cases hp : (M q).toNat.testBit l
                · have HNX := Lib.hid (hnx (by unfold okC; simp [hi, hp]))
                  obtain ⟨_, _, _, hor⟩ := pop_put (M q) l (hbd q) (by omega) hp
                  have HOR := Lib.hid hor
                  clear hor
                  have HA := Lib.hid (fun W => at_boolB (at_any n m M q l W (by omega) (by omega) (hbd q)) hp)
                  obtain ⟨e0, e1, e2, e3, e4, e5, e6, e7, _⟩ := (show Has wr.drew (w.heap.size + 1) (gl n m M) 63 from L.ownHas.drew).eight
                  clear L hst hnx hi hrow
                  go_upto_region 7 with fail
                  go_cut [52] (fun t w' => t = .bool false ∧ Below wr.heap.size wr w')
                  case first =>
                    go_region_held3 (fun w' => w'.cell? ⟨w.heap.size + 1, 0, none⟩ = some (.int .i64 n) ∧ w'.cell? ⟨w.heap.size + 1, 1, none⟩ = some (.int .i64 m) ∧ w'.cell? ⟨w.heap.size + 1, 2, none⟩ = some (.int .i64 (M 0)) ∧ w'.cell? ⟨w.heap.size + 1, 3, none⟩ = some (.int .i64 (M 1)) ∧ w'.cell? ⟨w.heap.size + 1, 4, none⟩ = some (.int .i64 (M 2)) ∧ w'.cell? ⟨w.heap.size + 1, 5, none⟩ = some (.int .i64 (M 3)) ∧ w'.cell? ⟨w.heap.size + 1, 6, none⟩ = some (.int .i64 (M 4)) ∧ w'.cell? ⟨w.heap.size + 1, 7, none⟩ = some (.int .i64 (M 5)) ∧ w'.cell? ⟨gr, 0, none⟩ = some (.int .i64 q) ∧ w'.cell? ⟨gr, 1, none⟩ = some (.int .i64 l)) (first | (repeat' apply And.intro) <;> first | with_reducible assumption | assumption) ((first | (go_at_call 65; ((with_reducible refine (HI.out _).mono ?_); rintro e w1 ⟨rfl, hb⟩; have m0 := cell_later hb e0; have m1 := cell_later hb e1; have m2 := cell_later hb e2; have m3 := cell_later hb e3; have m4 := cell_later hb e4; have m5 := cell_later hb e5; have m6 := cell_later hb e6; have m7 := cell_later hb e7; have m8 := cell_later hb e8; have m9 := cell_later hb e9; have HB2 := Lib.hid (below_on (w0 := wr) (w := wr.drew) HB.out hb); clear hb)) | (go_at_call 66; ((with_reducible refine (HA.out _).mono ?_); rintro e w2 ⟨rfl, hb⟩; have q0 := cell_later hb m0; have q1 := cell_later hb m1; have q2 := cell_later hb m2; have q3 := cell_later hb m3; have q4 := cell_later hb m4; have q5 := cell_later hb m5; have q6 := cell_later hb m6; have q7 := cell_later hb m7; have q8 := cell_later hb m8; have q9 := cell_later hb m9; have HB3 := Lib.hid (below_on (w0 := wr) HB2.out hb); clear hb))))
                    all_goals
                      go_wp2_with fail
                      go_meet
                      exact ⟨rfl, HB3.out⟩
                  obtain ⟨rfl, hb⟩ := hcut
                  have L2 := HLr.out.kept hb
                  have hcx := L2.ownHas.cell (2 + q)
                  rw [gl_get _ _ _ q (by omega)] at hcx
                  have hfr := L2.ownHas.free (2 + q)
                  have z0 := cell_later hb p0
                  have z1 := cell_later hb p1
                  have hS := (Law.setHas (ts := []) L2 (2 + q) (.int .i64 (M q + 2 ^ l)))
                  rw [gl_set n m M (addC M [(q : Int), (l : Int)]) q (by omega) (M q + 2 ^ l) (by simp [addC]) (fun u hu => by simp [addC, hu])] at hS
                  have HS := Lib.hid hS.drew
                  have hor := HOR.out
                  have hq6 : (q : Int) < 6 := by omega
                  have hl64 : (l : Int) < 64 := by omega
                  generalize M q = mq at *
                  generalize wc = w7 at *
                  clear L2 hS hb HLr HOR e0 e1 e2 e3 e4 e5 e6 e7 e8 e9 p0 p1 hp
                  go_wp2_with fail
                  go_region
                  go_wp2_with fail
                  go_roundw
                  case rel => exact ⟨k + 1, _, by omega, by go_num, HNX.out, HS.out⟩
                  case measure => simp [intOf]; omega
                · have HZ := Lib.hid (fromB_none (r := n) (c := m) (hst (by unfold okC; simp [hi, hp])))
                  have HA := Lib.hid (fun W => at_boolB (at_any n m M q l W (by omega) (by omega) (hbd q)) hp)
                  obtain ⟨e0, e1, e2, e3, e4, e5, e6, e7, _⟩ := (show Has wr.drew (w.heap.size + 1) (gl n m M) 63 from L.ownHas.drew).eight
                  clear L hst hnx hi hrow hp
                  go_upto_region 7 with fail
                  go_cut [52] (fun t w' => t = .bool true ∧ Below wr.heap.size wr w')
                  case first =>
                    go_region_held3 (fun w' => w'.cell? ⟨w.heap.size + 1, 0, none⟩ = some (.int .i64 n) ∧ w'.cell? ⟨w.heap.size + 1, 1, none⟩ = some (.int .i64 m) ∧ w'.cell? ⟨w.heap.size + 1, 2, none⟩ = some (.int .i64 (M 0)) ∧ w'.cell? ⟨w.heap.size + 1, 3, none⟩ = some (.int .i64 (M 1)) ∧ w'.cell? ⟨w.heap.size + 1, 4, none⟩ = some (.int .i64 (M 2)) ∧ w'.cell? ⟨w.heap.size + 1, 5, none⟩ = some (.int .i64 (M 3)) ∧ w'.cell? ⟨w.heap.size + 1, 6, none⟩ = some (.int .i64 (M 4)) ∧ w'.cell? ⟨w.heap.size + 1, 7, none⟩ = some (.int .i64 (M 5)) ∧ w'.cell? ⟨gr, 0, none⟩ = some (.int .i64 q) ∧ w'.cell? ⟨gr, 1, none⟩ = some (.int .i64 l)) (first | (repeat' apply And.intro) <;> first | with_reducible assumption | assumption) ((first | (go_at_call 65; ((with_reducible refine (HI.out _).mono ?_); rintro e w1 ⟨rfl, hb⟩; have m0 := cell_later hb e0; have m1 := cell_later hb e1; have m2 := cell_later hb e2; have m3 := cell_later hb e3; have m4 := cell_later hb e4; have m5 := cell_later hb e5; have m6 := cell_later hb e6; have m7 := cell_later hb e7; have m8 := cell_later hb e8; have m9 := cell_later hb e9; have HB2 := Lib.hid (below_on (w0 := wr) (w := wr.drew) HB.out hb); clear hb)) | (go_at_call 66; ((with_reducible refine (HA.out _).mono ?_); rintro e w2 ⟨rfl, hb⟩; have q0 := cell_later hb m0; have q1 := cell_later hb m1; have q2 := cell_later hb m2; have q3 := cell_later hb m3; have q4 := cell_later hb m4; have q5 := cell_later hb m5; have q6 := cell_later hb m6; have q7 := cell_later hb m7; have q8 := cell_later hb m8; have q9 := cell_later hb m9; have HB3 := Lib.hid (below_on (w0 := wr) HB2.out hb); clear hb))))
                    all_goals
                      go_wp2_with fail
                      go_meet
                      exact ⟨rfl, HB3.out⟩
                  obtain ⟨rfl, hb⟩ := hcut
                  have L2 := HLr.out.kept hb
                  have ⟨_, n0, n1, n2, nf⟩ := L2.tl.ownBox
                  have HB := Lib.hid L2.below
                  clear L2 hb HLr
                  go_wp2_with fail
                  refine bodyPost_ret (v := .tuple #[.agg #[.int .i64 0, .int .i64 0, .slice none 0 0], .bool false]) (by simp [results, Try.results36, go_sem, n0, n1, n2]) rfl ?_
                  rw [HZ.out]
                  refine ansB_zero _ _ ?_
                  exact ((HB.out.setCell (by simp <;> omega) _).setCell (by simp <;> omega) _).setCell (by simp <;> omega) _
          · have HZ := Lib.hid (fromB_none (r := n) (c := m) (hst (by unfold okC; simp [hx2])))
            have hx3 : ((x.length : Int) == 2) = false := by rw [beq_eq_false_iff_ne]; omega
            generalize x.length = xl at *
            clear hst hnx hrow hbd
            clear L
            go_upto_region 7 with fail
            go_cut [52] (fun t w' => t = .bool true ∧ Below wr.heap.size wr w')
            case first =>
              have hx4 : ((xl : Int) != 2) = true := by rw [bne_iff_ne]; omega
              go_quiet (fail)
              go_wp2_with fail
              go_meet
              exact ⟨rfl, below_drewN (Below.refl _ _) _⟩
            obtain ⟨rfl, hb⟩ := hcut
            have L2 := HLr.out.kept hb
            have ⟨_, n0, n1, n2, nf⟩ := L2.tl.ownBox
            have HB := Lib.hid L2.below
            clear L2 hb HLr
            go_wp2_with fail
            refine bodyPost_ret (v := .tuple #[.agg #[.int .i64 0, .int .i64 0, .slice none 0 0], .bool false]) (by simp [results, Try.results36, go_sem, n0, n1, n2]) rfl ?_
            rw [HZ.out]
            refine ansB_zero _ _ ?_
            exact ((HB.out.setCell (by simp <;> omega) _).setCell (by simp <;> omega) _).setCell (by simp <;> omega) _
        · obtain rfl : k = vs.length := by omega
          have hg := HG.out
          rw [HVL.out, List.take_length] at hg
          have HR := Lib.hid (show fromB n m rss = ⟨n, m, [M 0, M 1, M 2, M 3, M 4, M 5].take n, true⟩ by rw [fromB_some H12.out hg, Int.toNat_natCast])
          have HZ := Lib.hid (show ([M 0, M 1, M 2, M 3, M 4, M 5].take n).length = n by simp; omega)
          have ⟨e0, e1, e2, e3, e4, e5, e6, e7, _⟩ := L.ownHas.eight
          clear L hg
          go_wp2_with fail
          refine (board_any n m (M 0) (M 1) (M 2) (M 3) (M 4) (M 5) _ (by omega)).mono ?_
          rintro e w2 ⟨v, rfl, hO, hb⟩
          have L2 := HLr.out.own hb hO
          obtain ⟨a1, p1, hv, _⟩ := hO.reads
          subst hv
          have ⟨_, n0, n1, n2, nf⟩ := L2.tl.tl.ownBox
          have hfin := L2.fin3 (n := w.heap.size) (x := .int .i64 0) (y := .int .i64 0) (z := .slice none 0 0) (by simp) (.int .i64 n) (.int .i64 m) (.slice a1 ([M 0, M 1, M 2, M 3, M 4, M 5].take n).length p1)
          have HF := Lib.hid hfin
          rw [HZ.out] at HF ⊢
          clear L2 hO hb hfin e0 e1 e2 e3 e4 e5 e6 e7 HLr
          go_wp2_with fail
          refine bodyPost_ret (v := .tuple #[.agg #[.int .i64 n, .int .i64 m, .slice a1 n p1], .bool true]) (by simp [results, Try.results36, go_sem, n0, n1, n2]) rfl ?_
          rw [HR.out]
          exact ⟨_, rfl, HF.out.1, HF.out.2⟩

end Go.Proofs.Ytncbdmeagfadfaa
