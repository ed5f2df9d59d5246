import Derived.Test.YtdimbnkgomfojaaFold29
import Derived.Test.YtdimbnkgomfojaaFold28

section
namespace Go.Proofs.Ytdimbnkgomfojaa
open Go.RowKit

theorem hasP_on (P : List Int) (c q : Nat) : hasI (P ++ [(c : Int)]) (q : Int) = (hasI P (q : Int) || decide (c = q)) := by
  rw [hasI_snoc]
  congr 1
  rw [Bool.eq_iff_iff, beq_iff_eq, decide_eq_true_eq]
  omega
/-- All orders of n numbers that go on a list by d of them. -/
def prm (n : Nat) : Nat → List Int → List (List Int)
  | 0, P => [P]
  | d + 1, P => (List.range n).flatMap (fun (x : Nat) => if hasI P (x : Int) then [] else prm n d (P ++ [(x : Int)]))
/-- .. with the first x numbers next. -/
def prmC (n d : Nat) (P : List Int) (x : Nat) : List (List Int) := (List.range x).flatMap (fun (x : Nat) => if hasI P (x : Int) then [] else prm n d (P ++ [(x : Int)]))
theorem prmC_zero (n d : Nat) (P : List Int) : prmC n d P 0 = [] := rfl
theorem prmC_last (n d : Nat) (P : List Int) : prmC n d P n = prm n (d + 1) P := rfl
theorem prmC_skip (n d : Nat) (P : List Int) (x : Nat) (h : hasI P (x : Int) = true) : prmC n d P (x + 1) = prmC n d P x := by
  unfold prmC
  rw [List.range_succ, List.flatMap_append]
  simp [h]
theorem prmC_next (n d : Nat) (P : List Int) (x : Nat) (h : hasI P (x : Int) = false) : prmC n d P (x + 1) = prmC n d P x ++ prm n d (P ++ [(x : Int)]) := by
  unfold prmC
  rw [List.range_succ, List.flatMap_append]
  simp [h]
theorem prm_len (n d : Nat) : ∀ P, (prm n d P).length ≤ n ^ d := by
  induction d with
  | zero => intro P; simp [prm]
  | succ d ih =>
    intro P
    have h : ∀ x, (prmC n d P x).length ≤ x * n ^ d := by
      intro x
      induction x with
      | zero => simp [prmC_zero]
      | succ x ih2 =>
        rw [Nat.succ_mul]
        cases hx : hasI P (x : Int)
        · rw [prmC_next _ _ _ _ hx, List.length_append]
          have := ih (P ++ [(x : Int)])
          omega
        · rw [prmC_skip _ _ _ _ hx]
          omega
    rw [← prmC_last, Nat.pow_succ, Nat.mul_comm]
    exact h n
theorem prmC_len (n d : Nat) (P : List Int) (x : Nat) : (prmC n d P x).length ≤ x * n ^ d := by
  induction x with
  | zero => simp [prmC_zero]
  | succ x ih2 =>
    rw [Nat.succ_mul]
    cases hx : hasI P (x : Int)
    · rw [prmC_next _ _ _ _ hx, List.length_append]
      have := prm_len n d (P ++ [(x : Int)])
      omega
    · rw [prmC_skip _ _ _ _ hx]
      omega
theorem prm_rows (n d : Nat) : ∀ P, ∀ Q ∈ prm n d P, Q.length = P.length + d := by
  induction d with
  | zero => intro P Q h; rw [prm, List.mem_singleton] at h; rw [h]; rfl
  | succ d ih =>
    intro P Q h
    rw [prm, List.mem_flatMap] at h
    obtain ⟨x, _, h⟩ := h
    split at h
    · cases h
    · have := ih _ _ h
      rw [List.length_append, List.length_singleton] at this
      omega
/-- How many of the first r rows a list hits. -/
def hitN (B : Nat → Nat → Bool) (Q : List Int) : Nat → Nat
  | 0 => 0
  | r + 1 => hitN B Q r + if B r (Q.getD r 0).toNat = true then 1 else 0
theorem hitN_le (B : Nat → Nat → Bool) (Q : List Int) (r : Nat) : hitN B Q r ≤ r := by
  induction r with
  | zero => exact Nat.le_refl _
  | succ r ih => rw [hitN]; split <;> omega
theorem hitN_congr (B : Nat → Nat → Bool) (P Q : List Int) (r : Nat) (h : ∀ k, k < r → P.getD k 0 = Q.getD k 0) : hitN B P r = hitN B Q r := by
  induction r with
  | zero => rfl
  | succ r ih => rw [hitN, hitN, ih (fun k hk => h k (by omega)), h r (by omega)]
theorem hitN_snoc (B : Nat → Nat → Bool) (P : List Int) (x : Nat) : hitN B (P ++ [(x : Int)]) (P.length + 1) = hitN B P P.length + if B P.length x = true then 1 else 0 := by
  have e : (P ++ [(x : Int)]).getD P.length 0 = x := by simp [List.getD]
  rw [hitN, e, Int.toNat_natCast]
  congr 1
  refine hitN_congr B _ _ _ (fun k hk => ?_)
  simp [List.getD, List.getElem?_append_left hk]
/-- How many lists hit just k rows. -/
def htcL (B : Nat → Nat → Bool) (n : Nat) (k : Nat) : List (List Int) → Nat
  | [] => 0
  | Q :: L => (if hitN B Q n = k then 1 else 0) + htcL B n k L
theorem htcL_app (B : Nat → Nat → Bool) (n k : Nat) (L M : List (List Int)) : htcL B n k (L ++ M) = htcL B n k L + htcL B n k M := by
  induction L with
  | nil => simp [htcL]
  | cons Q L ih => rw [List.cons_append, htcL, htcL, ih]; omega
theorem htcL_le (B : Nat → Nat → Bool) (n k : Nat) (L : List (List Int)) : htcL B n k L ≤ L.length := by
  induction L with
  | nil => exact Nat.le_refl _
  | cons Q L ih => rw [htcL, List.length_cons]; split <;> omega
theorem htcL_filter (B : Nat → Nat → Bool) (n k : Nat) (L : List (List Int)) : (L.filter (fun Q => hitN B Q n == k)).length = htcL B n k L := by
  induction L with
  | nil => rfl
  | cons Q L ih =>
    rw [List.filter_cons, htcL]
    by_cases h : hitN B Q n = k
    · rw [if_pos (by simpa using h), List.length_cons, ih, if_pos h]; omega
    · rw [if_neg (by simpa using h), ih, if_neg h]; omega
theorem htcL_prm (n : Nat) (B : Nat → Nat → Bool) (d : Nat) : ∀ (f t : Nat) (P : List Int), P.length = f → f + d = n → (∀ c, c < n → t.testBit c = hasI P (c : Int)) → ∀ k, htcL B n k (prm n d P) = if k < hitN B P f then 0 else pH n B d f t (k - hitN B P f) := by
  induction d with
  | zero =>
    intro f t P hP hf ht k
    obtain rfl : f = n := by omega
    rw [prm, pH]
    simp only [htcL]
    by_cases h1 : k < hitN B P f
    · rw [if_pos h1, if_neg (by omega)]
    · rw [if_neg h1]
      by_cases h2 : k - hitN B P f = 0
      · rw [if_pos h2, if_pos (by omega)]
      · rw [if_neg h2, if_neg (by omega)]
  | succ d ih =>
    intro f t P hP hf ht k
    have hx : ∀ x, x < n → htcL B n k (if hasI P (x : Int) then [] else prm n d (P ++ [(x : Int)])) = if k < hitN B P f then 0 else (if t.testBit x = false then (if B f x = true then (if k - hitN B P f = 0 then 0 else pH n B d (f + 1) (t ||| 2 ^ x) (k - hitN B P f - 1)) else pH n B d (f + 1) (t ||| 2 ^ x) (k - hitN B P f)) else 0) := by
      intro x hx
      rw [← ht x hx]
      cases hb : t.testBit x
      · simp only [Bool.false_eq_true, if_false, if_true]
        rw [ih (f + 1) (t ||| 2 ^ x) (P ++ [(x : Int)]) (by simp [hP]) (by omega) (fun c hc => by rw [hasP_on, bit_both, ht c hc]) k, ← hP, hitN_snoc]
        cases hB : B P.length x
        · simp
        · simp only [if_true]
          by_cases h1 : k < hitN B P P.length
          · rw [if_pos h1, if_pos (by omega)]
          · rw [if_neg h1]
            by_cases h2 : k - hitN B P P.length = 0
            · rw [if_pos h2, if_pos (by omega)]
            · rw [if_neg h2, if_neg (by omega), Nat.sub_add_eq]
      · simp [htcL]
    have hs : ∀ x, x ≤ n → htcL B n k (prmC n d P x) = sumN (fun x => htcL B n k (if hasI P (x : Int) then [] else prm n d (P ++ [(x : Int)]))) x := by
      intro x
      induction x with
      | zero => intro _; rfl
      | succ x ih2 =>
        intro h
        rw [sumN, ← ih2 (by omega)]
        cases hh : hasI P (x : Int)
        · rw [prmC_next _ _ _ _ hh, htcL_app]; simp
        · rw [prmC_skip _ _ _ _ hh]; simp [htcL]
    rw [← prmC_last, hs n (Nat.le_refl _), sumN_congr _ _ n hx, pH]
    by_cases h1 : k < hitN B P f
    · simp only [if_pos h1]; exact sumN_zero n
    · simp only [if_neg h1]
/-- All orders, counted by hits. -/
theorem htcL_all (n : Nat) (B : Nat → Nat → Bool) (k : Nat) : htcL B n k (prm n n []) = pH n B n 0 0 k := by
  rw [htcL_prm n B n 0 0 [] rfl (by omega) (fun c _ => by simp [hasI_nil]) k]
  simp [hitN]

end Go.Proofs.Ytdimbnkgomfojaa
end

section
namespace Go.Proofs.Ytdimbnkgomfojaa
open Go.RowKit Go.WideShapes

/-- append of one row, at a step of a region that draws its order. -/
theorem step_appM {ops : Array Oper} {o : Oper} {a : Act} {w : World} {K : Act → World → Prop} {Q : Exit → Act → World → Prop} {E : Prop} (hgd : o.guard = none) (s x : Operand)
    (ho : o.op = .call { callee := .builtin .append, args := #[s, x], argTypes := #[26, 26] }) (v : Value) (n : Nat) (vs : List Value) (u : Value) (g0 : Nat)
    (hs : a.eval s = v) (hown : w.ownsRow 0 22 1 v n vs) (hx : a.eval x = .slice (some ⟨g0, 0, none⟩) 1 1) (hnew : w.cell? ⟨g0, 0, none⟩ = some u) (hu : u.oneCell' = true) (hl : n + 1 ≤ 1048576)
    (h : ∀ g cap w', w'.ownsRow 0 22 1 (.slice (some ⟨g, 0, none⟩) (n + 1) cap) (n + 1) (vs ++ [u]) → w.grownBy w' v.ownBlock → (v.ownBlock = some g ∨ g = w.heap.size) → g < w'.heap.size → K (a.put o.dst (.slice (some ⟨g, 0, none⟩) (n + 1) cap)) w') :
    if Region.wanted o (yielded ops a.tmps) = true then Oper.wp Try.prog o a w K Q else E := by
  obtain ⟨i0, hi, hz0, hz1, hz2⟩ := info_parts Try.infoL
  refine step_append_lies w hgd s x 26 ho 0 22 i0 (.slice none 0 0) 1 24 Try.underlying26 hi hz0 hz1 hz2 rfl (by decide) v n vs hs hown ⟨g0, 0, none⟩ 1 1 [u] hx rfl ?_ (by intro y hy; simp at hy; subst hy; exact hu) (by decide) (by unfold maxLen; omega) (by omega) (Nat.zero_le _) _ rfl ?_
  · intro j y hy
    match j, hy with
    | 0, hy =>
      simp at hy
      subst hy
      rw [Addr.add_lit]
      exact hnew
  · intro g cap w' h1 h2 h3 h4
    exact h g cap w' h1 h2 h3 h4

/-- A block that append has not turned. -/
theorem Has.grownO {w w' : World} {r : Option Nat} {b : Nat} {cs : List Value} {t : TypeId} (h : Has w b cs t) (hg : w.grownBy w' r) (hb : r ≠ some b) : Has w' b cs t :=
  (hg.block b h.lt (fun e => hb e.symm)).trans h

/-- What the visitor of PermutationsHitting keeps behind c lists. -/
structure Pgh (bl bgr n m : Nat) (M : Nat → Int) (HL : List (List Int)) (bp c : Nat) (w : World) : Prop where
  lt : bp + 1 < w.heap.size
  rows : ∃ v vs, OwnM w 0 v vs (HL.take c) ∧ (vs = [] → v = .slice none 0 0) ∧ (∀ k, v.ownBlock = some k → bp + 1 < k) ∧ (∀ u ∈ vs, ∀ k, u.ownBlock = some k → bp + 1 < k) ∧ Has w bl [v] 26
  grid : Has w bgr (gl n m M) 59
theorem Pgh.stay {bl bgr n m : Nat} {M : Nat → Int} {HL : List (List Int)} {bp c : Nat} {w w' : World} (h : Pgh bl bgr n m M HL bp c w) (_h1 : bl ≤ bp) (_h2 : bgr ≤ bp) (d1 : bl ≠ bp) (d2 : bgr ≠ bp) (hc : Chg (fun b => b = bp) w w') : Pgh bl bgr n m M HL bp c w' := by
  obtain ⟨v, vs, hM, hn, hv, hk, hb⟩ := h.rows
  refine ⟨Nat.lt_of_lt_of_le h.lt hc.size, ⟨v, vs, hM.stay (row := some bp) ⟨hc.os, hc.tape, hc.output, hc.size, fun k hk hn => hc.block k hk (fun e => hn (by rw [e]))⟩ ?_ (fun u hu => ?_), hn, hv, hk, Chg.has hc d1 hb⟩, Chg.has hc d2 h.grid⟩
  · cases e : v.ownBlock with
    | none => exact .inl rfl
    | some k => exact .inr (by have := hv k e; simp; omega)
  · cases e : u.ownBlock with
    | none => exact .inl rfl
    | some k => exact .inr (by have := hk u hu k e; simp; omega)

theorem pgh_next (bl bgr n m : Nat) (M : Nat → Int) (HL : List (List Int)) (bp c : Nat) (v : Value) (vs : List Value) (ga g cap : Nat) (w w5 wA w3 : World) (F : Nat → Int) (P : List Int)
    (h1 : bl ≤ bp) (_h2 : bgr ≤ bp) (d3 : bl ≠ bgr) (hbw : bp + 1 < w.heap.size) (hb : Below w.heap.size w w5) (hlt : w.heap.size < w5.heap.size) (hM : OwnM (w5.drewN 1) 0 v vs (HL.take c)) (hvl : vs.length = c)
    (hvb : ∀ k, v.ownBlock = some k → bp + 1 < k) (hvk : ∀ u ∈ vs, ∀ k, u.ownBlock = some k → bp + 1 < k)
    (ht : HL.take c ++ [P] = HL.take (c + 1)) (hP : lstI n F = P) (hA : Below w5.drew.heap.size w5.drew wA) (hOA : Own wA w5.drew.heap.size (.slice (some ⟨ga, 0, none⟩) n n) (lstI n F))
    (hO3 : w3.ownsRow 0 22 1 (.slice (some ⟨g, 0, none⟩) (c + 1) cap) (c + 1) (vs ++ [.slice (some ⟨ga, 0, none⟩) n n])) (hg3 : (wA.alloc (.cells #[.slice (some ⟨ga, 0, none⟩) n n] 22)).grownBy w3 v.ownBlock) (hg : v.ownBlock = some g ∨ g = (wA.alloc (.cells #[.slice (some ⟨ga, 0, none⟩) n n] 22)).heap.size) (hgl : g < w3.heap.size)
    (hB3 : Has w3 bl [v] 26) (hG3 : Has w3 bgr (gl n m M) 59) :
    Pgh bl bgr n m M HL bp (c + 1) (w3.setCell ⟨bl, 0, none⟩ (.slice (some ⟨g, 0, none⟩) (c + 1) cap)) ∧ Chg (fun b => b = bl ∨ bp + 1 < b) w (w3.setCell ⟨bl, 0, none⟩ (.slice (some ⟨g, 0, none⟩) (c + 1) cap)) := by
  have s1 := hA.size
  have s2 := hg3.size
  have s0 : (wA.alloc (.cells #[.slice (some ⟨ga, 0, none⟩) n n] 22)).heap.size = wA.heap.size + 1 := by simp
  rw [s0] at s2 hg
  have s3 : w5.drew.heap.size = w5.heap.size := rfl
  have hgaB := own_lt hOA ga rfl
  have hl2 : (vs ++ [Value.slice (some ⟨ga, 0, none⟩) n n]).length = c + 1 := by simp [hvl]
  have hgb : bp + 1 < g := by
    rcases hg with h | h
    · exact hvb g h
    · omega
  have L1 : Law { w5.drew with heap := #[] } [tM v vs (HL.take c)] w5.drew := Law.ofM (w := w5.drew) hM
  have L2 := (L1.own hA hOA).kept (below_new (w := wA) (.cells #[.slice (some ⟨ga, 0, none⟩) n n] 22))
  have L3 := L2.pushM (v' := .slice (some ⟨g, 0, none⟩) (c + 1) cap) hg3 (by rw [hl2]; exact hO3) (fun k hk => by
    have e : g = k := by simpa [Value.ownBlock] using hk
    subst e
    exact ⟨hg.imp id (fun h => by rw [s0]; exact h), hgl⟩)
  rw [hP, ht] at L3
  have hM3 := L3.ownM
  have hs : (w3.setCell ⟨bl, 0, none⟩ (.slice (some ⟨g, 0, none⟩) (c + 1) cap)).heap.size = w3.heap.size := by simp [World.setCell]
  have hk2 : ∀ u ∈ vs ++ [Value.slice (some ⟨ga, 0, none⟩) n n], ∀ k, u.ownBlock = some k → bp + 1 < k := fun u hu k hk => by
    rcases List.mem_append.1 hu with hu | hu
    · exact hvk u hu k hk
    · simp at hu
      subst hu
      have e : ga = k := by simpa [Value.ownBlock] using hk
      omega
  have hgr : w3.grownBy (w3.setCell ⟨bl, 0, none⟩ (.slice (some ⟨g, 0, none⟩) (c + 1) cap)) (some bl) := ⟨rfl, rfl, rfl, by omega, fun k _ hn => Below.heap_setCell w3 ⟨bl, 0, none⟩ _ k (fun e => hn (by rw [e]))⟩
  refine ⟨⟨by omega, ⟨_, _, hM3.stay hgr (.inr (by simp [Value.ownBlock]; omega)) (fun u hu => ?_), fun h => by simp at h, fun k hk => ?_, hk2, ?_⟩, hG3.setOff bl 0 _ (fun e => d3 e.symm)⟩, ?_⟩
  · cases e : u.ownBlock with
    | none => exact .inl rfl
    | some k => exact .inr (by have := hk2 u hu k e; simp; omega)
  · have e : g = k := by simpa [Value.ownBlock] using hk
    omega
  · have := hB3.set 0 (.slice (some ⟨g, 0, none⟩) (c + 1) cap)
    simpa using this
  · have c1 : Chg (fun b => b = bl ∨ bp + 1 < b) w wA := (Chg.of_below hb).trans ((Chg.of_below (show Below w5.heap.size w5 w5.drew from (Below.refl _ _).drew)).trans (Chg.of_below hA))
    exact (c1.trans (Chg.of_below (below_new _))).trans ((Chg.of_grown hg3 (fun k e => .inr (hvb k e))).trans (Chg.of_set w3 bl 0 _ (.inl rfl)))

set_option maxRecDepth 100000 in
set_option maxHeartbeats 3200000 in
theorem pg1_any (bl bgr n m : Nat) (M : Nat → Int) (HL : List (List Int)) (bp c : Nat) (P : List Int) (w : World) (hn6 : n ≤ 6) (h1 : bl ≤ bp) (h2 : bgr ≤ bp) (d3 : bl ≠ bgr)
    (hj : HL[c]? = some P) (hP : lstI n (plF P n) = P) (hcnt : HL.length ≤ 1000000) (H : Pgh bl bgr n m M HL bp c w) :
    Calls Try.prog 91 (#[pv6 (plF P n)] ++ #[.pointer (some ⟨bl, 0, none⟩), .pointer (some ⟨bgr, 0, none⟩)]) w fun e w' => e = .returned (.bool true) ∧ Pgh bl bgr n m M HL bp (c + 1) w' ∧ Chg (fun b => b = bl ∨ bp + 1 < b) w w' := by
  have hjl : c < HL.length := (List.getElem?_eq_some_iff.1 hj).1
  have htk : HL.take c ++ [P] = HL.take (c + 1) := by
    rw [List.take_succ_eq_append_getElem hjl]
    rw [(List.getElem?_eq_some_iff.1 hj).2]
  obtain ⟨v, vs, hM, hno, hvb, hvk, hbx⟩ := H.rows
  have hvl : vs.length = c := by rw [← hM.len, List.length_take]; omega
  obtain ⟨F, hF⟩ : ∃ F, F = plF P n := ⟨_, rfl⟩
  rw [← hF] at hP ⊢
  have hb := below_new (w := w) (.cells #[.int .i64 (F 0), .int .i64 (F 1), .int .i64 (F 2), .int .i64 (F 3), .int .i64 (F 4), .int .i64 (F 5)] 70)
  have hnP : Has (w.alloc (.cells #[.int .i64 (F 0), .int .i64 (F 1), .int .i64 (F 2), .int .i64 (F 3), .int .i64 (F 4), .int .i64 (F 5)] 70)) w.heap.size (pl6 F) 70 := Has.new w (pl6 F) 70
  have B0 := hbx.kept hb hbx.lt
  have G0 := H.grid.kept hb H.grid.lt
  have M0 := hM.stayB hb
  have HB := Lib.hid hb
  have hbw := H.lt
  have hvne : v.ownBlock ≠ some bl := fun e => by have := hvb bl e; omega
  have hvng : v.ownBlock ≠ some bgr := fun e => by have := hvb bgr e; omega
  have HNB := Lib.hid hvne
  have HNG := Lib.hid hvng
  obtain ⟨oa, on, ocap, hvf⟩ : ∃ oa on ocap, v = .slice oa on ocap := by
    obtain ⟨oa, ocap, e⟩ := hM.formR
    exact ⟨oa, _, ocap, e⟩
  subst hvf
  clear H hM hj hbx hno hvne hvng
  have HV := Lib.hid hvk
  have HVB := Lib.hid hvb
  have HVL := Lib.hid hvl
  have HT := Lib.hid htk
  have HPP := Lib.hid hP
  have HCN := Lib.hid (show c + 1 ≤ 1048576 by omega)
  clear hvk hvl htk hP hb hF hvb hjl hcnt
  go_enter Try.func91, Try.ntmps91
  go_upto_region 1 with fail
  generalize w.alloc (.cells #[.int .i64 (F 0), .int .i64 (F 1), .int .i64 (F 2), .int .i64 (F 3), .int .i64 (F 4), .int .i64 (F 5)] 70) = w5 at *
  have HM0 := Lib.hid (M0.stayB (below_drewN (Below.refl w5.heap.size w5) 1))
  have HBX := Lib.hid (show Has w5.drew bl [.slice oa on ocap] 26 from B0)
  have HGR := Lib.hid (show Has w5.drew bgr (gl n m M) 59 from G0)
  have HPB := Lib.hid (show Has w5.drew w.heap.size (pl6 F) 70 from hnP)
  have x0 := HBX.out.one.1
  have ⟨x1, _⟩ := HGR.out.eight
  obtain ⟨p0, p1, p2, p3, p4, p5, _⟩ := HPB.out.six
  clear M0 B0 G0 hnP
  have hltw : w.heap.size < w5.heap.size := HPB.out.lt
  go_region_law (first
    | (go_simp; go_at_call 62; ((with_reducible refine (list_any F n _ hn6).mono ?_); rintro e wA ⟨ga, rfl, OA, hbA⟩; have z0 := cell_later hbA x0; have y0 := cell_later (below_new (w := wA) (.cells #[.slice (some ⟨ga, 0, none⟩) n n] 22)) z0; have HOA := Lib.hid OA; have HBA := Lib.hid hbA; clear OA hbA))
    | (refine step_appM rfl (.tmp 5) (.tmp 10) rfl (.slice oa on ocap) c vs (.slice (some ⟨ga, 0, none⟩) n n) wA.heap.size (by simp [Act.eval]) (by have h9 := ((HM0.out.stayB HBA.out).stayB (below_new (w := wA) (.cells #[.slice (some ⟨ga, 0, none⟩) n n] 22))).outer; rw [HVL.out] at h9; exact h9) (by simp [Act.eval]) (by rw [World.cell?_alloc_at _ _ _ _ rfl]; rfl) rfl HCN.out ?_; intro g cap w3 hown3 hg3 hgg hgl; have hB3 := ((HBX.out.kept HBA.out HBX.out.lt).kept (below_new (w := wA) (.cells #[.slice (some ⟨ga, 0, none⟩) n n] 22)) (HBX.out.kept HBA.out HBX.out.lt).lt).grownO hg3 HNB.out; have hG3 := ((HGR.out.kept HBA.out HGR.out.lt).kept (below_new (w := wA) (.cells #[.slice (some ⟨ga, 0, none⟩) n n] 22)) (HGR.out.kept HBA.out HGR.out.lt).lt).grownO hg3 HNG.out; obtain ⟨r8, r9⟩ := hB3.one; have HB3 := Lib.hid hB3; have HG4 := Lib.hid hG3; clear hB3 hG3; have HO3 := Lib.hid hown3; have HG3 := Lib.hid hg3; have HGG := Lib.hid (And.intro hgg hgl); clear hown3 hg3 hgg hgl)
    | fail)
  all_goals
    have HE := Lib.hid (pgh_next bl bgr n m M HL bp c _ vs ga g cap w w5 wA w3 F P h1 h2 d3 hbw HB.out hltw HM0.out HVL.out HVB.out HV.out HT.out HPP.out HBA.out HOA.out HO3.out HG3.out HGG.out.1 HGG.out.2 HB3.out HG4.out)
    clear HM0 HBX HGR HPB HOA HBA HO3 HG3 HGG HB3 HG4 HB
    go_wp2_with fail
    go_ret
    exact ⟨rfl, HE.out.1, HE.out.2⟩
end Go.Proofs.Ytdimbnkgomfojaa
end
