/- Slices of lists of the call's own; all lists that go on, in the program. No condition but the sizes. -/
import Derived.Test.YtmhlpaenfknofaaUf
import Derived.Test.YtmhlpaenfknofaaGp
import Derived.Laws.OwnMore
namespace Go.Proofs.Ytmhlpaenfknofaa
open Go.RowKit Go.WideShapes

theorem Try.infoQ : (Try.prog.info? 46).map (fun i => (i.zero, i.size, i.bytes)) = some (some (.agg #[.int .i64 0, .int .i64 0, .int .i64 0, .int .i64 0, .int .i64 0, .int .i64 0, .int .i64 0, .int .i64 0, .int .i64 0]), 9, 72) := by kernel_rfl
/-- The cells of lists, one behind the other. -/
def quC (LL : List (List Int)) : List Value := LL.flatMap fun q => ql q.length (cF q)
theorem quC_cons (q : List Int) (LL : List (List Int)) : quC (q :: LL) = ql q.length (cF q) ++ quC LL := by simp [quC]
theorem quC_append (A B : List (List Int)) : quC (A ++ B) = quC A ++ quC B := by simp [quC, List.flatMap_append]
theorem ql_len (c : Int) (F : Nat → Int) : (ql c F).length = 9 := rfl
theorem quC_len (LL : List (List Int)) : (quC LL).length = LL.length * 9 := by
  induction LL with
  | nil => rfl
  | cons q t ih => rw [quC_cons, List.length_append, ih, List.length_cons, ql_len]; omega
theorem quC_get (LL : List (List Int)) (k j : Nat) (hk : k < LL.length) (hj : j < 9) : (quC LL)[k * 9 + j]? = (ql (LL[k]).length (cF LL[k]))[j]? := by
  induction LL generalizing k with
  | nil => simp at hk
  | cons q t ih =>
    rw [quC_cons]
    cases k with
    | zero =>
      rw [Nat.zero_mul, Nat.zero_add, List.getElem?_append_left (by rw [ql_len]; exact hj)]
      rfl
    | succ k =>
      rw [List.getElem?_append_right (by rw [ql_len]; omega), show (k + 1) * 9 + j - (ql q.length (cF q)).length = k * 9 + j by rw [ql_len]; omega, ih k (by simpa using hk)]
      rfl
def OwnQ (w : World) (lo : Nat) (v : Value) (LL : List (List Int)) : Prop := w.ownsRow lo 46 9 v LL.length (quC LL)
def tQu (v : Value) (LL : List (List Int)) : Thing :=
  ⟨fun k => v.ownBlock = some k, fun w => OwnQ w 0 v LL, fun _ _ _ hk h => by
    refine ⟨h.1, ?_⟩
    rcases h.2 with h2 | ⟨g, cap, cur, hv, hg, hh, r⟩
    · exact .inl h2
    · exact .inr ⟨g, cap, cur, hv, hg, by rw [hk g (by rw [hv]; rfl)]; exact hh, r⟩⟩
theorem OwnQ.nil (w : World) (lo : Nat) : OwnQ w lo (.slice none 0 0) [] := World.ownsRow_nil _ _ _ _
theorem OwnQ.form {w : World} {lo : Nat} {v : Value} {LL : List (List Int)} (h : OwnQ w lo v LL) : ∃ a cap, v = .slice a LL.length cap := by
  rcases h.2 with ⟨rfl, h2⟩ | ⟨g, cap, cur, rfl, _⟩
  · refine ⟨none, 0, ?_⟩
    rw [h2]
  · exact ⟨_, _, rfl⟩
/-- The cells of one element. -/
theorem OwnQ.nine {w : World} {lo : Nat} {a : Option Addr} {cap : Nat} {LL : List (List Int)} (h : OwnQ w lo (.slice a LL.length cap) LL) (k : Nat) (hk : k < LL.length) :
    ∃ g, a = some ⟨g, 0, none⟩ ∧ ∀ j v, (ql (LL[k]).length (cF LL[k]))[j]? = some v → w.cell? ⟨g, k * 9 + j, none⟩ = some v := by
  have h0 := h
  rcases h.2 with ⟨e, _⟩ | ⟨g, cp, cur, e, _⟩
  · injection e with _ e2 _
    omega
  · injection e with e1 _ _
    subst e1
    refine ⟨g, rfl, fun j v hv => ?_⟩
    have hj : j < 9 := by
      have := (List.getElem?_eq_some_iff.1 hv).1
      rw [ql_len] at this
      exact this
    have hc := World.ownsRow.cellAt h0 (k * 9 + j) (by omega)
    rw [hc, quC_get LL k j hk hj]
    exact hv
theorem Law.ownQ {w0 w : World} {v : Value} {LL : List (List Int)} {ts : List Thing} (h : Law w0 (tQu v LL :: ts) w) : OwnQ w 0 v LL := h.hd
theorem Law.addQ {w0 w w' : World} {ts : List Thing} (h : Law w0 ts w) (hb : Below w.heap.size w w') {v : Value} {LL : List (List Int)} (hs : OwnQ w' w.heap.size v LL) : Law w0 (tQu v LL :: ts) w' :=
  h.add hb (tQu v LL) (by
    refine ⟨hs.1, ?_⟩
    rcases hs.2 with h | ⟨g, cap, cur, e, hb, r⟩
    · exact .inl h
    · exact .inr ⟨g, cap, cur, e, Nat.zero_le _, r⟩) (fun k hk => World.ownsRow.lt hs k hk)
theorem ownQ_lo {w0 w : World} {v : Value} {LL : List (List Int)} {ts : List Thing} (h : Law w0 (tQu v LL :: ts) w) : OwnQ w w0.heap.size v LL := by
  have hO := h.ownQ
  have hr := h.range _ (List.mem_cons_self ..)
  refine ⟨hO.1, ?_⟩
  rcases hO.2 with h1 | ⟨g, cap, cur, e, hb, r⟩
  · exact .inl h1
  · exact .inr ⟨g, cap, cur, e, (hr g (show v.ownBlock = some g by rw [e]; rfl)).1, r⟩
/-- append of one list. -/
theorem wp_appendQ {w0 w : World} {ops : Array Oper} {rest : List Oper} {o : Oper} {a : Act} {Q : Exit → Act → World → Prop} (hgd : o.guard = none) (s x : Operand)
    (ho : o.op = .call { callee := .builtin .append, args := #[s, x], argTypes := #[54, 54] }) {ts : List Thing} {v : Value} {LL : List (List Int)} (P : List Int)
    (L : Law w0 (tQu v LL :: ts) w) (g0 : Nat) (hs : a.eval s = v) (hx : a.eval x = .slice (some ⟨g0, 0, none⟩) 1 1) (hnew : Has w g0 (ql P.length (cF P)) 46) (hl : LL.length + 1 ≤ 1048576)
    (h : ∀ v' w', Law w0 (tQu v' (LL ++ [P]) :: ts) w' → wpList Try.prog ops Q rest (a.put o.dst v') w') : wpList Try.prog ops Q (o :: rest) a w := by
  obtain ⟨i0, hi, hz0, hz1, hz2⟩ := info_parts Try.infoQ
  refine wpList_append_lies w hgd s x 54 ho 0 46 i0 _ 9 72 Try.underlying54 hi hz0 hz1 hz2 rfl (by decide) v LL.length (quC LL) hs L.ownQ ⟨g0, 0, none⟩ 1 1 (ql P.length (cF P)) hx rfl ?_ ?_ (by decide) (by unfold maxLen; omega) (by omega) (Nat.zero_le _) _ rfl ?_
  · intro j y hy
    rw [Addr.add_lit, Nat.zero_add, hnew.cell j]
    exact hy
  · intro u hu
    simp only [ql, List.mem_cons, List.not_mem_nil, or_false] at hu
    rcases hu with rfl | rfl | rfl | rfl | rfl | rfl | rfl | rfl | rfl <;> rfl
  · intro g cap w' h1 h2 h3 h4
    refine h _ w' ?_
    exact Law.write' (ts := []) L (Chg.of_grown h2 (fun _ e => e)) (tQu _ (LL ++ [P])) (fun k hk => by
      have e : g = k := by simpa [tQu, Value.ownBlock] using hk
      subst e
      rcases h3 with h3 | h3
      · exact .inl h3
      · exact .inr ⟨by omega, h4⟩) (by
      show w'.ownsRow 0 46 9 _ (LL ++ [P]).length (quC (LL ++ [P]))
      rw [quC_append, List.length_append]
      have e : quC [P] = ql P.length (cF P) := by simp [quC]
      rw [e]
      exact h1)
theorem own_oneQ (w : World) (q : List Int) : OwnQ (w.alloc (.cells #[.int .i64 q.length, .int .i64 (cF q 0), .int .i64 (cF q 1), .int .i64 (cF q 2), .int .i64 (cF q 3), .int .i64 (cF q 4), .int .i64 (cF q 5), .int .i64 (cF q 6), .int .i64 (cF q 7)] 46)) w.heap.size (.slice (some ⟨w.heap.size, 0, none⟩) 1 1) [q] := by
  have h : (w.alloc (.cells #[.int .i64 q.length, .int .i64 (cF q 0), .int .i64 (cF q 1), .int .i64 (cF q 2), .int .i64 (cF q 3), .int .i64 (cF q 4), .int .i64 (cF q 5), .int .i64 (cF q 6), .int .i64 (cF q 7)] 46)).ownsRow w.heap.size 46 9 (.slice (some ⟨w.heap.size, 0, none⟩) 1 1) 1 (ql q.length (cF q)) := World.ownsRow_lit w #[.int .i64 q.length, .int .i64 (cF q 0), .int .i64 (cF q 1), .int .i64 (cF q 2), .int .i64 (cF q 3), .int .i64 (cF q 4), .int .i64 (cF q 5), .int .i64 (cF q 6), .int .i64 (cF q 7)] 1 (Nat.le_refl _) (by unfold maxLen; omega) rfl
  unfold OwnQ
  rw [show quC [q] = ql q.length (cF q) by simp [quC]]
  exact h

/-- All lists that begin so. -/
def goL (D : Int → Int → Bool) (n : Nat) (q : List Int) : List (List Int) := if meets (attP D q) q.length q.length = [] then quA D n (n - q.length) q else []
theorem itr_len (D : Int → Int → Bool) (n : Nat) (q : List Int) (k : Nat) (hn : n ≤ 8) (hk : k ≤ n - q.length) (h1 : ∀ x ∈ q, 0 ≤ x ∧ x < (n : Int)) (h2 : q.Nodup) : (itrQ D n k [q]).length ≤ 40320 := by
  rw [itr_one]
  exact quA_big D n k q hn (by omega) h1 h2
set_option maxRecDepth 100000 in
set_option maxHeartbeats 12800000 in
theorem goingOn_any (n : Nat) (q : List Int) (M : FuncId) (cap : Array Value) (I : World → Prop) (D : Int → Int → Bool) (hM : MoveV M cap I D) (w : World) (hI : I w) (hn : n ≤ 8) (hqn : q.length ≤ n) (h1 : ∀ x ∈ q, 0 ≤ x ∧ x < (n : Int)) (h2 : q.Nodup) :
    Calls Try.prog 61 #[qv q.length (cF q), .int .i64 n, .func (.func M) #[] cap] w fun e w' => ∃ v, e = .returned v ∧ OwnQ w' w.heap.size v (goL D n q) ∧ Below w.heap.size w w' := by
  have hFb : ∀ k, k < 8 → 0 ≤ cF q k ∧ cF q k < 8 := by
    intro k _
    by_cases hk : k < q.length
    · have := h1 _ (getD_mem' hk)
      unfold cF
      omega
    · have : cF q k = 0 := by unfold cF; rw [List.getD_eq_getElem?_getD, List.getElem?_eq_none (by omega)]; rfl
      omega
  have L0 := (Law.start w).has (ql q.length (cF q)) 46
  rw [show w.alloc (.cells (ql q.length (cF q)).toArray 46) = w.alloc (.cells #[.int .i64 q.length, .int .i64 (cF q 0), .int .i64 (cF q 1), .int .i64 (cF q 2), .int .i64 (cF q 3), .int .i64 (cF q 4), .int .i64 (cF q 5), .int .i64 (cF q 6), .int .i64 (cF q 7)] 46) from rfl] at L0
  have HME := Lib.hid (fun W (h : Below w.heap.size w W) => meetings_any q.length (cF q) (by omega) hFb M cap I D hM W (hM.kept w W hI h))
  rw [show (fun (r s : Nat) => D ((s : Int) - r) (cF q s - cF q r)) = attP D q from rfl] at HME
  have HW := Lib.hid (fun (p : List Int) (m : Nat) (hl : p.length < 8) (hp : ∀ y ∈ p, 0 ≤ y ∧ y < (n : Int)) (hm : m < n) W (h : Below w.heap.size w W) => with_any p m hl (fun y hy => by have := hp y hy; omega) ⟨by omega, by omega⟩ M cap I D hM W (hM.kept w W hI h))
  have HL := Lib.hid L0
  have HG0 := Lib.hid (one_good (n := n) h1 h2)
  have HIL := Lib.hid (fun k hk => itr_len D n q k hn hk h1 h2)
  have HIG := Lib.hid (fun k => itr_good (D := D) HG0.out k)
  have HQA := Lib.hid (itr_one D n (n - q.length) q)
  clear L0 hM hI h1 h2 hFb HG0
  go_enter Try.func61, Try.ntmps61
  go_upto_region 1 with fail
  generalize w.alloc _ = w1 at *
  obtain ⟨f0, f1, f2, f3, f4, f5, f6, f7, f8, ff⟩ := ql_held HL.out.ownHas
  have HMW := Lib.hid (HME.out w1 HL.out.below)
  clear HME
  by_cases hme : meets (attP D q) q.length q.length = []
  · have HD := Lib.hid (show goL D n q = itrQ D n (n - q.length) [q] by rw [HQA.out]; simp [goL, hme])
    rw [hme] at HMW
    clear hme HQA
    go_wp2_with fail
    refine HMW.out.mono ?_
    rintro e w2 ⟨v, vs, rfl, hMv, hb⟩
    obtain ⟨av, pv, rfl⟩ := ownM_shapeQ hMv
    have HL2 := Lib.hid ((HL.out.kept hb))
    clear hMv hb f0 f1 f2 f3 f4 f5 f6 f7 f8 ff HL HMW
    obtain ⟨f0, f1, f2, f3, f4, f5, f6, f7, f8, ff⟩ := ql_held HL2.out.ownHas
    have HL3 := Lib.hid (HL2.out.addQ (below_new _) (own_oneQ w2 q))
    clear HL2
    go_upto_region 4 with fail
    generalize w2.alloc _ = w3 at *
    clear f0 f1 f2 f3 f4 f5 f6 f7 f8 ff
    obtain ⟨f0, f1, f2, f3, f4, f5, f6, f7, f8, ff⟩ := ql_held HL3.out.tl.ownHas
    have HL4 := Lib.hid (HL3.out.swap.tl)
    obtain ⟨d, hdd⟩ : ∃ d, d = n - q.length := ⟨_, rfl⟩
    have hdw : wrap64 ((n : Int) - q.length) = (d : Int) := by rw [show (n : Int) - q.length = (d : Int) by omega]; exact IntWalk.wrap64_in _ (by omega)
    rw [← hdd] at HIL HD
    have hdl : q.length + d ≤ n := by omega
    have HDD := Lib.hid (show (n : Int) - q.length = d by omega)
    clear HL3 hdd
    go_wp2_with fail
    clear f0 f1 f2 f3 f4 f5 f6 f7 f8 ff
    go_loopw [7, 8, 13, 25] (fun v _ _ i wr => ∃ k : Nat, k ≤ d ∧ i = .int .i64 k ∧ Law w [tQu v (itrQ D n k [q])] wr) (fun _ _ _ i _ => d - (intOf i).toNat)
    case atStart => exact ⟨0, Nat.zero_le _, rfl, HL4.out⟩
    case round =>
      clear HL4
      obtain ⟨k, hk, rfl, L⟩ := hrel
      by_cases hlt : k < d
      · have hkd : (k : Int) < (n : Int) - q.length := by rw [HDD.out]; omega
        obtain ⟨va, vp, rfl⟩ := L.ownQ.form
        have hlen := HIL.out k (by omega)
        have hgood := HIG.out k
        have hext : itrQ D n (k + 1) [q] = extQ D n (itrQ D n k [q]) := rfl
        obtain ⟨NX, hNX⟩ : ∃ NX, NX = itrQ D n (k + 1) [q] := ⟨_, rfl⟩
        rw [← hNX] at hext
        have HNX := Lib.hid hNX
        clear hNX
        generalize itrQ D n k [q] = LL at *
        have HX := Lib.hid hext
        have HB := Lib.hid hgood
        have HLL := Lib.hid hlen
        have HL := Lib.hid (L.addQ (Below.refl _ _) (OwnQ.nil _ _))
        clear L hext hgood hlen
        go_wp2_with fail
        go_loopw [8, 13, 29] (fun f _ i wr => ∃ p : Nat, p ≤ LL.length ∧ i = .int .i64 p ∧ Law w [tQu f (extQ D n (LL.take p)), tQu (.slice va LL.length vp) LL] wr) (fun _ _ i _ => LL.length - (intOf i).toNat)
        case atStart => exact ⟨0, Nat.zero_le _, rfl, HL.out⟩
        case round =>
          clear HL
          obtain ⟨p, hp, rfl, L⟩ := hrel
          by_cases hpl : p < LL.length
          · obtain ⟨g, rfl, hc⟩ := L.tl.ownQ.nine p hpl
            obtain ⟨hQl, hQb, _⟩ := HB.out LL[p] (List.getElem_mem hpl)
            have c0 := hc 0 _ rfl
            rw [Nat.add_zero] at c0
            have c1 := hc 1 _ rfl
            have c2 := hc 2 _ rfl
            have c3 := hc 3 _ rfl
            have c4 := hc 4 _ rfl
            have c5 := hc 5 _ rfl
            have c6 := hc 6 _ rfl
            have c7 := hc 7 _ rfl
            have c8 := hc 8 _ rfl
            have hft := extQ_take D n LL p hpl
            have hcl := ext_len D n (LL.take p)
            generalize LL[p] = Q at *
            have hkI : (p : Int) < LL.length := by omega
            have HQB := Lib.hid hQb
            have HFT := Lib.hid hft
            have HQL := Lib.hid (show Q.length < 8 by omega)
            have L2 := L.has (ql Q.length (cF Q)) 46
            rw [show wr.alloc (.cells (ql Q.length (cF Q)).toArray 46) = wr.alloc (.cells #[.int .i64 Q.length, .int .i64 (cF Q 0), .int .i64 (cF Q 1), .int .i64 (cF Q 2), .int .i64 (cF Q 3), .int .i64 (cF Q 4), .int .i64 (cF Q 5), .int .i64 (cF Q 6), .int .i64 (cF Q 7)] 46) from rfl] at L2
            have HL2 := Lib.hid L2
            have HCL := Lib.hid (show (extQ D n (LL.take p)).length ≤ 900000 by
              have e1 : (LL.take p).length ≤ 40320 := by rw [List.length_take]; have := HLL.out; omega
              have e2 : (LL.take p).length * n ≤ 40320 * 8 := Nat.mul_le_mul e1 hn
              omega)
            clear L L2 hc hft hQb hQl hcl
            generalize extQ D n (LL.take p) = C at *
            go_upto_region 10 with fail
            clear c0 c1 c2 c3 c4 c5 c6 c7 c8
            obtain ⟨b, hb⟩ : ∃ b, b = wr.heap.size := ⟨_, rfl⟩
            rw [← hb] at HL2 ⊢
            generalize wr.alloc _ = w5 at *
            clear hb
            go_wp2_with fail
            go_loopw [8, 13, 34] (fun f _ i wr => ∃ m : Nat, m ≤ n ∧ i = .int .i64 m ∧ Law w [tHas b (ql Q.length (cF Q)) 46, tQu f (C ++ nxt D m Q), tQu (.slice (some ⟨g, 0, none⟩) LL.length vp) LL] wr) (fun _ _ i _ => n - (intOf i).toNat)
            case atStart => exact ⟨0, Nat.zero_le _, rfl, by rw [show nxt D 0 Q = [] from rfl, List.append_nil]; exact HL2.out⟩
            case round =>
              clear HL2
              obtain ⟨m, hm, rfl, L⟩ := hrel
              obtain ⟨wo, rfl⟩ : ∃ wo : World, wo = wr := ⟨_, rfl⟩
              by_cases hmn : m < n
              · have HWC := Lib.hid (HW.out Q m HQL.out HQB.out hmn wo L.below)
                obtain ⟨f0, f1, f2, f3, f4, f5, f6, f7, f8, ff⟩ := ql_held L.ownHas
                have hns := nxt_succ D m Q
                have hnl := nxt_len D m Q
                have HL := Lib.hid L
                clear L
                cases ho : okW D Q m
                · rw [witV_no ho] at HWC
                  rw [if_neg (by rw [ho]; decide), List.append_nil] at hns
                  have HN := Lib.hid hns
                  clear ho hns hnl
                  go_wp2_with fail
                  refine HWC.out.mono ?_
                  rintro e w6 ⟨rfl, hb6⟩
                  have HL6 := Lib.hid ((HL.out.kept hb6).kept (below_new (.cells #[.int .i64 0, .int .i64 0, .int .i64 0, .int .i64 0, .int .i64 0, .int .i64 0, .int .i64 0, .int .i64 0, .int .i64 0] 46)))
                  clear hb6 f0 f1 f2 f3 f4 f5 f6 f7 f8 ff HL HWC
                  go_wp2_with fail
                  go_roundw
                  case rel => first | exact ⟨m + 1, by omega, by go_num, by rw [HN.out]; exact HL6.out⟩ | ((repeat apply Exists.intro); exact ⟨⟨m + 1, by omega, by go_num, by rw [HN.out]; exact HL6.out⟩, rfl⟩)
                  case measure => simp [intOf]; omega
                · rw [witV_yes ho] at HWC
                  rw [if_pos ho] at hns
                  obtain ⟨P, hP⟩ : ∃ P, P = Q ++ [(m : Int)] := ⟨_, rfl⟩
                  have hPl : P.length = Q.length + 1 := by rw [hP]; simp
                  rw [← hP] at hns HWC
                  rw [show (Q.length : Int) + 1 = (P.length : Int) by omega] at HWC
                  have HN := Lib.hid hns
                  have HLE := Lib.hid (show (C ++ nxt D m Q).length + 1 ≤ 1048576 by rw [List.length_append]; have := HCL.out; omega)
                  clear ho hns hnl hP hPl
                  go_wp2_with fail
                  refine HWC.out.mono ?_
                  rintro e w6 ⟨rfl, hb6⟩
                  have HL6 := Lib.hid ((HL.out.kept hb6).has (ql P.length (cF P)) 46)
                  rw [show w6.alloc (.cells (ql P.length (cF P)).toArray 46) = w6.alloc (.cells #[.int .i64 P.length, .int .i64 (cF P 0), .int .i64 (cF P 1), .int .i64 (cF P 2), .int .i64 (cF P 3), .int .i64 (cF P 4), .int .i64 (cF P 5), .int .i64 (cF P 6), .int .i64 (cF P 7)] 46) from rfl] at HL6
                  clear hb6 f0 f1 f2 f3 f4 f5 f6 f7 f8 ff HL HWC
                  go_upto_region 15 with fail
                  generalize w6.alloc _ = w7 at *
                  obtain ⟨f0, f1, f2, f3, f4, f5, f6, f7, f8, ff⟩ := ql_held HL6.out.ownHas
                  have HL8 := Lib.hid (HL6.out.tl.swap.kept (below_new (.cells #[.int .i64 P.length, .int .i64 (cF P 0), .int .i64 (cF P 1), .int .i64 (cF P 2), .int .i64 (cF P 3), .int .i64 (cF P 4), .int .i64 (cF P 5), .int .i64 (cF P 6), .int .i64 (cF P 7)] 46)))
                  have HNW := Lib.hid (Has.new w7 (ql P.length (cF P)) 46)
                  rw [show w7.alloc (.cells (ql P.length (cF P)).toArray 46) = w7.alloc (.cells #[.int .i64 P.length, .int .i64 (cF P 0), .int .i64 (cF P 1), .int .i64 (cF P 2), .int .i64 (cF P 3), .int .i64 (cF P 4), .int .i64 (cF P 5), .int .i64 (cF P 6), .int .i64 (cF P 7)] 46) from rfl] at HNW
                  clear HL6
                  go_wp2_with (at_builtin; refine wp_appendQ rfl _ _ rfl P HL8.out w7.heap.size rfl rfl HNW.out HLE.out ?_)
                  intro v' w9 L9
                  have HL9 := Lib.hid L9.swap
                  clear L9 HL8 HNW f0 f1 f2 f3 f4 f5 f6 f7 f8 ff
                  go_wp2_with fail
                  go_roundw
                  case rel => first | exact ⟨m + 1, by omega, by go_num, by rw [HN.out]; first | exact HL9.out | (rw [← List.append_assoc]; exact HL9.out)⟩ | ((repeat apply Exists.intro); exact ⟨⟨m + 1, by omega, by go_num, by rw [HN.out]; first | exact HL9.out | (rw [← List.append_assoc]; exact HL9.out)⟩, rfl⟩)
                  case measure => simp [intOf]; omega
              · obtain rfl : m = n := by omega
                have HL3 := Lib.hid L.tl
                have hLLb := HLL.out
                clear L hmn
                go_wp2_with fail
                go_roundw
                case rel => exact ⟨p + 1, by omega, by go_num, by rw [HFT.out]; exact HL3.out⟩
                case measure => simp [intOf]; omega
          · obtain rfl : p = LL.length := by omega
            rw [List.take_length, ← HX.out] at L
            have HL2 := Lib.hid (L.sub (List.Sublist.cons_cons _ (List.nil_sublist _)))
            have hLLb := HLL.out
            clear L hpl
            go_wp2_with fail
            go_roundw
            case rel => first | exact ⟨k + 1, by omega, by go_num, by rw [← HNX.out]; exact HL2.out⟩ | ((repeat apply Exists.intro); exact ⟨⟨k + 1, by omega, by go_num, by rw [← HNX.out]; exact HL2.out⟩, rfl⟩)
            case measure => simp [intOf]; omega
      · obtain rfl : k = d := by omega
        have hkd : ¬ (k : Int) < (n : Int) - q.length := by rw [HDD.out]; omega
        have HL := Lib.hid L
        clear L hlt
        go_wp2_with fail
        go_ret
        exact ⟨_, rfl, by rw [HD.out]; exact ownQ_lo HL.out, HL.out.below⟩
  · have HD := Lib.hid (show goL D n q = [] by simp [goL, hme])
    obtain ⟨x, t, hxt⟩ : ∃ x t, meets (attP D q) q.length q.length = x :: t := by
      match hq : meets (attP D q) q.length q.length, hme with
      | x :: t, _ => exact ⟨x, t, rfl⟩
    rw [hxt] at HMW
    clear hme hxt HW HIL HIG HQA
    go_wp2_with fail
    refine HMW.out.mono ?_
    rintro e w2 ⟨v, vs, rfl, hMv, hb⟩
    obtain ⟨av, pv, rfl⟩ := ownM_shapeQ hMv
    have hgt : 0 < ((x :: t).length : Int) := by rw [List.length_cons]; omega
    have HB := Lib.hid ((HL.out.kept hb).below)
    clear hMv hb f0 f1 f2 f3 f4 f5 f6 f7 f8 ff HL HMW
    generalize (x :: t).length = l at *
    go_wp2_with fail
    go_ret
    exact ⟨_, rfl, by rw [HD.out]; exact OwnQ.nil _ _, HB.out⟩

end Go.Proofs.Ytmhlpaenfknofaa
