import Derived.Test.YtdimbnkgomfojaaFold30
import Derived.Test.YtdimbnkgomfojaaFold31
import Derived.Test.YtdimbnkgomfojaaFold33
import Derived.Test.YtdimbnkgomfojaaFold18

section
namespace Go.Proofs.Ytdimbnkgomfojaa
open Go.RowKit Go.WideShapes

/-- What is told apart: lists that hit just k rows. -/
def hitP (B : Nat → Nat → Bool) (n : Nat) (k : Int) (Q : List Int) : Bool := ((hitN B Q n : Nat) : Int) == k
/-- The full board. -/
def fullF (_n m : Nat) (M : Nat → Int) (r k : Nat) : Int := if k < r then ((2 ^ m - 1 : Nat) : Int) else M k
theorem fullF_zero (n m : Nat) (M : Nat → Int) : fullF n m M 0 = M := by funext k; simp [fullF]
theorem fullF_bd (n m : Nat) (M : Nat → Int) (r : Nat) (hm : m ≤ 6) (h : ∀ k, k < 6 → 0 ≤ M k ∧ M k < 64) : ∀ k, k < 6 → 0 ≤ fullF n m M r k ∧ fullF n m M r k < 64 := by
  intro k hk
  have h2 : 2 ^ m ≤ 2 ^ 6 := Nat.pow_le_pow_right (by omega) hm
  have h3 := Nat.two_pow_pos m
  have := h k hk
  unfold fullF
  split <;> omega
theorem fullF_bit (n m : Nat) (M : Nat → Int) (r c : Nat) (hr : r < n) (hc : c < m) : bM (fullF n m M n) r c = true := by
  show (fullF n m M n r).toNat.testBit c = true
  unfold fullF
  rw [if_pos hr, Int.toNat_natCast, Nat.testBit_two_pow_sub_one]
  simpa using hc

set_option maxRecDepth 100000 in
set_option maxHeartbeats 3200000 in
theorem wh1_yes (n m : Nat) (M F : Nat → Int) (k : Int) (Q : List Int) (V : FuncId) (cap : Array Value) (b3 b4 b5 : Nat) (w : World) (hn : n ≤ 6) (hM : ∀ r, r < n → 0 ≤ M r ∧ M r < 64) (hF : ∀ r, r < n → Q.getD r 0 = F r ∧ 0 ≤ F r ∧ F r < 6)
    (hcall : ∀ (args : Array Value) (w : World), (callFunc V args).run Try.prog w = .ok (.enter V args) w)
    (G : Has w b3 (gl n m M) 59) (K : Has w b4 [.int .i64 k] 3) (U : Has w b5 [.func (.func V) #[] cap] 72) (ans : Bool) (R : World → World → Prop) (hp : hitP (bN M) n k Q = true)
    (hV : ∀ w', Below w.heap.size w w' → Calls Try.prog V (#[pv6 F] ++ cap) w' fun e w'' => e = .returned (.bool ans) ∧ R w' w'') :
    Calls Try.prog 117 (#[pv6 F] ++ #[.pointer (some ⟨b3, 0, none⟩), .pointer (some ⟨b4, 0, none⟩), .pointer (some ⟨b5, 0, none⟩)]) w fun e w'' => e = .returned (.bool ans) ∧ ∃ w', Below w.heap.size w w' ∧ R w' w'' := by
  have hb := below_new (w := w) (.cells #[.int .i64 (F 0), .int .i64 (F 1), .int .i64 (F 2), .int .i64 (F 3), .int .i64 (F 4), .int .i64 (F 5)] 70)
  have hnP : Has (w.alloc (.cells #[.int .i64 (F 0), .int .i64 (F 1), .int .i64 (F 2), .int .i64 (F 3), .int .i64 (F 4), .int .i64 (F 5)] 70)) w.heap.size (pl6 F) 70 := Has.new w (pl6 F) 70
  have G0 := G.kept hb G.lt
  have K0 := K.kept hb K.lt
  have U0 := U.kept hb U.lt
  have HB := Lib.hid hb
  have HH := Lib.hid (fun W => hitsOf_any n m M F Q W hn hM hF)
  have HV := Lib.hid hV
  have hz : (((hitN (bN M) Q n : Nat) : Int) != k) = false := by
    unfold hitP at hp
    simp only [bne, hp, Bool.not_true]
  generalize hitN (bN M) Q n = h at *
  clear hb hV hp hM hF G K U
  go_enter Try.func117, Try.ntmps117
  go_upto_region 1 with fail
  generalize w.alloc (.cells #[.int .i64 (F 0), .int .i64 (F 1), .int .i64 (F 2), .int .i64 (F 3), .int .i64 (F 4), .int .i64 (F 5)] 70) = w5 at *
  have HP := Lib.hid (show Has w5.drew w.heap.size (pl6 F) 70 from hnP)
  have HG := Lib.hid (show Has w5.drew b3 (gl n m M) 59 from G0)
  have HK := Lib.hid (show Has w5.drew b4 [.int .i64 k] 3 from K0)
  have HU := Lib.hid (show Has w5.drew b5 [.func (.func V) #[] cap] 72 from U0)
  obtain ⟨p0, p1, p2, p3, p4, p5, _⟩ := HP.out.six
  obtain ⟨e0, e1, e2, e3, e4, e5, e6, e7, _⟩ := HG.out.eight
  have k0 := HK.out.one.1
  have u0 := HU.out.one.1
  clear hnP G0 K0 U0
  have HB5 := Lib.hid (HB.out.trans ((Below.refl w5.heap.size w5).drew.mono HB.out.size))
  clear HB HP HG HK HU
  go_region_with (first
    | (go_at_call 118; ((with_reducible refine (HH.out _).mono ?_); rintro e wA ⟨rfl, hbA⟩; have kA := cell_later hbA k0; have uA := cell_later hbA u0; have q0 := cell_later hbA p0; have q1 := cell_later hbA p1; have q2 := cell_later hbA p2; have q3 := cell_later hbA p3; have q4 := cell_later hbA p4; have q5 := cell_later hbA p5; have HBA := Lib.hid (below_on HB5.out hbA); clear hbA))
    | ((refine (HV.out _ HBA.out).mono ?_); rintro e wB ⟨rfl, hRB⟩; have HRB := Lib.hid hRB; clear hRB))
  all_goals
    go_wp2_with fail
    go_ret
    exact ⟨rfl, _, HBA.out, HRB.out⟩
set_option maxRecDepth 100000 in
set_option maxHeartbeats 3200000 in
theorem wh1_no (n m : Nat) (M F : Nat → Int) (k : Int) (Q : List Int) (V : FuncId) (cap : Array Value) (b3 b4 b5 : Nat) (w : World) (hn : n ≤ 6) (hM : ∀ r, r < n → 0 ≤ M r ∧ M r < 64) (hF : ∀ r, r < n → Q.getD r 0 = F r ∧ 0 ≤ F r ∧ F r < 6)
    (G : Has w b3 (gl n m M) 59) (K : Has w b4 [.int .i64 k] 3) (U : Has w b5 [.func (.func V) #[] cap] 72) (hp : hitP (bN M) n k Q = false) :
    Calls Try.prog 117 (#[pv6 F] ++ #[.pointer (some ⟨b3, 0, none⟩), .pointer (some ⟨b4, 0, none⟩), .pointer (some ⟨b5, 0, none⟩)]) w fun e w' => e = .returned (.bool true) ∧ Below w.heap.size w w' := by
  have hb := below_new (w := w) (.cells #[.int .i64 (F 0), .int .i64 (F 1), .int .i64 (F 2), .int .i64 (F 3), .int .i64 (F 4), .int .i64 (F 5)] 70)
  have hnP : Has (w.alloc (.cells #[.int .i64 (F 0), .int .i64 (F 1), .int .i64 (F 2), .int .i64 (F 3), .int .i64 (F 4), .int .i64 (F 5)] 70)) w.heap.size (pl6 F) 70 := Has.new w (pl6 F) 70
  have G0 := G.kept hb G.lt
  have K0 := K.kept hb K.lt
  have U0 := U.kept hb U.lt
  have HB := Lib.hid hb
  have HH := Lib.hid (fun W => hitsOf_any n m M F Q W hn hM hF)
  have hz : (((hitN (bN M) Q n : Nat) : Int) != k) = true := by
    unfold hitP at hp
    simp only [bne, hp, Bool.not_false]
  generalize hitN (bN M) Q n = h at *
  clear hb hp hM hF G K U
  go_enter Try.func117, Try.ntmps117
  go_upto_region 1 with fail
  generalize w.alloc (.cells #[.int .i64 (F 0), .int .i64 (F 1), .int .i64 (F 2), .int .i64 (F 3), .int .i64 (F 4), .int .i64 (F 5)] 70) = w5 at *
  have HP := Lib.hid (show Has w5.drew w.heap.size (pl6 F) 70 from hnP)
  have HG := Lib.hid (show Has w5.drew b3 (gl n m M) 59 from G0)
  have HK := Lib.hid (show Has w5.drew b4 [.int .i64 k] 3 from K0)
  have HU := Lib.hid (show Has w5.drew b5 [.func (.func V) #[] cap] 72 from U0)
  obtain ⟨p0, p1, p2, p3, p4, p5, _⟩ := HP.out.six
  obtain ⟨e0, e1, e2, e3, e4, e5, e6, e7, _⟩ := HG.out.eight
  have k0 := HK.out.one.1
  have u0 := HU.out.one.1
  clear hnP G0 K0 U0
  have HB5 := Lib.hid (HB.out.trans ((Below.refl w5.heap.size w5).drew.mono HB.out.size))
  clear HB HP HG HK HU
  go_region_with (first
    | (go_at_call 118; ((with_reducible refine (HH.out _).mono ?_); rintro e wA ⟨rfl, hbA⟩; have kA := cell_later hbA k0; have uA := cell_later hbA u0; have q0 := cell_later hbA p0; have q1 := cell_later hbA p1; have q2 := cell_later hbA p2; have q3 := cell_later hbA p3; have q4 := cell_later hbA p4; have q5 := cell_later hbA p5; have HBA := Lib.hid (below_on HB5.out hbA); clear hbA)))
  all_goals
    go_wp2_with fail
    go_ret
    exact ⟨rfl, HBA.out⟩
end Go.Proofs.Ytdimbnkgomfojaa
end

section
namespace Go.Proofs.Ytdimbnkgomfojaa
open Go.RowKit Go.WideShapes

theorem plF_at (P : List Int) (n r : Nat) (h : r < n) : P.getD r 0 = plF P n r := by
  unfold plF
  rw [if_pos h]
theorem pow_less (m : Nat) (hm : m ≤ 6) : wrap64 (wrap64 (2 ^ m) - 1) = ((2 ^ m - 1 : Nat) : Int) := by
  have key : ∀ m : Fin 7, wrap64 (wrap64 (2 ^ (m : Nat)) - 1) = ((2 ^ (m : Nat) - 1 : Nat) : Int) := by decide +kernel
  exact key ⟨m, by omega⟩
theorem firstC_any (m : Nat) (w : World) (hm : m ≤ 6) : Calls Try.prog 116 #[.int .i64 m] w fun e w' => e = .returned (.int .i64 ((2 ^ m - 1 : Nat) : Int)) ∧ w' = w := by
  have HP := Lib.hid (pow_less m hm)
  have h0 : (0 : Int) ≤ m := by omega
  have h1 : (m : Int) < 64 := by omega
  go_enter Try.func116, Try.ntmps116
  go_wp2_with fail
  go_ret
  exact ⟨ret_int (by first | exact HP.out | rw [HP.out]), rfl⟩
theorem gl_setF (n m : Nat) (M : Nat → Int) (r : Nat) (hr : r < 6) : (gl n m (fullF n m M r)).set (2 + r) (.int .i64 ((2 ^ m - 1 : Nat) : Int)) = gl n m (fullF n m M (r + 1)) := by
  have h : ∀ k, fullF n m M (r + 1) k = if k = r then ((2 ^ m - 1 : Nat) : Int) else fullF n m M r k := fun k => by
    unfold fullF
    by_cases h1 : k < r
    · rw [if_pos h1, if_pos (by omega), if_neg (by omega)]
    · rw [if_neg h1]
      by_cases h2 : k = r
      · rw [if_pos h2, if_pos (by omega)]
      · rw [if_neg h2, if_neg (by omega)]
  have : r = 0 ∨ r = 1 ∨ r = 2 ∨ r = 3 ∨ r = 4 ∨ r = 5 := by omega
  rcases this with rfl | rfl | rfl | rfl | rfl | rfl <;> simp [gl, h]

/-- Does the walk go on behind its j-th list? -/
def contH (p : List Int → Bool) (L : List (List Int)) (ans : Bool) (j : Nat) : Bool := match L[j]? with | some P => if p P then ans else true | none => true
theorem contH_end (p : List Int → Bool) (L : List (List Int)) (ans : Bool) : cntP p L (runV (contH p L ans) 0 L.length).1 = if ans then (L.filter p).length else min 1 (L.filter p).length := by
  cases ans
  · have := runV_first p L (contH p L false) (fun j P h => by
      unfold contH
      rw [h]
      show (if p P then false else true) = !p P
      cases p P <;> rfl) L.length 0 (by omega) (cntP_zero p L)
    rw [Nat.zero_add] at this
    simpa using this
  · rw [runV_all _ (fun j => by
      unfold contH
      split
      · split <;> rfl
      · rfl)]
    simpa using cntP_full p L L.length (Nat.le_refl _)
set_option maxRecDepth 100000 in
set_option maxHeartbeats 6400000 in
theorem walkHit_any (n : Nat) (M : Nat → Int) (k : Int) (V : FuncId) (cap : Array Value) (fb : Nat → Prop) (J : Nat → Nat → World → Prop) (ans : Bool) (LL : List (List Int)) (w : World) (hn : n ≤ 6) (hgc : ∀ k, k < 6 → 0 ≤ M k ∧ M k < 64) (hLL : LL = prm n n [])
    (hcall : ∀ (args : Array Value) (w : World), (callFunc V args).run Try.prog w = .ok (.enter V args) w)
    (hkeep : ∀ bp c w1 w2, w.heap.size ≤ bp → Chg (fun b => b = bp) w1 w2 → J bp c w1 → J bp c w2) (hbel : ∀ bp c w1 w2, J bp c w1 → Below w1.heap.size w1 w2 → J bp c w2)
    (hvis : ∀ bp, w.heap.size ≤ bp → ∀ c P, (LL.filter (hitP (bN M) n k))[c]? = some P → ∀ w', J bp c w' → Calls Try.prog V (#[pv6 (plF P n)] ++ cap) w' fun e w'' => e = .returned (.bool ans) ∧ J bp (c + 1) w'' ∧ Chg (fun b => (b < w.heap.size ∧ fb b) ∨ bp + 1 < b) w' w'')
    (hJ0 : ∀ bp w', w.heap.size ≤ bp → bp + 1 < w'.heap.size → Below w.heap.size w w' → J bp 0 w') :
    Calls Try.prog 90 #[gv n n M, .int .i64 k, .func (.func V) #[] cap] w fun e w' => e = .returned (.tuple #[]) ∧ ∃ bp, w.heap.size ≤ bp ∧ J bp (if ans then (LL.filter (hitP (bN M) n k)).length else min 1 (LL.filter (hitP (bN M) n k)).length) w' ∧ Chg (fun b => b < w.heap.size ∧ fb b) w w' := by
  have L3 := (((Law.start w).has (gl n n M) 59).has [.int .i64 k] 3).has [.func (.func V) #[] cap] 72
  simp only [World.size_alloc] at L3
  rw [show (gl n n M).toArray = #[.int .i64 n, .int .i64 n, .int .i64 (M 0), .int .i64 (M 1), .int .i64 (M 2), .int .i64 (M 3), .int .i64 (M 4), .int .i64 (M 5)] from rfl, show ([.int .i64 k] : List Value).toArray = #[.int .i64 k] from rfl, show ([.func (.func V) #[] cap] : List Value).toArray = #[.func (.func V) #[] cap] from rfl] at L3
  have hcel : ∀ Q ∈ LL, Q.length = n ∧ ∀ j, j < n → 0 ≤ Q.getD j 0 ∧ Q.getD j 0 < n := fun Q h => prm_cell n Q (by rw [← hLL]; exact h)
  have hpl : pl n (bM (fullF n n M n)) n 0 0 n = LL := by rw [hLL]; exact pl_all n _ (fun r c hr hc => fullF_bit n n M r c hr hc)
  have hwl : wR n (bM (fullF n n M n)) n 0 0 n = LL.length := by rw [← hpl, pl_len]
  have hw := fun (W : World) (b3 b4 b5 : Nat) (h3 : w.heap.size ≤ b3) (h4 : w.heap.size ≤ b4) (h5 : w.heap.size ≤ b5) (G : Has W b3 (gl n n M) 59) (K : Has W b4 [.int .i64 k] 3) (U : Has W b5 [.func (.func V) #[] cap] 72) (hbw : Below w.heap.size w W) =>
    walk_any3 n n n (fullF n n M n) 117 #[] #[.pointer (some ⟨b3, 0, none⟩), .pointer (some ⟨b4, 0, none⟩), .pointer (some ⟨b5, 0, none⟩)] (fun bp b => (b < w.heap.size ∧ fb b) ∨ bp + 1 < b)
      (fun bp j W' => J bp (cntP (hitP (bN M) n k) LL j) W' ∧ Has W' b3 (gl n n M) 59 ∧ Has W' b4 [.int .i64 k] 3 ∧ Has W' b5 [.func (.func V) #[] cap] 72) (contH (hitP (bN M) n k) LL ans) W hn hn hn (fullF_bd n n M n hn hgc)
      (fun bp b hb h => h.imp (fun h => Nat.lt_of_lt_of_le h.1 hbw.size) id)
      (fun bp j W1 W2 hb hc hi => ⟨hkeep bp _ W1 W2 (Nat.le_trans hbw.size hb) hc hi.1, Chg.has hc (by have := G.lt; omega) hi.2.1, Chg.has hc (by have := K.lt; omega) hi.2.2.1, Chg.has hc (by have := U.lt; omega) hi.2.2.2⟩)
      (fun _ _ => by kernel_rfl)
      (fun bp hb j P hj W1 hi => by
        rw [hpl] at hj
        have hmem : P ∈ LL := List.mem_of_getElem? hj
        obtain ⟨hl, hc⟩ := hcel P hmem
        have hF : ∀ r, r < n → P.getD r 0 = plF P n r ∧ 0 ≤ plF P n r ∧ plF P n r < 6 := fun r hr => by
          have := hc r hr
          rw [← plF_at P n r hr]
          omega
        have hst := cntP_step (hitP (bN M) n k) LL j P hj
        have hg := G.lt
        have hk := K.lt
        have hu := U.lt
        cases hp : hitP (bN M) n k P
        · refine (wh1_no n n M (plF P n) k P V cap b3 b4 b5 W1 hn (fun r hr => hgc r (by omega)) hF hi.2.1 hi.2.2.1 hi.2.2.2 hp).mono ?_
          rintro e W2 ⟨rfl, hbl⟩
          rw [hp] at hst
          refine ⟨by simp [contH, hj, hp], ⟨?_, hi.2.1.kept hbl hi.2.1.lt, hi.2.2.1.kept hbl hi.2.2.1.lt, hi.2.2.2.kept hbl hi.2.2.2.lt⟩, Chg.of_below hbl⟩
          rw [hst]
          exact hbel bp _ W1 W2 hi.1 hbl
        · have hat := cntP_at (hitP (bN M) n k) LL j P hj hp
          refine (wh1_yes n n M (plF P n) k P V cap b3 b4 b5 W1 hn (fun r hr => hgc r (by omega)) hF hcall hi.2.1 hi.2.2.1 hi.2.2.2 ans (fun W2 W3 => J bp (cntP (hitP (bN M) n k) LL j + 1) W3 ∧ Chg (fun b => (b < w.heap.size ∧ fb b) ∨ bp + 1 < b) W2 W3) hp (fun W2 hbl => hvis bp (Nat.le_trans hbw.size hb) _ P hat W2 (hbel bp _ W1 W2 hi.1 hbl))).mono ?_
          rintro e W3 ⟨rfl, W2, hbl, hj2, hc2⟩
          rw [hp] at hst
          refine ⟨by simp [contH, hj, hp], ⟨?_, ?_, ?_, ?_⟩, (Chg.of_below hbl).trans hc2⟩
          · rw [hst]; exact hj2
          · exact Chg.has hc2 (by omega) (hi.2.1.kept hbl hi.2.1.lt)
          · exact Chg.has hc2 (by omega) (hi.2.2.1.kept hbl hi.2.2.1.lt)
          · exact Chg.has hc2 (by omega) (hi.2.2.2.kept hbl hi.2.2.2.lt))
      (fun bp W' hb hlt hbl => ⟨by rw [cntP_zero]; exact hJ0 bp W' (Nat.le_trans hbw.size hb) hlt (below_on hbw hbl), G.kept hbl G.lt, K.kept hbl K.lt, U.kept hbl U.lt⟩)
  simp only [hwl] at hw
  have hce := contH_end (hitP (bN M) n k) LL ans
  obtain ⟨cn, hcn⟩ : ∃ cn : Nat, cn = if ans then (LL.filter (hitP (bN M) n k)).length else min 1 (LL.filter (hitP (bN M) n k)).length := ⟨_, rfl⟩
  rw [← hcn] at hce ⊢
  simp only [hce] at hw
  have HCN := Lib.hid hcn
  clear hcn
  have HW := Lib.hid hw
  have HF := Lib.hid (fun W => firstC_any n W hn)
  have HST := Lib.hid (fun r (hr : r < 6) => gl_setF n n M r hr)
  have HL3 := Lib.hid L3
  have hn6 : (n : Int) ≤ 6 := by omega
  have HN := Lib.hid hn
  clear hgc hLL hcall hkeep hbel hvis hJ0 L3 hcel hpl hwl hw hce hn
  go_enter Try.func90, Try.ntmps90
  go_upto_region 1 with fail
  generalize ((w.alloc (.cells #[.int .i64 n, .int .i64 n, .int .i64 (M 0), .int .i64 (M 1), .int .i64 (M 2), .int .i64 (M 3), .int .i64 (M 4), .int .i64 (M 5)] 59)).alloc (.cells #[.int .i64 k] 3)).alloc (.cells #[.func (.func V) #[] cap] 72) = w3 at *
  have ⟨e0, e1, e2, e3, e4, e5, e6, e7, _⟩ := HL3.out.tl.tl.ownHas.eight
  have L4 := HL3.out.has (gl n n M) 59
  rw [show w3.alloc (.cells (gl n n M).toArray 59) = w3.alloc (.cells #[.int .i64 n, .int .i64 n, .int .i64 (M 0), .int .i64 (M 1), .int .i64 (M 2), .int .i64 (M 3), .int .i64 (M 4), .int .i64 (M 5)] 59) from rfl,
    show (tHas w3.heap.size (gl n n M) 59) = tHas w3.heap.size (gl n n (fullF n n M 0)) 59 by rw [fullF_zero]] at L4
  have HL4 := Lib.hid L4
  clear L4 HL3
  go_upto_region 2 with fail
  clear e0 e1 e2 e3 e4 e5 e6 e7
  generalize w3.alloc (.cells #[.int .i64 n, .int .i64 n, .int .i64 (M 0), .int .i64 (M 1), .int .i64 (M 2), .int .i64 (M 3), .int .i64 (M 4), .int .i64 (M 5)] 59) = w4 at *
  have ⟨e0, e1, _⟩ := HL4.out.tl.tl.tl.ownHas.eight
  obtain ⟨bf, hbf⟩ : ∃ bf, bf = w3.heap.size := ⟨_, rfl⟩
  rw [← hbf] at HL4 ⊢
  clear hbf
  go_wp2_with fail
  clear e0 e1
  go_loopw [11] (fun i wr => ∃ r : Nat, r ≤ n ∧ i = .int .i64 r ∧ Law w [tHas bf (gl n n (fullF n n M r)) 59, tHas (w.heap.size + 1 + 1) [.func (.func V) #[] cap] 72, tHas (w.heap.size + 1) [.int .i64 k] 3, tHas w.heap.size (gl n n M) 59] wr) (fun i _ => n - (intOf i).toNat)
  case atStart => exact ⟨0, Nat.zero_le _, rfl, HL4.out⟩
  case round =>
    clear HL4
    obtain ⟨r, hr, rfl, L⟩ := hrel
    by_cases hlt : r < n
    · have ⟨e0, e1, _⟩ := L.tl.tl.tl.ownHas.eight
      have y1 := L.ownHas.cell (2 + r)
      rw [gl_get n n (fullF n n M r) r (by have := HN.out; omega)] at y1
      have y2 := L.ownHas.free (2 + r)
      have hS := Law.setHas (ts := []) L (2 + r) (.int .i64 ((2 ^ n - 1 : Nat) : Int))
      rw [HST.out r (by have := HN.out; omega)] at hS
      have HS := Lib.hid hS
      have hr0 : (0 : Int) ≤ r := by omega
      have hr6 : (r : Int) < 6 := by have := HN.out; omega
      generalize (2 ^ n - 1 : Nat) = z at *
      clear hS L
      go_wp2_with fail
      refine (HF.out _).mono ?_
      rintro e w6 ⟨rfl, rfl⟩
      go_wp2_with fail
      go_roundw
      case rel => exact ⟨r + 1, by omega, by go_num, HS.out⟩
      case measure => simp [intOf]; omega
    · obtain rfl : r = n := by omega
      have ⟨c0, c1, _⟩ := L.tl.tl.tl.ownHas.eight
      have ⟨f0, f1, f2, f3, f4, f5, f6, f7, _⟩ := L.ownHas.eight
      have HWR := Lib.hid (HW.out wr w.heap.size (w.heap.size + 1) (w.heap.size + 1 + 1) (Nat.le_refl _) (by omega) (by omega) L.tl.tl.tl.ownHas L.tl.tl.ownHas L.tl.ownHas L.below)
      have HB := Lib.hid L.below
      clear L hlt
      go_wp2_with fail
      refine HWR.out.mono ?_
      rintro e w7 ⟨rfl, bp, hbp, hJ, hC⟩
      have HE := Lib.hid (show ∃ bp, w.heap.size ≤ bp ∧ J bp cn w7 ∧ Chg (fun b => b < w.heap.size ∧ fb b) w w7 from
        ⟨bp, Nat.le_trans HB.out.size hbp, hJ.1, hC.os.trans HB.out.os, hC.tape.trans HB.out.tape, hC.output.trans HB.out.output, Nat.le_trans HB.out.size hC.size, fun b hb hf => (hC.block b (Nat.lt_of_lt_of_le hb HB.out.size) (fun h => h.2.elim (fun h2 => hf h2) (fun h3 => by have := HB.out.size; omega))).trans (HB.out.block b hb)⟩)
      clear hJ hC HWR
      go_wp2_with fail
      go_end0
      exact ⟨rfl, HE.out⟩
end Go.Proofs.Ytdimbnkgomfojaa
end
