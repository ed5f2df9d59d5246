import Derived.Test.YtdimbnkgomfojabFold27
import Derived.BigRegion
import Derived.Test.YtdimbnkgomfojabFold19
import Derived.Test.YtdimbnkgomfojabFold4

section
namespace Go.Proofs.Ytdimbnkgomfojab
open Go.RowKit Go.WideShapes

theorem plF_place (n m : Nat) (B : Nat → Nat → Bool) (hm : m ≤ 6) : ∀ P ∈ LG n m B, ∀ k, k < 6 → plF P n k = -1 ∨ (0 ≤ plF P n k ∧ plF P n k < 6) := by
  have key : ∀ (d f t k : Nat), ∀ P ∈ plG B (lastC m) d f t k, ∀ x ∈ P, x = -1 ∨ (0 ≤ x ∧ x < 6) := by
    intro d
    induction d with
    | zero =>
      intro f t k P hP x hx
      rw [plG] at hP
      split at hP
      · rw [List.mem_singleton.1 hP] at hx; simp at hx
      · simp at hP
    | succ d ih =>
      intro f t k P hP x hx
      rw [plG, List.mem_flatMap] at hP
      obtain ⟨c, hc, hP⟩ := hP
      have hcc : c = -1 ∨ (0 ≤ c ∧ c < 6) := by
        rcases List.mem_append.1 hc with hc | hc
        · obtain ⟨q, hq, rfl⟩ := List.mem_map.1 hc
          have := List.mem_range.1 hq
          omega
        · exact .inl (List.mem_singleton.1 hc)
      split at hP
      · obtain ⟨Q, hQ, rfl⟩ := List.mem_map.1 hP
        rcases List.mem_cons.1 hx with rfl | hx
        · exact hcc
        · exact ih _ _ _ Q hQ x hx
      · split at hP
        · obtain ⟨Q, hQ, rfl⟩ := List.mem_map.1 hP
          rcases List.mem_cons.1 hx with rfl | hx
          · exact hcc
          · exact ih _ _ _ Q hQ x hx
        · simp at hP
  intro P hP k _
  unfold plF
  split
  · rename_i h
    have hl := LG_rows n m B P hP
    exact key _ _ _ _ P hP _ (by simp [List.getD, show k < P.length by omega])
  · exact .inl rfl

theorem cblWalk_any (n m : Nat) (M : Nat → Int) (bn bu : Nat) (W : World) (hn : n ≤ 6) (hm : m ≤ 6) (hM : ∀ k, k < 6 → 0 ≤ M k ∧ M k < 64) (hd : bn ≠ bu) (HN : Has W bn (gl n m (ndF M [] n)) 68) (HU : Has W bu (gl n m (usF M [] n)) 68) :
    Calls Try.prog 62 #[gv n m M, .func (.func 124) #[] #[.pointer (some ⟨bn, 0, none⟩), .pointer (some ⟨bu, 0, none⟩)]] W fun e w' => e = .returned (.tuple #[]) ∧ Has w' bn (gl n m (ndF M (LG n m (bM M)) n)) 68 ∧ Has w' bu (gl n m (usF M (LG n m (bM M)) n)) 68 ∧ Chg (fun b => b = bn ∨ b = bu) W w' := by
  have hl1 := HN.lt
  have hl2 := HU.lt
  have h := walkLargest_any n m M 124 #[] #[.pointer (some ⟨bn, 0, none⟩), .pointer (some ⟨bu, 0, none⟩)] (fun _ b => b = bn ∨ b = bu)
    (fun _ j w' => Has w' bn (gl n m (ndF M ((LG n m (bM M)).take j) n)) 68 ∧ Has w' bu (gl n m (usF M ((LG n m (bM M)).take j) n)) 68) (fun _ => true) W hn hm hM
    (fun bp b hbp hb => .inl (by omega))
    (fun bp j w1 w2 hbp hc hi => ⟨hc.has (by omega) hi.1, hc.has (by omega) hi.2⟩)
    (fun _ _ => by kernel_rfl)
    (fun bp hbp j P hj w1 hi => by
      obtain ⟨h1, h2⟩ := List.getElem?_eq_some_iff.1 hj
      have hmem : P ∈ LG n m (bM M) := by rw [← h2]; exact List.getElem_mem h1
      have ht : (LG n m (bM M)).take j ++ [P] = (LG n m (bM M)).take (j + 1) := by
        have h1' : j < (LG n m (bM M)).length := h1
        rw [List.take_succ_eq_append_getElem h1']
        rw [show (LG n m (bM M))[j]'h1' = P from h2]
      have := cbl1_any n m M ((LG n m (bM M)).take j) P bn bu w1 hM (plF_place n m (bM M) hm P hmem) hd hi.1 hi.2
      rw [ht] at this
      exact this.mono (fun e w' h => ⟨h.1, ⟨h.2.1, h.2.2.1⟩, h.2.2.2⟩))
    (fun bp w' hbp _ hb => ⟨HN.kept hb hl1, HU.kept hb hl2⟩)
  refine h.mono (fun e w' h => ⟨h.1, ?_⟩)
  obtain ⟨bp, hbp, hi, hc⟩ := h.2
  rw [runV_all _ (fun _ => rfl), show plG (bM M) (lastC m) n 0 0 (mR m (bM M) n 0 0) = LG n m (bM M) from rfl, List.take_of_length_le (Nat.le_refl _)] at hi
  exact ⟨hi.1, hi.2, hc.mono (fun b hb => hb.2)⟩
theorem Has.row8 {w : World} {b : Nat} {n m : Int} {f : Nat → Int} {t : TypeId} (h : Has w b (gl n m f) t) : w.heap[b]? = some (.cells #[.int .i64 n, .int .i64 m, .int .i64 (f 0), .int .i64 (f 1), .int .i64 (f 2), .int .i64 (f 3), .int .i64 (f 4), .int .i64 (f 5)] t (0, 0)) := h

theorem Law.grids2 {w0 w w' : World} {ts : List Thing} (h : Law w0 ts w) {A B : List Value} {t : TypeId} (hw : w' = (w.alloc (.cells A.toArray t)).alloc (.cells B.toArray t)) : Law w0 (tHas (w.heap.size + 1) B t :: tHas w.heap.size A t :: ts) w' := by
  subst hw
  have := (h.has A t).has B t
  rw [World.size_alloc] at this
  exact this

theorem Has.set8 {w : World} {b : Nat} {v0 v1 v2 v3 v4 v5 v6 v7 : Value} {t : TypeId} (h : Has w b [v0, v1, v2, v3, v4, v5, v6, v7] t) (n m : Int) (F : Nat → Int) : Has ((((((((w.setCell ⟨b, 0, none⟩ (.int .i64 n)).setCell ⟨b, 1, none⟩ (.int .i64 m)).setCell ⟨b, 2, none⟩ (.int .i64 (F 0))).setCell ⟨b, 3, none⟩ (.int .i64 (F 1))).setCell ⟨b, 4, none⟩ (.int .i64 (F 2))).setCell ⟨b, 5, none⟩ (.int .i64 (F 3))).setCell ⟨b, 6, none⟩ (.int .i64 (F 4))).setCell ⟨b, 7, none⟩ (.int .i64 (F 5))) b (gl n m F) t :=
  (((((((h.set 0 _).set 1 _).set 2 _).set 3 _).set 4 _).set 5 _).set 6 _).set 7 _
theorem Has.off8 {w : World} {b k : Nat} {cs : List Value} {t : TypeId} (h : Has w k cs t) (n m : Int) (F : Nat → Int) (hk : k ≠ b) : Has ((((((((w.setCell ⟨b, 0, none⟩ (.int .i64 n)).setCell ⟨b, 1, none⟩ (.int .i64 m)).setCell ⟨b, 2, none⟩ (.int .i64 (F 0))).setCell ⟨b, 3, none⟩ (.int .i64 (F 1))).setCell ⟨b, 4, none⟩ (.int .i64 (F 2))).setCell ⟨b, 5, none⟩ (.int .i64 (F 3))).setCell ⟨b, 6, none⟩ (.int .i64 (F 4))).setCell ⟨b, 7, none⟩ (.int .i64 (F 5))) k cs t :=
  (((((((h.setOff b 0 _ hk).setOff b 1 _ hk).setOff b 2 _ hk).setOff b 3 _ hk).setOff b 4 _ hk).setOff b 5 _ hk).setOff b 6 _ hk).setOff b 7 _ hk
theorem Chg.set8 {foot : Nat → Prop} (w : World) (b : Nat) (n m : Int) (F : Nat → Int) (hf : foot b) : Chg foot w ((((((((w.setCell ⟨b, 0, none⟩ (.int .i64 n)).setCell ⟨b, 1, none⟩ (.int .i64 m)).setCell ⟨b, 2, none⟩ (.int .i64 (F 0))).setCell ⟨b, 3, none⟩ (.int .i64 (F 1))).setCell ⟨b, 4, none⟩ (.int .i64 (F 2))).setCell ⟨b, 5, none⟩ (.int .i64 (F 3))).setCell ⟨b, 6, none⟩ (.int .i64 (F 4))).setCell ⟨b, 7, none⟩ (.int .i64 (F 5))) :=
  (((((((Chg.of_set w b 0 _ hf).trans (Chg.of_set _ b 1 _ hf)).trans (Chg.of_set _ b 2 _ hf)).trans (Chg.of_set _ b 3 _ hf)).trans (Chg.of_set _ b 4 _ hf)).trans (Chg.of_set _ b 5 _ hf)).trans (Chg.of_set _ b 6 _ hf)).trans (Chg.of_set _ b 7 _ hf)

set_option maxRecDepth 100000 in
set_option maxHeartbeats 3200000 in
theorem cbl_any (n m : Nat) (M : Nat → Int) (w : World) (hn : n ≤ 6) (hm : m ≤ 6) (hM : ∀ k, k < 6 → 0 ≤ M k ∧ M k < 64) :
    Calls Try.prog 98 #[gv n m M] w fun e w' => e = .returned (.tuple #[gv n m (ndF M (LG n m (bM M)) n), gv n m (usF M (LG n m (bM M)) n)]) ∧ Below w.heap.size w w' := by
  have hnd : gl n m M = gl n m (ndF M [] n) := gl_congr6 _ _ _ _ (fun k hk => by show M k = ((M k).toNat : Int); have := hM k hk; omega)
  have hus : gl n m M = gl n m (usF M [] n) := gl_congr6 _ _ _ _ (fun k hk => by show M k = ((M k).toNat : Int); have := hM k hk; omega)
  have HW := Lib.hid (fun (W : World) (bn bu : Nat) (hd : bn ≠ bu) (h1 : Has W bn (gl n m M) 68) (h2 : Has W bu (gl n m M) 68) => cblWalk_any n m M bn bu W hn hm hM hd (by rw [← hnd]; exact h1) (by rw [← hus]; exact h2))
  have L0 := (((Law.start w).has (gl n m M) 68).has (gl 0 0 (fun _ => 0)) 68).has (gl 0 0 (fun _ => 0)) 68
  simp only [World.size_alloc] at L0
  have HL := Lib.hid L0
  clear hnd hus hM L0
  generalize ndF M (LG n m (bM M)) n = N1 at *
  generalize usF M (LG n m (bM M)) n = N2 at *
  go_enter Try.func98, Try.ntmps98
  go_upto_region 1 with fail
  rw [show (gl n m M).toArray = #[.int .i64 n, .int .i64 m, .int .i64 (M 0), .int .i64 (M 1), .int .i64 (M 2), .int .i64 (M 3), .int .i64 (M 4), .int .i64 (M 5)] from rfl, show (gl 0 0 (fun _ => (0 : Int))).toArray = #[.int .i64 0, .int .i64 0, .int .i64 0, .int .i64 0, .int .i64 0, .int .i64 0, .int .i64 0, .int .i64 0] from rfl] at HL
  generalize ((w.alloc (.cells #[.int .i64 n, .int .i64 m, .int .i64 (M 0), .int .i64 (M 1), .int .i64 (M 2), .int .i64 (M 3), .int .i64 (M 4), .int .i64 (M 5)] 68)).alloc (.cells #[.int .i64 0, .int .i64 0, .int .i64 0, .int .i64 0, .int .i64 0, .int .i64 0, .int .i64 0, .int .i64 0] 68)).alloc (.cells #[.int .i64 0, .int .i64 0, .int .i64 0, .int .i64 0, .int .i64 0, .int .i64 0, .int .i64 0, .int .i64 0] 68) = w5 at *
  have L2 := (HL.out.grids2 (A := gl n m M) (B := gl n m M) (t := 68) rfl).drew
  have HZ := HL.out.tl.ownHas.lt
  have HZ2 := HL.out.ownHas.lt
  replace HL := Lib.hid HL.out.drew
  obtain ⟨e0, e1, e2, e3, e4, e5, e6, e7, _⟩ := HL.out.tl.tl.ownHas.eight
  have hd : ∀ (x y : Obj) {a : Addr} {v : Value}, w5.cell? a = some v → (((w5.alloc x).alloc y).drew).cell? a = some v := fun x y _ _ h => cell_later (Below.drew (below_new _)) (cell_later (below_new _) h)
  have d00 := hd (Obj.cells #[.int .i64 0, .int .i64 0, .int .i64 0, .int .i64 0, .int .i64 0, .int .i64 0, .int .i64 0, .int .i64 0] 68) (Obj.cells #[.int .i64 0, .int .i64 0, .int .i64 0, .int .i64 0, .int .i64 0, .int .i64 0, .int .i64 0, .int .i64 0] 68) e0
  have d01 := hd (Obj.cells #[.int .i64 0, .int .i64 0, .int .i64 0, .int .i64 0, .int .i64 0, .int .i64 0, .int .i64 0, .int .i64 0] 68) (Obj.cells #[.int .i64 0, .int .i64 0, .int .i64 0, .int .i64 0, .int .i64 0, .int .i64 0, .int .i64 0, .int .i64 0] 68) e1
  have d02 := hd (Obj.cells #[.int .i64 0, .int .i64 0, .int .i64 0, .int .i64 0, .int .i64 0, .int .i64 0, .int .i64 0, .int .i64 0] 68) (Obj.cells #[.int .i64 0, .int .i64 0, .int .i64 0, .int .i64 0, .int .i64 0, .int .i64 0, .int .i64 0, .int .i64 0] 68) e2
  have d03 := hd (Obj.cells #[.int .i64 0, .int .i64 0, .int .i64 0, .int .i64 0, .int .i64 0, .int .i64 0, .int .i64 0, .int .i64 0] 68) (Obj.cells #[.int .i64 0, .int .i64 0, .int .i64 0, .int .i64 0, .int .i64 0, .int .i64 0, .int .i64 0, .int .i64 0] 68) e3
  have d04 := hd (Obj.cells #[.int .i64 0, .int .i64 0, .int .i64 0, .int .i64 0, .int .i64 0, .int .i64 0, .int .i64 0, .int .i64 0] 68) (Obj.cells #[.int .i64 0, .int .i64 0, .int .i64 0, .int .i64 0, .int .i64 0, .int .i64 0, .int .i64 0, .int .i64 0] 68) e4
  have d05 := hd (Obj.cells #[.int .i64 0, .int .i64 0, .int .i64 0, .int .i64 0, .int .i64 0, .int .i64 0, .int .i64 0, .int .i64 0] 68) (Obj.cells #[.int .i64 0, .int .i64 0, .int .i64 0, .int .i64 0, .int .i64 0, .int .i64 0, .int .i64 0, .int .i64 0] 68) e5
  have d06 := hd (Obj.cells #[.int .i64 0, .int .i64 0, .int .i64 0, .int .i64 0, .int .i64 0, .int .i64 0, .int .i64 0, .int .i64 0] 68) (Obj.cells #[.int .i64 0, .int .i64 0, .int .i64 0, .int .i64 0, .int .i64 0, .int .i64 0, .int .i64 0, .int .i64 0] 68) e6
  have d07 := hd (Obj.cells #[.int .i64 0, .int .i64 0, .int .i64 0, .int .i64 0, .int .i64 0, .int .i64 0, .int .i64 0, .int .i64 0] 68) (Obj.cells #[.int .i64 0, .int .i64 0, .int .i64 0, .int .i64 0, .int .i64 0, .int .i64 0, .int .i64 0, .int .i64 0] 68) e7
  have d10 := hd (Obj.cells #[.int .i64 0, .int .i64 0, .int .i64 0, .int .i64 0, .int .i64 0, .int .i64 0, .int .i64 0, .int .i64 0] 68) (Obj.cells #[.int .i64 n, .int .i64 m, .int .i64 (M 0), .int .i64 (M 1), .int .i64 (M 2), .int .i64 (M 3), .int .i64 (M 4), .int .i64 (M 5)] 68) e0
  have d11 := hd (Obj.cells #[.int .i64 0, .int .i64 0, .int .i64 0, .int .i64 0, .int .i64 0, .int .i64 0, .int .i64 0, .int .i64 0] 68) (Obj.cells #[.int .i64 n, .int .i64 m, .int .i64 (M 0), .int .i64 (M 1), .int .i64 (M 2), .int .i64 (M 3), .int .i64 (M 4), .int .i64 (M 5)] 68) e1
  have d12 := hd (Obj.cells #[.int .i64 0, .int .i64 0, .int .i64 0, .int .i64 0, .int .i64 0, .int .i64 0, .int .i64 0, .int .i64 0] 68) (Obj.cells #[.int .i64 n, .int .i64 m, .int .i64 (M 0), .int .i64 (M 1), .int .i64 (M 2), .int .i64 (M 3), .int .i64 (M 4), .int .i64 (M 5)] 68) e2
  have d13 := hd (Obj.cells #[.int .i64 0, .int .i64 0, .int .i64 0, .int .i64 0, .int .i64 0, .int .i64 0, .int .i64 0, .int .i64 0] 68) (Obj.cells #[.int .i64 n, .int .i64 m, .int .i64 (M 0), .int .i64 (M 1), .int .i64 (M 2), .int .i64 (M 3), .int .i64 (M 4), .int .i64 (M 5)] 68) e3
  have d14 := hd (Obj.cells #[.int .i64 0, .int .i64 0, .int .i64 0, .int .i64 0, .int .i64 0, .int .i64 0, .int .i64 0, .int .i64 0] 68) (Obj.cells #[.int .i64 n, .int .i64 m, .int .i64 (M 0), .int .i64 (M 1), .int .i64 (M 2), .int .i64 (M 3), .int .i64 (M 4), .int .i64 (M 5)] 68) e4
  have d15 := hd (Obj.cells #[.int .i64 0, .int .i64 0, .int .i64 0, .int .i64 0, .int .i64 0, .int .i64 0, .int .i64 0, .int .i64 0] 68) (Obj.cells #[.int .i64 n, .int .i64 m, .int .i64 (M 0), .int .i64 (M 1), .int .i64 (M 2), .int .i64 (M 3), .int .i64 (M 4), .int .i64 (M 5)] 68) e5
  have d16 := hd (Obj.cells #[.int .i64 0, .int .i64 0, .int .i64 0, .int .i64 0, .int .i64 0, .int .i64 0, .int .i64 0, .int .i64 0] 68) (Obj.cells #[.int .i64 n, .int .i64 m, .int .i64 (M 0), .int .i64 (M 1), .int .i64 (M 2), .int .i64 (M 3), .int .i64 (M 4), .int .i64 (M 5)] 68) e6
  have d17 := hd (Obj.cells #[.int .i64 0, .int .i64 0, .int .i64 0, .int .i64 0, .int .i64 0, .int .i64 0, .int .i64 0, .int .i64 0] 68) (Obj.cells #[.int .i64 n, .int .i64 m, .int .i64 (M 0), .int .i64 (M 1), .int .i64 (M 2), .int .i64 (M 3), .int .i64 (M 4), .int .i64 (M 5)] 68) e7
  have d20 := hd (Obj.cells #[.int .i64 n, .int .i64 m, .int .i64 (M 0), .int .i64 (M 1), .int .i64 (M 2), .int .i64 (M 3), .int .i64 (M 4), .int .i64 (M 5)] 68) (Obj.cells #[.int .i64 0, .int .i64 0, .int .i64 0, .int .i64 0, .int .i64 0, .int .i64 0, .int .i64 0, .int .i64 0] 68) e0
  have d21 := hd (Obj.cells #[.int .i64 n, .int .i64 m, .int .i64 (M 0), .int .i64 (M 1), .int .i64 (M 2), .int .i64 (M 3), .int .i64 (M 4), .int .i64 (M 5)] 68) (Obj.cells #[.int .i64 0, .int .i64 0, .int .i64 0, .int .i64 0, .int .i64 0, .int .i64 0, .int .i64 0, .int .i64 0] 68) e1
  have d22 := hd (Obj.cells #[.int .i64 n, .int .i64 m, .int .i64 (M 0), .int .i64 (M 1), .int .i64 (M 2), .int .i64 (M 3), .int .i64 (M 4), .int .i64 (M 5)] 68) (Obj.cells #[.int .i64 0, .int .i64 0, .int .i64 0, .int .i64 0, .int .i64 0, .int .i64 0, .int .i64 0, .int .i64 0] 68) e2
  have d23 := hd (Obj.cells #[.int .i64 n, .int .i64 m, .int .i64 (M 0), .int .i64 (M 1), .int .i64 (M 2), .int .i64 (M 3), .int .i64 (M 4), .int .i64 (M 5)] 68) (Obj.cells #[.int .i64 0, .int .i64 0, .int .i64 0, .int .i64 0, .int .i64 0, .int .i64 0, .int .i64 0, .int .i64 0] 68) e3
  have d24 := hd (Obj.cells #[.int .i64 n, .int .i64 m, .int .i64 (M 0), .int .i64 (M 1), .int .i64 (M 2), .int .i64 (M 3), .int .i64 (M 4), .int .i64 (M 5)] 68) (Obj.cells #[.int .i64 0, .int .i64 0, .int .i64 0, .int .i64 0, .int .i64 0, .int .i64 0, .int .i64 0, .int .i64 0] 68) e4
  have d25 := hd (Obj.cells #[.int .i64 n, .int .i64 m, .int .i64 (M 0), .int .i64 (M 1), .int .i64 (M 2), .int .i64 (M 3), .int .i64 (M 4), .int .i64 (M 5)] 68) (Obj.cells #[.int .i64 0, .int .i64 0, .int .i64 0, .int .i64 0, .int .i64 0, .int .i64 0, .int .i64 0, .int .i64 0] 68) e5
  have d26 := hd (Obj.cells #[.int .i64 n, .int .i64 m, .int .i64 (M 0), .int .i64 (M 1), .int .i64 (M 2), .int .i64 (M 3), .int .i64 (M 4), .int .i64 (M 5)] 68) (Obj.cells #[.int .i64 0, .int .i64 0, .int .i64 0, .int .i64 0, .int .i64 0, .int .i64 0, .int .i64 0, .int .i64 0] 68) e6
  have d27 := hd (Obj.cells #[.int .i64 n, .int .i64 m, .int .i64 (M 0), .int .i64 (M 1), .int .i64 (M 2), .int .i64 (M 3), .int .i64 (M 4), .int .i64 (M 5)] 68) (Obj.cells #[.int .i64 0, .int .i64 0, .int .i64 0, .int .i64 0, .int .i64 0, .int .i64 0, .int .i64 0, .int .i64 0] 68) e7
  have d30 := hd (Obj.cells #[.int .i64 n, .int .i64 m, .int .i64 (M 0), .int .i64 (M 1), .int .i64 (M 2), .int .i64 (M 3), .int .i64 (M 4), .int .i64 (M 5)] 68) (Obj.cells #[.int .i64 n, .int .i64 m, .int .i64 (M 0), .int .i64 (M 1), .int .i64 (M 2), .int .i64 (M 3), .int .i64 (M 4), .int .i64 (M 5)] 68) e0
  have d31 := hd (Obj.cells #[.int .i64 n, .int .i64 m, .int .i64 (M 0), .int .i64 (M 1), .int .i64 (M 2), .int .i64 (M 3), .int .i64 (M 4), .int .i64 (M 5)] 68) (Obj.cells #[.int .i64 n, .int .i64 m, .int .i64 (M 0), .int .i64 (M 1), .int .i64 (M 2), .int .i64 (M 3), .int .i64 (M 4), .int .i64 (M 5)] 68) e1
  have d32 := hd (Obj.cells #[.int .i64 n, .int .i64 m, .int .i64 (M 0), .int .i64 (M 1), .int .i64 (M 2), .int .i64 (M 3), .int .i64 (M 4), .int .i64 (M 5)] 68) (Obj.cells #[.int .i64 n, .int .i64 m, .int .i64 (M 0), .int .i64 (M 1), .int .i64 (M 2), .int .i64 (M 3), .int .i64 (M 4), .int .i64 (M 5)] 68) e2
  have d33 := hd (Obj.cells #[.int .i64 n, .int .i64 m, .int .i64 (M 0), .int .i64 (M 1), .int .i64 (M 2), .int .i64 (M 3), .int .i64 (M 4), .int .i64 (M 5)] 68) (Obj.cells #[.int .i64 n, .int .i64 m, .int .i64 (M 0), .int .i64 (M 1), .int .i64 (M 2), .int .i64 (M 3), .int .i64 (M 4), .int .i64 (M 5)] 68) e3
  have d34 := hd (Obj.cells #[.int .i64 n, .int .i64 m, .int .i64 (M 0), .int .i64 (M 1), .int .i64 (M 2), .int .i64 (M 3), .int .i64 (M 4), .int .i64 (M 5)] 68) (Obj.cells #[.int .i64 n, .int .i64 m, .int .i64 (M 0), .int .i64 (M 1), .int .i64 (M 2), .int .i64 (M 3), .int .i64 (M 4), .int .i64 (M 5)] 68) e4
  have d35 := hd (Obj.cells #[.int .i64 n, .int .i64 m, .int .i64 (M 0), .int .i64 (M 1), .int .i64 (M 2), .int .i64 (M 3), .int .i64 (M 4), .int .i64 (M 5)] 68) (Obj.cells #[.int .i64 n, .int .i64 m, .int .i64 (M 0), .int .i64 (M 1), .int .i64 (M 2), .int .i64 (M 3), .int .i64 (M 4), .int .i64 (M 5)] 68) e5
  have d36 := hd (Obj.cells #[.int .i64 n, .int .i64 m, .int .i64 (M 0), .int .i64 (M 1), .int .i64 (M 2), .int .i64 (M 3), .int .i64 (M 4), .int .i64 (M 5)] 68) (Obj.cells #[.int .i64 n, .int .i64 m, .int .i64 (M 0), .int .i64 (M 1), .int .i64 (M 2), .int .i64 (M 3), .int .i64 (M 4), .int .i64 (M 5)] 68) e6
  have d37 := hd (Obj.cells #[.int .i64 n, .int .i64 m, .int .i64 (M 0), .int .i64 (M 1), .int .i64 (M 2), .int .i64 (M 3), .int .i64 (M 4), .int .i64 (M 5)] 68) (Obj.cells #[.int .i64 n, .int .i64 m, .int .i64 (M 0), .int .i64 (M 1), .int .i64 (M 2), .int .i64 (M 3), .int .i64 (M 4), .int .i64 (M 5)] 68) e7
  have he : ∀ (x : Obj) {a : Addr} {v : Value}, w5.cell? a = some v → ((w5.alloc x).drew).cell? a = some v := fun x _ _ h => cell_later (Below.drew (below_new _)) h
  have g00 := he (Obj.cells #[.int .i64 0, .int .i64 0, .int .i64 0, .int .i64 0, .int .i64 0, .int .i64 0, .int .i64 0, .int .i64 0] 68) e0
  have g01 := he (Obj.cells #[.int .i64 0, .int .i64 0, .int .i64 0, .int .i64 0, .int .i64 0, .int .i64 0, .int .i64 0, .int .i64 0] 68) e1
  have g02 := he (Obj.cells #[.int .i64 0, .int .i64 0, .int .i64 0, .int .i64 0, .int .i64 0, .int .i64 0, .int .i64 0, .int .i64 0] 68) e2
  have g03 := he (Obj.cells #[.int .i64 0, .int .i64 0, .int .i64 0, .int .i64 0, .int .i64 0, .int .i64 0, .int .i64 0, .int .i64 0] 68) e3
  have g04 := he (Obj.cells #[.int .i64 0, .int .i64 0, .int .i64 0, .int .i64 0, .int .i64 0, .int .i64 0, .int .i64 0, .int .i64 0] 68) e4
  have g05 := he (Obj.cells #[.int .i64 0, .int .i64 0, .int .i64 0, .int .i64 0, .int .i64 0, .int .i64 0, .int .i64 0, .int .i64 0] 68) e5
  have g06 := he (Obj.cells #[.int .i64 0, .int .i64 0, .int .i64 0, .int .i64 0, .int .i64 0, .int .i64 0, .int .i64 0, .int .i64 0] 68) e6
  have g07 := he (Obj.cells #[.int .i64 0, .int .i64 0, .int .i64 0, .int .i64 0, .int .i64 0, .int .i64 0, .int .i64 0, .int .i64 0] 68) e7
  have g10 := he (Obj.cells #[.int .i64 n, .int .i64 m, .int .i64 (M 0), .int .i64 (M 1), .int .i64 (M 2), .int .i64 (M 3), .int .i64 (M 4), .int .i64 (M 5)] 68) e0
  have g11 := he (Obj.cells #[.int .i64 n, .int .i64 m, .int .i64 (M 0), .int .i64 (M 1), .int .i64 (M 2), .int .i64 (M 3), .int .i64 (M 4), .int .i64 (M 5)] 68) e1
  have g12 := he (Obj.cells #[.int .i64 n, .int .i64 m, .int .i64 (M 0), .int .i64 (M 1), .int .i64 (M 2), .int .i64 (M 3), .int .i64 (M 4), .int .i64 (M 5)] 68) e2
  have g13 := he (Obj.cells #[.int .i64 n, .int .i64 m, .int .i64 (M 0), .int .i64 (M 1), .int .i64 (M 2), .int .i64 (M 3), .int .i64 (M 4), .int .i64 (M 5)] 68) e3
  have g14 := he (Obj.cells #[.int .i64 n, .int .i64 m, .int .i64 (M 0), .int .i64 (M 1), .int .i64 (M 2), .int .i64 (M 3), .int .i64 (M 4), .int .i64 (M 5)] 68) e4
  have g15 := he (Obj.cells #[.int .i64 n, .int .i64 m, .int .i64 (M 0), .int .i64 (M 1), .int .i64 (M 2), .int .i64 (M 3), .int .i64 (M 4), .int .i64 (M 5)] 68) e5
  have g16 := he (Obj.cells #[.int .i64 n, .int .i64 m, .int .i64 (M 0), .int .i64 (M 1), .int .i64 (M 2), .int .i64 (M 3), .int .i64 (M 4), .int .i64 (M 5)] 68) e6
  have g17 := he (Obj.cells #[.int .i64 n, .int .i64 m, .int .i64 (M 0), .int .i64 (M 1), .int .i64 (M 2), .int .i64 (M 3), .int .i64 (M 4), .int .i64 (M 5)] 68) e7
  rw [show (gl n m M).toArray = #[.int .i64 n, .int .i64 m, .int .i64 (M 0), .int .i64 (M 1), .int .i64 (M 2), .int .i64 (M 3), .int .i64 (M 4), .int .i64 (M 5)] from rfl] at L2
  have hsz := w5.size_alloc (Obj.cells #[.int .i64 n, .int .i64 m, .int .i64 (M 0), .int .i64 (M 1), .int .i64 (M 2), .int .i64 (M 3), .int .i64 (M 4), .int .i64 (M 5)] 68)
  have HL2 := Lib.hid L2
  clear L2
  go_region
  all_goals
    clear hd he
    clear HL
    generalize ((w5.alloc (Obj.cells #[.int .i64 n, .int .i64 m, .int .i64 (M 0), .int .i64 (M 1), .int .i64 (M 2), .int .i64 (M 3), .int .i64 (M 4), .int .i64 (M 5)] 68)).alloc (Obj.cells #[.int .i64 n, .int .i64 m, .int .i64 (M 0), .int .i64 (M 1), .int .i64 (M 2), .int .i64 (M 3), .int .i64 (M 4), .int .i64 (M 5)] 68)).drew = w6 at *
    clear d00 d01 d02 d03 d04 d05 d06 d07 d10 d11 d12 d13 d14 d15 d16 d17 d20 d21 d22 d23 d24 d25 d26 d27 g00 g01 g02 g03 g04 g05 g06 g07 g10 g11 g12 g13 g14 g15 g16 g17
    clear e0 e1 e2 e3 e4 e5 e6 e7 hsz
    generalize w5.heap.size = s5 at *
    have HWa := Lib.hid (HW.out w6 s5 (s5 + 1) (by omega) HL2.out.tl.ownHas HL2.out.ownHas)
    have HWb := Lib.hid (HW.out w6 (s5 + 1) s5 (by omega) HL2.out.ownHas HL2.out.tl.ownHas)
    have hq1 : Hid (¬ (w.heap.size + 1 = s5 ∨ w.heap.size + 1 = s5 + 1)) := Lib.hid (by omega)
    have hq2 : Hid (¬ (w.heap.size + 1 + 1 = s5 ∨ w.heap.size + 1 + 1 = s5 + 1)) := Lib.hid (by omega)
    have hq0 : Hid (∀ k, k < w.heap.size → ¬ (k = s5 ∨ k = s5 + 1)) := Lib.hid (fun k hk => by omega)
    have hk1 := Lib.hid HL2.out.tl.tl.tl.ownHas
    have hk2 := Lib.hid HL2.out.tl.tl.ownHas
    have HB6 := Lib.hid HL2.out.below
    clear HW HL2
    go_wp2_with fail
    first
      | (with_reducible change Calls _ _ #[_, .func _ #[] #[.pointer (some ⟨s5, 0, none⟩), .pointer (some ⟨s5 + 1, 0, none⟩)]] w6 _); refine (HWa.out).mono ?_
      | (with_reducible change Calls _ _ #[_, .func _ #[] #[.pointer (some ⟨s5 + 1, 0, none⟩), .pointer (some ⟨s5, 0, none⟩)]] w6 _); refine (HWb.out).mono ?_
    rintro e w7 ⟨rfl, hb1, hb2, hC⟩
    replace hC : Chg (fun b => b = s5 ∨ b = s5 + 1) w6 w7 := hC.mono (fun b hb => by first | exact hb | exact hb.symm)
    have hz1 := hC.has hq1.out hk1.out
    have hz2 := hC.has hq2.out hk2.out
    have HB := Lib.hid (show Below w.heap.size w w7 from HB6.out.trans ⟨hC.os, hC.tape, hC.output, hC.size, fun k hk => hC.block k (Nat.lt_of_lt_of_le hk HB6.out.size) (hq0.out k hk)⟩)
    clear HWa HWb HB6 hq0 hq1 hq2 hk1 hk2 d30 d31 d32 d33 d34 d35 d36 d37
    have Hn := Lib.hid hb1
    have Hu := Lib.hid hb2
    have Hz1 := Lib.hid hz1
    have Hz2 := Lib.hid hz2
    obtain ⟨a0, a1, a2, a3, a4, a5, a6, a7, _⟩ := hb1.eight
    obtain ⟨b0, b1, b2, b3, b4, b5, b6, b7, _⟩ := hb2.eight
    obtain ⟨y0, y1, y2, y3, y4, y5, y6, y7, yf⟩ := hz1.eight
    obtain ⟨z0, z1, z2, z3, z4, z5, z6, z7, zf⟩ := hz2.eight
    clear hb1 hb2 hz1 hz2 hC
    go_upto_region 3 with fail
    go_region
    all_goals
      clear a0 a1 a2 a3 a4 a5 a6 a7 b0 b1 b2 b3 b4 b5 b6 b7 y0 y1 y2 y3 y4 y5 y6 y7 yf z0 z1 z2 z3 z4 z5 z6 z7 zf Hn Hu
      have q2 := (((Hz2.out.off8 (b := w.heap.size + 1) n m N1 (by omega)).set8 n m N2)).drew
      have q1 := (((Hz1.out.set8 n m N1).off8 (b := w.heap.size + 1 + 1) n m N2 (by omega))).drew
      have hc := ((Chg.set8 (foot := fun k => w.heap.size ≤ k) w7 (w.heap.size + 1) n m N1 (by show w.heap.size ≤ _; omega)).trans (Chg.set8 (foot := fun k => w.heap.size ≤ k) _ (w.heap.size + 1 + 1) n m N2 (by show w.heap.size ≤ _; omega))).trans (Chg.of_below (Below.refl _ _).drew)
      have HB9 := Lib.hid (show Below w.heap.size w _ from HB.out.trans ⟨hc.os, hc.tape, hc.output, hc.size, fun k hk => hc.block k (Nat.lt_of_lt_of_le hk HB.out.size) (Nat.not_le.2 hk)⟩)
      clear hc Hz1 Hz2 HB
      generalize ((((((((((((((((w7.setCell ⟨w.heap.size + 1, 0, none⟩ (.int .i64 n)).setCell ⟨w.heap.size + 1, 1, none⟩ (.int .i64 m)).setCell ⟨w.heap.size + 1, 2, none⟩ (.int .i64 (N1 0))).setCell ⟨w.heap.size + 1, 3, none⟩ (.int .i64 (N1 1))).setCell ⟨w.heap.size + 1, 4, none⟩ (.int .i64 (N1 2))).setCell ⟨w.heap.size + 1, 5, none⟩ (.int .i64 (N1 3))).setCell ⟨w.heap.size + 1, 6, none⟩ (.int .i64 (N1 4))).setCell ⟨w.heap.size + 1, 7, none⟩ (.int .i64 (N1 5))).setCell ⟨w.heap.size + 1 + 1, 0, none⟩ (.int .i64 n)).setCell ⟨w.heap.size + 1 + 1, 1, none⟩ (.int .i64 m)).setCell ⟨w.heap.size + 1 + 1, 2, none⟩ (.int .i64 (N2 0))).setCell ⟨w.heap.size + 1 + 1, 3, none⟩ (.int .i64 (N2 1))).setCell ⟨w.heap.size + 1 + 1, 4, none⟩ (.int .i64 (N2 2))).setCell ⟨w.heap.size + 1 + 1, 5, none⟩ (.int .i64 (N2 3))).setCell ⟨w.heap.size + 1 + 1, 6, none⟩ (.int .i64 (N2 4))).setCell ⟨w.heap.size + 1 + 1, 7, none⟩ (.int .i64 (N2 5))).drew = w9 at *
      obtain ⟨y0, y1, y2, y3, y4, y5, y6, y7, _⟩ := q1.eight
      obtain ⟨z0, z1, z2, z3, z4, z5, z6, z7, _⟩ := q2.eight
      clear q1 q2
      go_wp2_with fail
      refine bodyPost_ret (v := .tuple #[.agg #[.int .i64 n, .int .i64 m, .int .i64 (N1 0), .int .i64 (N1 1), .int .i64 (N1 2), .int .i64 (N1 3), .int .i64 (N1 4), .int .i64 (N1 5)], .agg #[.int .i64 n, .int .i64 m, .int .i64 (N2 0), .int .i64 (N2 1), .int .i64 (N2 2), .int .i64 (N2 3), .int .i64 (N2 4), .int .i64 (N2 5)]]) (by simp [results, Try.results98, go_sem, y0, y1, y2, y3, y4, y5, y6, y7, z0, z1, z2, z3, z4, z5, z6, z7]) rfl ⟨rfl, HB9.out⟩

end Go.Proofs.Ytdimbnkgomfojab
end

section
namespace Go.Proofs.Ytdimbnkgomfojab
open Go.RowKit Go.WideShapes

theorem Law.perm {w0 w : World} {ts ts' : List Thing} (h : Law w0 ts w) (hp : ts.Perm ts') : Law w0 ts' w :=
  ⟨h.below, fun t ht => h.holds t (hp.mem_iff.2 ht), fun t ht => h.range t (hp.mem_iff.2 ht), h.dis.perm hp (fun h k e1 e2 => h k e2 e1)⟩
/-- The outer row alone. -/
def tRowO (v : Value) (vs : List Value) : Thing :=
  ⟨fun k => v.ownBlock = some k, fun w => w.ownsRow 0 22 1 v vs.length vs, fun _ _ _ hk h => by
    refine ⟨h.1, ?_⟩
    rcases h.2 with h2 | ⟨g, cap, cur, hv, hg, hh, r⟩
    · exact .inl h2
    · exact .inr ⟨g, cap, cur, hv, hg, by rw [hk g (by rw [hv]; rfl)]; exact hh, r⟩⟩
/-- The rows, each a thing. -/
def tRows (vs : List Value) (rss : List (List Int)) : List Thing := (vs.zip rss).map fun p => tOwn p.1 p.2
theorem tRows_foot {vs : List Value} {rss : List (List Int)} {t : Thing} (h : t ∈ tRows vs rss) : ∃ u r, (u, r) ∈ vs.zip rss ∧ t = tOwn u r := by
  unfold tRows at h
  obtain ⟨p, hp, rfl⟩ := List.mem_map.1 h
  exact ⟨p.1, p.2, hp, rfl⟩
theorem Law.apartM {w0 w : World} {ts : List Thing} {v : Value} {vs : List Value} {rss : List (List Int)} (h : Law w0 (tM v vs rss :: ts) w) : Law w0 (tRowO v vs :: (tRows vs rss ++ ts)) w := by
  have hM := h.ownM
  have hr := h.range (tM v vs rss) (by simp)
  have hd := List.pairwise_cons.1 h.dis
  have hfo : ∀ t ∈ tRows vs rss, ∀ k, t.foot k → (tM v vs rss).foot k := fun t ht k hk => by
    obtain ⟨u, r, hm, rfl⟩ := tRows_foot ht
    exact .inr ⟨u, (List.of_mem_zip hm).1, hk⟩
  refine ⟨h.below, ?_, ?_, ?_⟩
  · intro t ht
    rcases List.mem_cons.1 ht with rfl | ht
    · exact hM.outer
    · rcases List.mem_append.1 ht with ht | ht
      · obtain ⟨u, r, hm, rfl⟩ := tRows_foot ht
        exact hM.rows _ hm
      · exact h.holds t (by simp [ht])
  · intro t ht k hk
    rcases List.mem_cons.1 ht with rfl | ht
    · exact hr k (.inl hk)
    · rcases List.mem_append.1 ht with ht | ht
      · exact hr k (hfo t ht k hk)
      · exact h.range t (by simp [ht]) k hk
  · refine List.pairwise_cons.2 ⟨fun t ht k e1 e2 => ?_, ?_⟩
    · rcases List.mem_append.1 ht with ht | ht
      · obtain ⟨u, r, hm, rfl⟩ := tRows_foot ht
        exact hM.apart u (List.of_mem_zip hm).1 k e2 e1
      · exact hd.1 t ht k (.inl e1) e2
    · rw [List.pairwise_append]
      refine ⟨?_, hd.2, fun a ha b hb k e1 e2 => hd.1 b hb k (hfo a ha k e1) e2⟩
      unfold tRows
      rw [List.pairwise_map]
      have hp := hM.dis
      have : (vs.zip rss).Pairwise (fun p q => ∀ k, p.1.ownBlock = some k → q.1.ownBlock ≠ some k) := by
        have h2 : ((vs.zip rss).map Prod.fst).Pairwise (fun a b => ∀ k, a.ownBlock = some k → b.ownBlock ≠ some k) := by
          rw [List.map_fst_zip (by rw [hM.len]; exact Nat.le_refl _)]
          exact hp
        rwa [List.pairwise_map] at h2
      exact this
theorem tRows_cons (vs : List Value) (rss : List (List Int)) (k : Nat) (h1 : k < vs.length) (h2 : k < rss.length) : tRows (vs.drop k) (rss.drop k) = tOwn vs[k] rss[k] :: tRows (vs.drop (k + 1)) (rss.drop (k + 1)) := by
  unfold tRows
  rw [List.drop_eq_getElem_cons h1, List.drop_eq_getElem_cons h2]
  rfl
theorem filt_yes (L : List (List Int)) (p : List Int → Bool) (k : Nat) (hk : k < L.length) (h : p L[k] = true) : (L.take k).filter p ++ [L[k]] = (L.take (k + 1)).filter p := by
  rw [List.take_succ_eq_append_getElem hk, List.filter_append]
  simp [h]
theorem filt_no (L : List (List Int)) (p : List Int → Bool) (k : Nat) (hk : k < L.length) (h : p L[k] = false) : (L.take k).filter p = (L.take (k + 1)).filter p := by
  rw [List.take_succ_eq_append_getElem hk, List.filter_append]
  simp [h]

end Go.Proofs.Ytdimbnkgomfojab
end

section
namespace Go.Proofs.Ytdimbnkgomfojab
open Go.RowKit Go.WideShapes

theorem OwnM.form {w : World} {lo : Nat} {v : Value} {vs : List Value} {rss : List (List Int)} (h : OwnM w lo v vs rss) : ∃ a cap, v = .slice a vs.length cap ∧ ∀ k (hk : k < vs.length), ∃ g, a = some ⟨g, 0, none⟩ ∧ w.cell? ⟨g, k, none⟩ = some vs[k] := by
  rcases h.cases with ⟨rfl, rfl⟩ | ⟨g, cp, rfl, _⟩
  · exact ⟨none, 0, rfl, fun k hk => absurd hk (by simp)⟩
  · exact ⟨_, cp, rfl, fun k hk => ⟨g, rfl, h.cell k hk⟩⟩

/-- What a call answers that tells a list of lists. -/
structure MR where
  zz : List (List Int)
  ok : Bool
def AnsM (R : MR) (w : World) (e : Ending) (w' : World) : Prop := ∃ s v, e = .returned (.tuple #[s, .bool R.ok]) ∧ OwnM w' w.heap.size s v R.zz ∧ Below w.heap.size w w'
theorem own_freshM {w : World} {lo n : Nat} (h : w.ownsRow lo 22 1 (.slice (some ⟨lo, 0, none⟩) 0 n) 0 []) : OwnM w lo (.slice (some ⟨lo, 0, none⟩) 0 n) [] [] :=
  ⟨h, rfl, by simp, by simp, by simp⟩

end Go.Proofs.Ytdimbnkgomfojab
end
