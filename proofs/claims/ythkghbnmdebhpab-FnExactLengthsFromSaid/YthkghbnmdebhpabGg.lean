/- Lists grouped by their factors in a map of the call's own. No condition. -/
import Derived.Test.YthkghbnmdebhpabGf
namespace Go.Proofs.Ythkghbnmdebhpab
open Go.RowKit Go.WideShapes Go.ChangeMaps Go.MapKept

def tMap (b : Nat) (l : List (Value × Value)) : Thing :=
  ⟨fun k => k = b, fun w => ∃ es clock, w.heap[b]? = some (.map es clock) ∧ Stamped es clock ∧ kv es = l, fun _ _ _ hk ⟨es, c, h, r⟩ => ⟨es, c, (hk b rfl).trans h, r⟩⟩
def tMid (b : Nat) (es : Array MapEntry) (clock : Nat) : Thing :=
  ⟨fun k => k = b, fun w => w.heap[b]? = some (.map es clock), fun _ _ _ hk h => (hk b rfl).trans h⟩
/-- A class: its factors, its value, its lists. -/
abbrev Cls := List Int × Value × List (List Int)
def kvG (n : Nat) (g : Cls) : Value × Value := (sv n (fl g.1), g.2.1)
def tG (n : Nat) (g : Cls) : Thing := tS g.2.1 n g.2.2
def tGr (b n : Nat) (gs : List Cls) : List Thing := tMap b (gs.map (kvG n)) :: gs.map (tG n)
abbrev byF (D : List (List Int)) (f : List Int) : List (List Int) := D.filter fun Q => decide (facs Q = f)
structure Good (n : Nat) (D : List (List Int)) (gs : List Cls) : Prop where
  nd : (gs.map (·.1)).Nodup
  len : ∀ g ∈ gs, g.1.length = n
  bd : ∀ g ∈ gs, ∀ k, -1000 ≤ g.1.getD k 0 ∧ g.1.getD k 0 ≤ 1000
  cnt : gs.length ≤ D.length
  same : ∀ g ∈ gs, g.2.2 = byF D g.1
  cover : ∀ f, f ∉ gs.map (·.1) → byF D f = []
theorem Good.nil (n : Nat) : Good n [] [] := ⟨by simp, by simp, by simp, by simp, by simp, by simp⟩

theorem chg_block (w : World) (b : Nat) (o : Obj) : Chg (fun k => k = b) w (setBlock w b o) :=
  ⟨rfl, rfl, rfl, by simp [setBlock], fun k _ hf => by
    show (w.heap.setIfInBounds b o)[k]? = _
    rw [Array.getElem?_setIfInBounds_ne (fun e => hf e.symm)]⟩
theorem at_block {w : World} {b : Nat} (h : b < w.heap.size) (o : Obj) : (setBlock w b o).heap[b]? = some o := by
  show (w.heap.setIfInBounds b o)[b]? = _
  rw [Array.getElem?_setIfInBounds_self_of_lt h]
theorem Law.subG {w0 w : World} {t : Thing} {A B : List Thing} (h : Law w0 (A ++ t :: B) w) : Law w0 (A ++ B) w := (h.perm List.perm_middle).tl
theorem sv_inj {n : Nat} (hn : n ≤ 6) {f g : List Int} (hf : f.length = n) (hg : g.length = n) (h : sv n (fl f) = sv n (fl g)) : f = g := by
  have hk : ∀ k, k < 6 → fl f k = fl g k := by
    have h1 := congrArg (fun v => match v with | Value.agg xs => xs.toList | _ => []) h
    simp only [List.cons.injEq, Value.int.injEq, true_and, and_true] at h1
    obtain ⟨a0, a1, a2, a3, a4, a5⟩ := h1
    intro k hk
    match k, hk with
    | 0, _ => exact a0
    | 1, _ => exact a1
    | 2, _ => exact a2
    | 3, _ => exact a3
    | 4, _ => exact a4
    | 5, _ => exact a5
  apply List.ext_getElem (by rw [hf, hg])
  intro k h1 h2
  have := hk k (by omega)
  simpa [fl, List.getD, h1, h2] using this
theorem key_of {n : Nat} (hn : n ≤ 6) {f : List Int} (hb : ∀ k, -1000 ≤ f.getD k 0 ∧ f.getD k 0 ≤ 1000) : ∃ l, Go.keyOf Try.prog 64 (sv n (fl f)) = some l :=
  serKey _ _ (wf_small _ (by omega)) (fun k => wf_small _ (by have := hb k; simp only [fl]; omega))
theorem byF_same {D : List (List Int)} {Q f : List Int} (h : f ≠ facs Q) : byF (D ++ [Q]) f = byF D f := by
  have h2 : ¬ facs Q = f := fun e => h e.symm
  simp [byF, List.filter_append, h2]
theorem byF_more (D : List (List Int)) (Q : List Int) : byF (D ++ [Q]) (facs Q) = byF D (facs Q) ++ [Q] := by
  simp [byF, List.filter_append]
open Classical in
theorem put_skip {A : List (Value × Value)} {key val : Value} (h : ∀ p ∈ A, p.1 ≠ key) : A.map (fun p => if p.1 = key then (p.1, val) else p) = A := by
  have : A.map (fun p => if p.1 = key then (p.1, val) else p) = A.map id := List.map_congr_left (fun p hp => by rw [if_neg (h p hp)]; rfl)
  rw [this, List.map_id]

theorem Law.map {w0 w : World} {b n : Nat} {gs : List Cls} {ts : List Thing} (L : Law w0 (tGr b n gs ++ ts) w) : ∃ es clock, w.heap[b]? = some (.map es clock) ∧ Stamped es clock ∧ kv es = gs.map (kvG n) := L.holds (tMap b (gs.map (kvG n))) (by simp [tGr])

/-- The entry of one list's class, and its store. -/
theorem Law.entryG {w0 w : World} {ts : List Thing} {T : TypeId} (hT : Try.prog.underlying T = some (.map 64 69)) {b n : Nat} {D : List (List Int)} {gs : List Cls} (L : Law w0 (tGr b n gs ++ ts) w) (hn : n ≤ 6)
    (H : Good n D gs) (hD : D.length ≤ 1000000) (Q : List Int) (hQ : Q.length = n) (hQb : ∀ k, -1000 ≤ (facs Q).getD k 0 ∧ (facs Q).getD k 0 ≤ 1000) :
    ∃ v0 st w1 es1 clock1 R, (Instr.mapEntry T (.map (some b)) (sv n (fl (facs Q)))).run Try.prog w = .ok (.tuple #[v0, goInt ((st : Nat) : Int)]) w1 ∧ Law w0 (tS v0 n (byF D (facs Q)) :: tMid b es1 clock1 :: (R ++ ts)) w1 ∧
      Hid (∀ v' w2, Law w0 (tS v' n (byF D (facs Q) ++ [Q]) :: tMid b es1 clock1 :: (R ++ ts)) w2 → ∃ w3 gs', (Instr.entryStore T (.map (some b)) (goInt st) v').run Try.prog w2 = .ok () w3 ∧ Good n (D ++ [Q]) gs' ∧ Law w0 (tGr b n gs' ++ ts) w3) := by
  obtain ⟨es, clock, hb, hst, hkv⟩ := L.map
  have hlt := (Array.getElem?_eq_some_iff.1 hb).1
  have hfl : (facs Q).length = n := by rw [facs_len, hQ]
  have hsz : es.size = gs.length := by
    have := congrArg List.length hkv
    simpa [kv] using this
  have hcnt := H.cnt
  have hks : ∀ e ∈ es.toList, ∃ l, Go.keyOf Try.prog 64 e.key = some l := fun e he => by
    have : (e.key, e.val) ∈ gs.map (kvG n) := by rw [← hkv]; exact List.mem_map.2 ⟨e, he, rfl⟩
    obtain ⟨g, hg, e1⟩ := List.mem_map.1 this
    simp only [kvG, Prod.mk.injEq] at e1
    rw [← e1.1]
    exact key_of hn (H.bd g hg)
  obtain ⟨v0, st, es1, clock1, r1, r2, r3⟩ := entry_run hT hb hst hks (key_of hn hQb) (by unfold maxLen; omega)
  rw [hkv] at r2 r3
  rcases r2 with hm | ⟨hm, rfl⟩
  · obtain ⟨g, hg, e1⟩ := List.mem_map.1 hm
    simp only [kvG, Prod.mk.injEq] at e1
    obtain ⟨e1, rfl⟩ := e1
    have hgf : g.1 = facs Q := sv_inj hn (H.len g hg) hfl e1
    obtain ⟨A, B, rfl⟩ := List.append_of_mem hg
    have hnd := H.nd
    rw [List.map_append, List.map_cons, List.nodup_append, List.nodup_cons] at hnd
    obtain ⟨_, ⟨hB, _⟩, hA⟩ := hnd
    have hAn : ∀ x ∈ A, x.1 ≠ facs Q := fun x hx e => hA x.1 (List.mem_map.2 ⟨x, hx, rfl⟩) g.1 (by simp) (by rw [e, hgf])
    have hBn : ∀ x ∈ B, x.1 ≠ facs Q := fun x hx e => hB (List.mem_map.2 ⟨x, hx, by rw [e, hgf]⟩)
    have hgD : g.2.2 = byF D (facs Q) := by rw [H.same g (by simp), hgf]
    have L1 := L.perm (ts' := tS g.2.1 n (byF D (facs Q)) :: tMap b ((A ++ g :: B).map (kvG n)) :: ((A.map (tG n) ++ B.map (tG n)) ++ ts)) (by
      rw [← hgD]
      show (tGr b n (A ++ g :: B) ++ ts).Perm (tG n g :: _)
      simp only [tGr, List.map_append, List.map_cons, List.cons_append, List.append_assoc]
      refine List.Perm.trans (List.Perm.cons _ List.perm_middle) (List.Perm.swap ..))
    have L2 := Law.write (ts := [_]) L1 (chg_block w b (.map es1 clock1)) (tMid b es1 clock1) rfl (at_block hlt _)
    refine ⟨g.2.1, st, _, es1, clock1, _, r1, L2, Lib.hid (fun v' w2 L3 => ?_)⟩
    have hw2 : w2.heap[b]? = some (.map es1 clock1) := L3.holds (tMid b es1 clock1) (by simp)
    obtain ⟨es', clock', s1, s2, s3, _⟩ := r3 w2 v' hw2
    have hlt2 := (Array.getElem?_eq_some_iff.1 hw2).1
    refine ⟨_, A ++ (facs Q, v', byF D (facs Q) ++ [Q]) :: B, s1, ?_, ?_⟩
    · refine ⟨?_, ?_, ?_, ?_, ?_, ?_⟩
      · have := H.nd
        simpa [hgf] using this
      · intro x hx
        simp only [List.mem_append, List.mem_cons] at hx
        rcases hx with hx | rfl | hx
        · exact H.len x (by simp [hx])
        · exact hfl
        · exact H.len x (by simp [hx])
      · intro x hx
        simp only [List.mem_append, List.mem_cons] at hx
        rcases hx with hx | rfl | hx
        · exact H.bd x (by simp [hx])
        · exact hQb
        · exact H.bd x (by simp [hx])
      · simp only [List.length_append, List.length_cons, List.length_nil] at hcnt ⊢
        omega
      · intro x hx
        simp only [List.mem_append, List.mem_cons] at hx
        rcases hx with hx | rfl | hx
        · rw [byF_same (hAn x hx)]; exact H.same x (by simp [hx])
        · exact (byF_more D Q).symm
        · rw [byF_same (hBn x hx)]; exact H.same x (by simp [hx])
      · intro f hf
        have hne : f ≠ facs Q := fun e => hf (by simp [e])
        rw [byF_same hne]
        refine H.cover f (fun h => hf ?_)
        simpa [hgf] using h
    · have L4 := Law.write (ts := [_]) L3 (chg_block w2 b (.map es' clock')) (tMap b ((A ++ (facs Q, v', byF D (facs Q) ++ [Q]) :: B).map (kvG n))) rfl ⟨es', clock', at_block hlt2 _, s3, by
        rw [s2]
        unfold putV
        rw [if_pos (by rw [← e1]; simp [kvG])]
        simp only [List.map_append, List.map_cons]
        rw [put_skip (fun p hp => ?_), put_skip (fun p hp => ?_)]
        · simp [kvG, e1]
        · obtain ⟨x, hx, rfl⟩ := List.mem_map.1 hp
          exact fun e => hBn x hx (sv_inj hn (H.len x (by simp [hx])) hfl e)
        · obtain ⟨x, hx, rfl⟩ := List.mem_map.1 hp
          exact fun e => hAn x hx (sv_inj hn (H.len x (by simp [hx])) hfl e)⟩
      refine L4.perm ?_
      show (tG n (facs Q, v', byF D (facs Q) ++ [Q]) :: _).Perm _
      simp only [tGr, List.map_append, List.map_cons, List.cons_append, List.append_assoc]
      exact (List.Perm.trans (List.Perm.cons _ List.perm_middle) (List.Perm.swap ..)).symm
  · have hnf : facs Q ∉ gs.map (·.1) := fun h => hm (by
      obtain ⟨g, hg, e⟩ := List.mem_map.1 h
      exact List.mem_map.2 ⟨_, List.mem_map.2 ⟨g, hg, rfl⟩, by simp [kvG, e]⟩)
    have h0 := H.cover _ hnf
    have L1 := Law.write (ts := []) L (chg_block w b (.map es1 clock1)) (tMid b es1 clock1) rfl (at_block hlt _)
    have L2 := L1.addS (Below.refl _ _) (OwnS.nil _ _ n)
    rw [h0]
    refine ⟨.slice none 0 0, st, _, es1, clock1, gs.map (tG n), r1, L2, Lib.hid (fun v' w2 L3 => ?_)⟩
    have hw2 : w2.heap[b]? = some (.map es1 clock1) := L3.holds (tMid b es1 clock1) (by simp)
    obtain ⟨es', clock', s1, s2, s3, _⟩ := r3 w2 v' hw2
    have hlt2 := (Array.getElem?_eq_some_iff.1 hw2).1
    refine ⟨_, gs ++ [(facs Q, v', [Q])], s1, ?_, ?_⟩
    · refine ⟨?_, ?_, ?_, ?_, ?_, ?_⟩
      · rw [List.map_append, List.nodup_append]
        refine ⟨H.nd, by simp, fun x hx y hy e => ?_⟩
        simp at hy
        subst hy
        subst e
        exact hnf hx
      · intro x hx
        simp only [List.mem_append, List.mem_cons, List.not_mem_nil, or_false] at hx
        rcases hx with hx | rfl
        · exact H.len x hx
        · exact hfl
      · intro x hx
        simp only [List.mem_append, List.mem_cons, List.not_mem_nil, or_false] at hx
        rcases hx with hx | rfl
        · exact H.bd x hx
        · exact hQb
      · simp only [List.length_append, List.length_cons, List.length_nil]
        omega
      · intro x hx
        simp only [List.mem_append, List.mem_cons, List.not_mem_nil, or_false] at hx
        rcases hx with hx | rfl
        · rw [byF_same (fun e => hnf (List.mem_map.2 ⟨x, hx, e⟩))]; exact H.same x hx
        · show [Q] = byF (D ++ [Q]) (facs Q)
          rw [byF_more, h0]
          rfl
      · intro f hf
        simp only [List.map_append, List.mem_append, List.map_cons, List.map_nil, List.mem_cons, List.not_mem_nil, or_false, not_or] at hf
        rw [byF_same hf.2]
        exact H.cover f hf.1
    · have L4 := Law.write (ts := [_]) L3 (chg_block w2 b (.map es' clock')) (tMap b ((gs ++ [(facs Q, v', [Q])]).map (kvG n))) rfl ⟨es', clock', at_block hlt2 _, s3, by
        rw [s2]
        unfold putV
        rw [if_neg hm]
        simp [kvG]⟩
      refine L4.perm ?_
      show (tG n (facs Q, v', [Q]) :: _).Perm _
      simp only [tGr, List.map_append, List.map_cons, List.map_nil, List.cons_append, List.append_assoc, List.nil_append]
      exact (List.Perm.trans (List.Perm.cons _ List.perm_middle) (List.Perm.swap ..)).symm

/-- A class looked up. -/
theorem Law.lookG {w0 w : World} {ts : List Thing} {T : TypeId} (hT : Try.prog.underlying T = some (.map 64 69)) {b n : Nat} {D : List (List Int)} {gs : List Cls} (L : Law w0 (tGr b n gs ++ ts) w) (hn : n ≤ 6)
    (H : Good n D gs) (f : List Int) (hf : f.length = n) (hfb : ∀ k, -1000 ≤ f.getD k 0 ∧ f.getD k 0 ≤ 1000) :
    ∃ v, (Instr.lookup T (.map (some b)) (sv n (fl f)) false).run Try.prog w = .ok v w ∧ OwnS w w0.heap.size v n (byF D f) := by
  obtain ⟨es, clock, hb, hst, hkv⟩ := L.map
  have hks : ∀ e ∈ es.toList, ∃ l, Go.keyOf Try.prog 64 e.key = some l := fun e he => by
    have : (e.key, e.val) ∈ gs.map (kvG n) := by rw [← hkv]; exact List.mem_map.2 ⟨e, he, rfl⟩
    obtain ⟨g, hg, e1⟩ := List.mem_map.1 this
    simp only [kvG, Prod.mk.injEq] at e1
    rw [← e1.1]
    exact key_of hn (H.bd g hg)
  obtain ⟨kl, hkl⟩ := key_of (n := n) hn hfb
  rcases serLaw.find w hkl es.toList hks with ⟨f1, f2⟩ | ⟨j, e0, f1, f2, f3⟩
  · refine ⟨.slice none 0 0, by simp [Instr.lookup, run_underlying hT, MapKept.run_getObj_map hb, serLaw.check w _ hkl, f1, Result.andThen], ?_⟩
    rw [H.cover f]
    · exact OwnS.nil _ _ _
    · intro h
      obtain ⟨g, hg, e⟩ := List.mem_map.1 h
      have : kvG n g ∈ kv es := by rw [hkv]; exact List.mem_map.2 ⟨g, hg, rfl⟩
      obtain ⟨x, hx, e1⟩ := List.mem_map.1 this
      simp only [kvG, Prod.mk.injEq] at e1
      exact f2 x hx (by rw [e1.1, e])
  · refine ⟨e0.val, by simp [Instr.lookup, run_underlying hT, MapKept.run_getObj_map hb, serLaw.check w _ hkl, f1, Result.andThen], ?_⟩
    have : (e0.key, e0.val) ∈ gs.map (kvG n) := by rw [← hkv]; exact List.mem_map.2 ⟨e0, List.mem_of_getElem? f2, rfl⟩
    obtain ⟨g, hg, e1⟩ := List.mem_map.1 this
    simp only [kvG, Prod.mk.injEq] at e1
    have hgf : g.1 = f := sv_inj hn (H.len g hg) hf (by rw [e1.1, f3])
    rw [← e1.2, ← hgf, ← H.same g hg]
    obtain ⟨A, B, rfl⟩ := List.append_of_mem hg
    refine ownS_lo (ts := tMap b ((A ++ g :: B).map (kvG n)) :: (A.map (tG n) ++ B.map (tG n) ++ ts)) (L.perm ?_)
    show (tGr b n (A ++ g :: B) ++ ts).Perm (tG n g :: _)
    simp only [tGr, List.map_append, List.map_cons, List.cons_append, List.append_assoc]
    exact List.Perm.trans (List.Perm.cons _ List.perm_middle) (List.Perm.swap ..)

end Go.Proofs.Ythkghbnmdebhpab
