/- Maps keyed by series. No condition. -/
import Derived.Test.YthkghbnmdebhpabGe
import Derived.Test.YthkghbnmdebhpabOpen
import Derived.DeepKeys4
import Derived.WideKeyEntry
namespace Go.Proofs.Ythkghbnmdebhpab
open Go.RowKit Go.WideShapes

theorem serLaw : WideMaps.KeyLaw Try.prog 64 := Go.deep_law_laid Try.laidOut (m := 3) (by omega) (of_decide_eq_true (by kernel_rfl)) (by kernel_rfl) (by kernel_rfl)
theorem lit_one (d : Nat) (n : Int) (h : (Lit.int .i64 n).wf = true) : Try.prog.keyLits (d + 1) 3 [.int .i64 n] = some [.int .i64 n] := by
  unfold Program.keyLits
  simp only [Try.underlying3]
  rw [if_pos (by simp [h])]
theorem lit_six (d : Nat) (F : Nat → Int) (h : ∀ k, (Lit.int .i64 (F k)).wf = true) : Try.prog.keyLits (d + 2) 56 [.int .i64 (F 0), .int .i64 (F 1), .int .i64 (F 2), .int .i64 (F 3), .int .i64 (F 4), .int .i64 (F 5)] = some [.int .i64 (F 0), .int .i64 (F 1), .int .i64 (F 2), .int .i64 (F 3), .int .i64 (F 4), .int .i64 (F 5)] := by
  have h1 : Try.prog.cellsOf 3 = 1 := by kernel_rfl
  have h6 : Try.prog.cellsOf 56 = 6 := by kernel_rfl
  unfold Program.keyLits
  simp only [Try.underlying56]
  rw [if_pos (by rw [h6]; rfl), h1, show List.range 6 = [0, 1, 2, 3, 4, 5] from rfl]
  simp [List.mapM_cons, lit_one, h]
theorem serKey (n : Int) (F : Nat → Int) (hn : (Lit.int .i64 n).wf = true) (h : ∀ k, (Lit.int .i64 (F k)).wf = true) : ∃ l, Go.keyOf Try.prog 64 (sv n F) = some l := by
  have h1 : Try.prog.cellsOf 3 = 1 := by kernel_rfl
  have h6 : Try.prog.cellsOf 56 = 6 := by kernel_rfl
  have h7 : Try.prog.cellsOf 64 = 7 := by kernel_rfl
  have hk : Try.prog.keyType 64 = true := by kernel_rfl
  have hs : 2 ≤ Try.prog.types.size := of_decide_eq_true (by kernel_rfl)
  obtain ⟨m, hm⟩ : ∃ m, Try.prog.types.size = m + 2 := ⟨Try.prog.types.size - 2, by omega⟩
  refine ⟨.string (keyBytes [.int .i64 n, .int .i64 (F 0), .int .i64 (F 1), .int .i64 (F 2), .int .i64 (F 3), .int .i64 (F 4), .int .i64 (F 5)]), ?_⟩
  unfold keyOf
  simp only [Try.underlying64]
  rw [if_pos (by simp [hk, Value.formed, Try.underlying64, h7]), hm]
  unfold Program.keyLits
  simp only [Try.underlying64, Value.cells]
  rw [if_pos (by rw [h7]; exact ⟨rfl, by simp⟩)]
  simp [List.mapM_cons, lit_one, lit_six, h, hn, h1, h6]
theorem wf_small (x : Int) (h : -1000000 ≤ x ∧ x ≤ 1000000) : (Lit.int .i64 x).wf = true := by
  have h1 : IntKind.min .i64 = -9223372036854775808 := by decide
  have h2 : IntKind.max .i64 = 9223372036854775807 := by decide
  simp only [Lit.wf, h1, h2, Bool.and_eq_true, decide_eq_true_eq]
  omega
theorem Try.zeroV69 (w : World) : (zeroValue 69).run Try.prog w = .ok (.slice none 0 0) w := by kernel_rfl

/-- The entries' keys and values. -/
def kv (es : Array MapEntry) : List (Value × Value) := es.toList.map fun e => (e.key, e.val)
open Classical in
/-- A key's value put in place of the elder one, or behind all. -/
noncomputable def putV (l : List (Value × Value)) (key val : Value) : List (Value × Value) := if key ∈ l.map Prod.fst then l.map (fun p => if p.1 = key then (p.1, val) else p) else l ++ [(key, val)]

section
open Go.ChangeMaps Go.WideElems Go.MapKept
theorem kv_push (es : Array MapEntry) (e : MapEntry) : kv (es.push e) = kv es ++ [(e.key, e.val)] := by simp [kv]
theorem kv_keys (es : Array MapEntry) : (kv es).map Prod.fst = es.toList.map (·.key) := by simp [kv]
theorem kv_modify {es : Array MapEntry} (hnd : (es.toList.map (·.key)).Nodup) {j : Nat} {e0 : MapEntry} (h : es.toList[j]? = some e0) (val : Value) :
    kv (es.modify j (fun e => { e with key := e0.key, val := val })) = putV (kv es) e0.key val := by
  have hm : e0.key ∈ (kv es).map Prod.fst := by
    rw [kv_keys]
    exact List.mem_map.2 ⟨e0, List.mem_of_getElem? h, rfl⟩
  unfold putV
  rw [if_pos hm]
  unfold kv
  rw [Array.toList_modify]
  apply List.ext_getElem?
  intro i
  rw [List.getElem?_map, List.getElem?_map, List.getElem?_map, List.getElem?_modify]
  rcases hi : es.toList[i]? with _ | e
  · simp
  · by_cases hij : j = i
    · subst hij
      rw [h] at hi
      cases hi
      simp
    · have : e.key ≠ e0.key := fun e1 => by
        obtain ⟨a1, a2⟩ := List.getElem?_eq_some_iff.1 h
        obtain ⟨b1, b2⟩ := List.getElem?_eq_some_iff.1 hi
        have hp : ∀ p q (hp : p < es.toList.length) (hq : q < es.toList.length), p < q → es.toList[p].key ≠ es.toList[q].key := by
          have h0 := List.pairwise_iff_getElem.1 (List.pairwise_map.1 hnd)
          exact fun p q hp hq hpq => h0 p q hp hq hpq
        rcases Nat.lt_or_gt_of_ne hij with hlt | hlt
        · exact hp j i a1 b1 hlt (by rw [a2, b2, e1])
        · exact hp i j b1 a1 hlt (by rw [a2, b2, e1])
      simp [hij, this]

/-- 'm[k]' taken for an entry, and its store. -/
theorem entry_run {w : World} {b : Nat} {es : Array MapEntry} {clock : Nat} {T : TypeId} (hT : Try.prog.underlying T = some (.map 64 69)) (hb : w.heap[b]? = some (.map es clock)) (hs : Stamped es clock)
    (hks : ∀ e ∈ es.toList, ∃ l, Go.keyOf Try.prog 64 e.key = some l) {key : Value} (hkey : ∃ l, Go.keyOf Try.prog 64 key = some l) (hsz : es.size ≤ maxLen) :
    ∃ (v0 : Value) (st : Nat) (es1 : Array MapEntry) (clock1 : Nat), (Instr.mapEntry T (.map (some b)) key).run Try.prog w = .ok (.tuple #[v0, goInt st]) (setBlock w b (.map es1 clock1)) ∧
      ((key, v0) ∈ kv es ∨ (key ∉ (kv es).map Prod.fst ∧ v0 = .slice none 0 0)) ∧
      ∀ (w2 : World) (val : Value), w2.heap[b]? = some (.map es1 clock1) → ∃ es' clock', (Instr.entryStore T (.map (some b)) (goInt st) val).run Try.prog w2 = .ok () (setBlock w2 b (.map es' clock')) ∧
        kv es' = putV (kv es) key val ∧ Stamped es' clock' ∧ es'.size ≤ es.size + 1 := by
  obtain ⟨kl, hkl⟩ := hkey
  have hd : DataW Unit := .nil
  have F : Fit Try.prog 64 (fun _ => some (hd, [])) es clock := ⟨hsz, hs, fun x hx => by
    obtain ⟨l, hl⟩ := hks x hx
    exact ⟨(l, hd), by simp [WideElems.rd, hl]⟩⟩
  obtain ⟨v0, st, es1, clock1, h1, h2, h3⟩ := entry_then_store serLaw hT (z := .slice none 0 0) (fun u => Try.zeroV69 u) hb F hkl
  refine ⟨v0, st, es1, clock1, h1, ?_, ?_⟩
  · rcases h2 with ⟨e0, m, rfl, rfl⟩ | ⟨m, rfl⟩
    · exact .inl (List.mem_map.2 ⟨e0, m, rfl⟩)
    · refine .inr ⟨fun hm => ?_, rfl⟩
      rw [kv_keys] at hm
      obtain ⟨e, he, e1⟩ := List.mem_map.1 hm
      exact m e he e1
  · intro w2 val hw2
    obtain ⟨es', clock', r1, r2⟩ := h3 w2 val hw2
    refine ⟨es', clock', r1, ?_⟩
    have inj : ∀ {X : Array MapEntry} {c : Nat}, (Instr.mapUpdate T (.map (some b)) key val).run Try.prog w = .ok () (setBlock w b (.map X c)) → es' = X ∧ clock' = c := fun {X c} hX => by
      rw [r2] at hX
      injection hX with _ hX
      have hlt := (Array.getElem?_eq_some_iff.1 hb).1
      have e1 : (setBlock w b (.map es' clock')).heap[b]? = (setBlock w b (.map X c)).heap[b]? := by rw [hX]
      simp only [setBlock] at e1
      rw [Array.getElem?_setIfInBounds_self_of_lt hlt, Array.getElem?_setIfInBounds_self_of_lt hlt] at e1
      injection e1 with e1
      injection e1 with e1 e2
      exact ⟨e1, e2⟩
    rcases serLaw.find w hkl es.toList hks with ⟨f1, f2⟩ | ⟨j, e0, f1, f2, f3⟩
    · obtain ⟨rfl, rfl⟩ := inj (X := es.push ⟨key, val, clock⟩) (c := clock + 1) (by
        simp [Instr.mapUpdate, run_underlying hT, MapKept.run_getObj_map hb, serLaw.check w false hkl, f1, MapKept.run_setObj_map _ hb, Result.andThen, setBlock])
      refine ⟨?_, MapKept.stamped_push hs f2, by simp⟩
      rw [kv_push]
      unfold putV
      rw [if_neg]
      rw [kv_keys]
      intro hm
      obtain ⟨e, he, e1⟩ := List.mem_map.1 hm
      exact f2 e he e1
    · subst f3
      obtain ⟨rfl, rfl⟩ := inj (X := es.modify j (fun e => { e with key := e0.key, val := val })) (c := clock) (by
        have hj : es[j]? = some e0 := by simpa using f2
        simp [Instr.mapUpdate, run_underlying hT, MapKept.run_getObj_map hb, serLaw.check w false hkl, f1, hj, serLaw.stays w hkl, MapKept.run_setObj_map _ hb, Result.andThen, setBlock])
      refine ⟨kv_modify hs.2.2 f2 val, MapKept.stamped_modify hs j _ (fun e _ => rfl) (fun e _ he => ?_), by simp⟩
      have hj : es[j]? = some e0 := by simpa using f2
      rw [hj] at he
      cases he
      rfl
end

end Go.Proofs.Ythkghbnmdebhpab
