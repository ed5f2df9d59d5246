/- Slices of bytes of the call's own; the text of a board, as bytes. No condition. -/
import Derived.Test.YtddmommamcgelabT3
import Derived.Laws.IdiomStrings
import Derived.Laws.Concat
namespace Go.Proofs.Ytddmommamcgelab
open Go.RowKit Go.WideShapes

theorem Try.infoY : (Try.prog.info? 5).map (fun i => (i.zero, i.size, i.bytes)) = some (some (.int .u8 0), 1, 1) := by kernel_rfl

/-- v is a slice of bytes of the call's own that holds bs. -/
def OwnY (w : World) (lo : Nat) (v : Value) (bs : List UInt8) : Prop := w.ownsRow lo 5 1 v bs.length (bs.map fun b => Value.int .u8 (b.toNat : Int))
theorem OwnY.cell {w : World} {lo g cap : Nat} {bs : List UInt8} (h : OwnY w lo (.slice (some ⟨g, 0, none⟩) bs.length cap) bs) (j : Nat) (hj : j < bs.length) :
    w.cell? ⟨g, j, none⟩ = some (.int .u8 (bs[j].toNat : Int)) := by
  rw [World.ownsRow.cellAt h j (by omega)]
  simp [hj]
theorem OwnY.lower {w : World} {lo lo' : Nat} {v : Value} {bs : List UInt8} (h : OwnY w lo v bs) (hl : lo' ≤ lo) : OwnY w lo' v bs := by
  refine ⟨h.1, ?_⟩
  rcases h.2 with h | ⟨g, cap, cur, e, hb, r⟩
  · exact .inl h
  · exact .inr ⟨g, cap, cur, e, by omega, r⟩
/-- .. as a thing. -/
def tY (s : Value) (bs : List UInt8) : Thing :=
  ⟨fun k => s.ownBlock = some k, fun w => OwnY w 0 s bs, fun _ _ _ hk h => by
    refine ⟨h.1, ?_⟩
    rcases h.2 with h2 | ⟨g, cap, cur, hv, hg, hh, r⟩
    · exact .inl h2
    · exact .inr ⟨g, cap, cur, hv, hg, by rw [hk g (by rw [hv]; rfl)]; exact hh, r⟩⟩
theorem Law.addY {w0 w w' : World} {ts : List Thing} (h : Law w0 ts w) (hb : Below w.heap.size w w') {s : Value} {bs : List UInt8} (hs : OwnY w' w.heap.size s bs) : Law w0 (tY s bs :: ts) w' :=
  h.add hb (tY s bs) (hs.lower (Nat.zero_le _)) (fun k hk => World.ownsRow.lt hs k hk)
theorem Law.ownY {w0 w : World} {s : Value} {bs : List UInt8} {ts : List Thing} (h : Law w0 (tY s bs :: ts) w) : OwnY w 0 s bs := h.hd

/-- append of one byte, where nothing is drawn. -/
theorem wp_appendY {w0 w : World} {ops : Array Oper} {rest : List Oper} {o : Oper} {a : Act} {Q : Exit → Act → World → Prop} (hgd : o.guard = none) (s x : Operand)
    (ho : o.op = .call { callee := .builtin .append, args := #[s, x], argTypes := #[44, 44] }) {ts : List Thing} {v : Value} {bs : List UInt8} (b : UInt8) (y : Int) (hy : y = (b.toNat : Int))
    (L : Law w0 (tY v bs :: ts) w) (g0 : Nat) (hs : a.eval s = v) (hx : a.eval x = .slice (some ⟨g0, 0, none⟩) 1 1) (hnew : w.cell? ⟨g0, 0, none⟩ = some (.int .u8 y)) (hl : bs.length + 1 ≤ 1048576) (bs' : List UInt8) (hbs : bs ++ [b] = bs')
    (h : ∀ g cap w', Law w0 (tY (.slice (some ⟨g, 0, none⟩) bs'.length cap) bs' :: ts) w' → wpList Try.prog ops Q rest (a.put o.dst (.slice (some ⟨g, 0, none⟩) bs'.length cap)) w') :
    wpList Try.prog ops Q (o :: rest) a w := by
  subst hy
  subst hbs
  obtain ⟨i0, hi, hz0, hz1, hz2⟩ := info_parts Try.infoY
  refine wpList_append_lies w hgd s x 44 ho 0 5 i0 (.int .u8 0) 1 1 Try.underlying44 hi hz0 hz1 hz2 rfl (by decide) v bs.length _ hs L.ownY ⟨g0, 0, none⟩ 1 1 [.int .u8 (b.toNat : Int)] hx rfl ?_ (by intro y hy; simp at hy; subst hy; rfl) (by decide) (by unfold maxLen; omega) (by omega) (Nat.zero_le _) _ rfl ?_
  · intro j y hy
    match j, hy with
    | 0, hy =>
      simp at hy
      subst hy
      rw [Addr.add_lit]
      exact hnew
  · intro g cap w' h1 h2 h3 h4
    have e : (bs ++ [b]).length = bs.length + 1 := by simp
    rw [← e] at h1
    have h5 := h g cap w'
    rw [e] at h5 h1
    refine h5 ?_
    have hO : OwnY w' 0 (.slice (some ⟨g, 0, none⟩) (bs.length + 1) cap) (bs ++ [b]) := by
      unfold OwnY
      rw [e, List.map_append]
      exact h1
    exact Law.write' (ts := []) L (Chg.of_grown h2 (fun _ e => e)) (tY _ (bs ++ [b])) (fun k hk => by
      have e : g = k := by simpa [tY, Value.ownBlock] using hk
      subst e
      rcases h3 with h3 | h3
      · exact .inl h3
      · exact .inr ⟨by omega, h4⟩) hO

/-- The bytes of a board's text. -/
def dig (xs : List Int) (i j : Nat) : UInt8 := if (xs.getD i 0).toNat.testBit j then 49 else 48
def digs (xs : List Int) (i j : Nat) : List UInt8 := (List.range j).map (dig xs i)
def sepT (i : Nat) : List UInt8 := if i = 0 then [] else [47]
def txR (xs : List Int) (m i : Nat) : List UInt8 := (List.range i).flatMap (fun a => sepT a ++ digs xs a m)
def txU (xs : List Int) (m i j : Nat) : List UInt8 := txR xs m i ++ sepT i ++ digs xs i j
theorem txR_zero (xs : List Int) (m : Nat) : txR xs m 0 = [] := rfl
theorem txU_first (xs : List Int) (m : Nat) : txU xs m 0 0 = txR xs m 0 := rfl
theorem txU_sep (xs : List Int) (m i : Nat) (h : i ≠ 0) : txR xs m i ++ [47] = txU xs m i 0 := by simp [txU, sepT, h, digs]
theorem txU_next (xs : List Int) (m i j : Nat) : txU xs m i j ++ [dig xs i j] = txU xs m i (j + 1) := by
  unfold txU digs
  rw [List.range_succ, List.map_append, List.append_assoc, List.append_assoc]
  simp
theorem txU_row (xs : List Int) (m i : Nat) : txU xs m i m = txR xs m (i + 1) := by
  unfold txU txR
  rw [List.range_succ, List.flatMap_append]
  simp
theorem txR_len (xs : List Int) (m i : Nat) : (txR xs m i).length ≤ i * (m + 1) := by
  induction i with
  | zero => simp [txR]
  | succ i ih =>
    rw [← txU_row]
    unfold txU digs sepT
    rw [List.length_append, List.length_append, List.length_map, List.length_range, Nat.succ_mul]
    split <;> simp <;> omega
theorem txU_len (xs : List Int) (m i j : Nat) (hi : i ≤ 6) (hm : m ≤ 6) (hj : j ≤ 6) : (txU xs m i j).length ≤ 100 := by
  have h := txR_len xs m i
  have h2 : i * (m + 1) ≤ 6 * 7 := Nat.mul_le_mul hi (by omega)
  unfold txU digs sepT
  rw [List.length_append, List.length_append, List.length_map, List.length_range]
  split <;> simp <;> omega
/-- The text of a board. -/
def txB (r c : Int) (xs : List Int) : ByteArray := ⟨(txR xs c.toNat r.toNat).toArray⟩

/-- What a call answers that tells a text. -/
structure SR where
  t : ByteArray
  ok : Bool
def AnsS (R : SR) (w : World) (e : Ending) (w' : World) : Prop := e = .returned (.tuple #[.string R.t, .bool R.ok]) ∧ Below w.heap.size w w'
def textB (r c : Int) (xs : List Int) : SR := if goodB r c xs then ⟨txB r c xs, true⟩ else ⟨⟨#[]⟩, false⟩

end Go.Proofs.Ytddmommamcgelab
