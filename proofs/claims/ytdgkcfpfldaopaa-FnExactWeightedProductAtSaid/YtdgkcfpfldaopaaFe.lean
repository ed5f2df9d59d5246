/- Factors, in the specification. No condition but the sizes. -/
import Derived.Test.YtdgkcfpfldaopaaFu
import Derived.Test.YtdgkcfpfldaopaaFn
namespace Go.Proofs.Ytdgkcfpfldaopaa
open Go.RowKit Go.WideShapes

theorem facU_snoc (xs : List Int) (k : Nat) (h : k < xs.length) : (facU xs).take k ++ [xs.getD k 0 - k] = (facU xs).take (k + 1) := by
  rw [List.take_succ_eq_append_getElem (by rw [facU_len]; exact h)]
  have := facU_get xs k h
  rw [← this]
  simp [List.getD, facU_len, h]

set_option maxRecDepth 100000 in
set_option maxHeartbeats 1600000 in
theorem feFactors_any (a : Option Addr) (pc : Nat) (xs : List Int) (w : World) (h6 : xs.length ≤ 1000) (hbd : ∀ k, -1000 ≤ xs.getD k 0 ∧ xs.getD k 0 ≤ 1000) (hr : Reads w a xs.length xs) :
    Calls Try.prog 85 #[.slice a xs.length pc] w fun e w' => ∃ v, e = .returned v ∧ Own w' w.heap.size v (facs xs) ∧ Below w.heap.size w w' := by
  go_enter Try.func85, Try.ntmps85
  go_wp2_with fail
  go_loopw [3, 8] (fun o i wr => ∃ k : Nat, k ≤ xs.length ∧ i = .int .i64 k ∧ Law w [tOwn o ((facU xs).take k)] wr) (fun _ i _ => xs.length - (intOf i).toNat)
  case atStart => exact ⟨0, Nat.zero_le _, rfl, by simpa using (Law.start w).own (Below.refl _ _) (Own.nil w _)⟩
  case round =>
    obtain ⟨k, hk, rfl, L⟩ := hrel
    obtain ⟨wo, rfl⟩ : ∃ wo : World, wo = wr := ⟨_, rfl⟩
    by_cases hlt : k < xs.length
    · obtain ⟨b, off, rfl, hbl, hc⟩ := reads_row (L.reads hr) (by omega)
      have hck := hc k hlt
      have hsn := facU_snoc xs k hlt
      have hx := hbd k
      have hl : ((facU xs).take k).length = k := by rw [List.length_take, facU_len]; omega
      generalize xs.getD k 0 = x at *
      have hw : IntKind.i64.wrap (x - k) = x - k := IntWalk.i64_in _ (by omega)
      have L2 := L.kept (below_new (.cells #[.int .i64 (x - k)] 3))
      have HL := Lib.hid L2
      have HX := Lib.hid (show (wo.alloc (.cells #[.int .i64 (x - k)] 3)).cell? ⟨wo.heap.size, 0, none⟩ = some (.int .i64 (x - k)) by rw [World.cell?_alloc_at _ _ _ _ rfl]; rfl)
      have HS := Lib.hid hsn
      have HK := Lib.hid hl
      clear L L2 hc hbl hx hsn hl hbd
      go_wp2_with (at_builtin; refine wp_appendI rfl _ _ rfl (x - k) HL.out wo.heap.size rfl rfl HX.out (by rw [HK.out]; omega) ((facU xs).take (k + 1)) HS.out ?_)
      intro g1 cap1 w3 L3
      have HL3 := Lib.hid L3
      clear L3 HL HX
      go_wp2_with fail
      go_roundw
      case rel => exact ⟨k + 1, by omega, by go_num, HL3.out⟩
      case measure => simp [intOf]; omega
    · obtain rfl : k = xs.length := by omega
      have e : (facU xs).take xs.length = facU xs := List.take_of_length_le (by rw [facU_len]; omega)
      rw [e] at L
      have hlen := facU_len xs
      obtain ⟨ao, po, rfl, ho⟩ := L.ownInts.reads
      have hc := feSorted_any ao po (facU xs) wo (by omega) ho
      rw [hlen] at hc L ⊢
      have HL := Lib.hid L
      have HC := Lib.hid hc
      clear L hc hlen ho e hlt
      go_wp2_with fail
      refine HC.out.mono ?_
      rintro e w2 ⟨v, rfl, hO, hb⟩
      have HF := Lib.hid (And.intro (hO.lower HL.out.below.size) (HL.out.kept hb).below)
      clear HL hO hb HC
      go_wp2_with fail
      go_ret
      exact ⟨_, rfl, HF.out.1, HF.out.2⟩

theorem len_bd {xs : List Int} (h : lenB xs = true) (k : Nat) : -1000 ≤ xs.getD k 0 ∧ xs.getD k 0 ≤ 1000 := by
  have := (len_facts h).2.2.1 k
  omega

end Go.Proofs.Ytdgkcfpfldaopaa
