/- PartitionText: both texts. No condition but the sizes. -/
import Derived.Test.YtddmommamcgelabZo
import Derived.Test.YtddmommamcgelabZl
import Derived.Test.YtddmommamcgelabBy
import Derived.IntWalk
namespace Go.Proofs.Ytddmommamcgelab
open Go.RowKit Go.WideShapes

def dgZ (x : Int) : UInt8 := UInt8.ofNat (48 + x.toNat)
theorem dgZ_val (c : Nat) (h : c < 6) : (dgZ (c : Int)).toNat = 48 + c := by
  unfold dgZ
  rw [Int.toNat_natCast, UInt8.toNat_ofNat']
  omega
def sepZ (i : Nat) : List UInt8 := if i = 0 then [] else [124]
def txZ (zz : List (List Int)) (i : Nat) : List UInt8 := (List.range i).flatMap (fun a => sepZ a ++ (rowZ zz a).map dgZ)
def txW (zz : List (List Int)) (i k : Nat) : List UInt8 := txZ zz i ++ sepZ i ++ ((rowZ zz i).take k).map dgZ
theorem txW_first (zz : List (List Int)) (i : Nat) (h : i = 0) : txW zz i 0 = txZ zz i := by subst h; simp [txW, sepZ]
theorem txW_sep (zz : List (List Int)) (i : Nat) (h : i ≠ 0) : txZ zz i ++ [124] = txW zz i 0 := by simp [txW, sepZ, h]
theorem txW_next (zz : List (List Int)) (i k : Nat) (hk : k < (rowZ zz i).length) : txW zz i k ++ [dgZ ((rowZ zz i).getD k 0)] = txW zz i (k + 1) := by
  unfold txW
  rw [List.append_assoc]
  congr 1
  rw [List.take_succ_eq_append_getElem hk, List.map_append]
  simp [List.getD, hk]
theorem txW_row (zz : List (List Int)) (i : Nat) : txW zz i (rowZ zz i).length = txZ zz (i + 1) := by
  unfold txW txZ
  rw [List.take_length, List.range_succ, List.flatMap_append]
  simp
theorem txZ_len (zz : List (List Int)) (i : Nat) (h : i ≤ zz.length) : (txZ zz i).length ≤ sizeZ zz i + i := by
  induction i with
  | zero => simp [txZ]
  | succ i ih =>
    rw [← txW_row, txW, List.take_length, List.length_append, List.length_append, List.length_map, sizeZ_next zz i (by omega)]
    have h1 := ih (by omega)
    have h2 : (sepZ i).length ≤ 1 := by unfold sepZ; split <;> simp
    omega
theorem txW_len {zz : List (List Int)} (g : GF true zz) (i k : Nat) (h : i < zz.length) (hk : k ≤ (rowZ zz i).length) : (txW zz i k).length ≤ 100 := by
  have h1 := txZ_len zz i (by omega)
  have h2 := sizeZ_le zz i
  have h3 := sizes_pos g.ne
  have h4 := g.tot
  have h5 := total_row zz i h
  have h6 : (sepZ i).length ≤ 1 := by unfold sepZ; split <;> simp
  unfold txW
  rw [List.length_append, List.length_append, List.length_map, List.length_take]
  omega
theorem txZ_small {zz : List (List Int)} (g : GF true zz) (i : Nat) (h : i ≤ zz.length) : (txZ zz i).length ≤ 100 := by
  have h1 := txZ_len zz i h
  have h2 := sizeZ_le zz i
  have h3 := sizes_pos g.ne
  have h4 := g.tot
  omega
theorem txZ_some {zz : List (List Int)} (g : GF true zz) : txZ zz zz.length ≠ [] := by
  intro e
  obtain ⟨n, hn⟩ : ∃ n, zz.length = n + 1 := ⟨zz.length - 1, by have := g.pos; omega⟩
  rw [hn, ← txW_row, txW, List.take_length] at e
  have h := congrArg List.length e
  rw [List.length_append, List.length_map, List.length_nil] at h
  have h2 := g.ne n (by omega)
  omega
def ptB (zz : List (List Int)) : SR := if gB true zz then ⟨⟨(txZ zz zz.length).toArray⟩, true⟩ else ⟨⟨#[]⟩, false⟩
theorem strAddZ (a b c : ByteArray) (h : a ++ b = c) (hs : a.size + b.size ≤ 1000) (W : World) : (Op.stringOp .add a b).run Try.prog W = .ok (.string c) W := by
  rw [run_string_add_sum W a b (by omega), h]
theorem bytesZ_join (l r : List UInt8) : (⟨l.toArray⟩ : ByteArray) ++ ⟨r.toArray⟩ = ⟨(l ++ r).toArray⟩ := ByteArray.mk_append_mk l r
theorem bytesZ_size (l : List UInt8) : (⟨l.toArray⟩ : ByteArray).size = l.length := by simp [ByteArray.size]

set_option maxRecDepth 100000 in
theorem l1NumZ (n : Nat) (b : UInt8) (hb : b.toNat = 48 + n) (hn : n < 10) (w : World) :
    Calls Try.prog 134 #[.int .i64 n] w fun e w' => e = .returned (.string ⟨#[b]⟩) ∧ Below w.heap.size w w' := by
  have HB := Lib.hid (below_new (w := w) (.cells #[.int .u8 (48 + (n : Int))] 5))
  have hcv : (convert 44 9 (.slice (some ⟨w.heap.size, 0, none⟩) 1 1)).run Try.prog (w.alloc (.cells #[.int .u8 (48 + (n : Int))] 5)) = .ok (.string ⟨#[b]⟩) (w.alloc (.cells #[.int .u8 (48 + (n : Int))] 5)) :=
    run_convert_bytes_back _ 44 9 5 ⟨w.heap.size, 0, none⟩ 1 [b] Try.underlying44 Try.underlying5 Try.underlying9 (by
      intro j hj
      have : j = 0 := by simpa using hj
      subst this
      rw [Addr.add_lit, World.cell?_alloc_at _ _ _ _ rfl]
      simp [hb])
  clear hb
  go_enter Try.func134, Try.ntmps134
  go_wp2_with fail
  go_ret
  exact ⟨rfl, HB.out⟩

set_option maxRecDepth 100000 in
set_option maxHeartbeats 3200000 in
theorem fiText_any (a : Option Addr) (cap : Nat) (zz : List (List Int)) (w : World) (hl : zz.length + total zz ≤ 1048576) (g : GF true zz) (hr : ReadsM w a zz.length zz) :
    Calls Try.prog 90 #[.slice a zz.length cap] w fun e w' => e = .returned (.string ⟨(txZ zz zz.length).toArray⟩) ∧ Below w.heap.size w w' := by
  have HR := Lib.hid hr
  have HG := Lib.hid g
  have HL := Lib.hid (Law.start w)
  clear hr g
  go_enter Try.func90, Try.ntmps90
  go_wp2_with fail
  go_loopw [3, 10] (fun v i wr => ∃ i0 : Nat, i0 ≤ zz.length ∧ i = .int .i64 i0 ∧ v = .string ⟨(txZ zz i0).toArray⟩ ∧ Law w [] wr) (fun _ i _ => zz.length - (intOf i).toNat)
  case atStart => exact ⟨0, Nat.zero_le _, rfl, rfl, HL.out⟩
  case round =>
    clear HL
    obtain ⟨i0, hi0, rfl, rfl, L⟩ := hrel
    by_cases hlt : i0 < zz.length
    · obtain ⟨b, off, aj, cj, rfl, hbw, hcell, hrd⟩ := HR.out.row i0 hlt
      rw [← rowZ_eq zz i0 hlt] at hcell hrd
      replace hcell := (L.below.cell (p := ⟨b, off + i0, none⟩) hbw).trans hcell
      have hne2 := HG.out.ne i0 hlt
      have hrl := total_row zz i0 hlt
      have ht6 := HG.out.tot
      have hlt' : (i0 : Int) < zz.length := by omega
      have HL := Lib.hid L
      have HRD := Lib.hid hrd
      have hsm := txZ_small HG.out i0 (by omega)
      have hadd : i0 ≠ 0 → ∀ W, (Op.stringOp .add ⟨(txZ zz i0).toArray⟩ ⟨#[124]⟩).run Try.prog W = .ok (.string ⟨(txW zz i0 0).toArray⟩) W := fun h W =>
        strAddZ _ _ _ (by rw [← txW_sep zz i0 h]; exact bytesZ_join _ [124]) (by rw [bytesZ_size]; have : (⟨#[124]⟩ : ByteArray).size = 1 := rfl; omega) W
      have hfi := txW_first zz i0
      clear L hrd hsm
      by_cases h0 : i0 = 0
      · have hi00 : ¬ (0 : Int) < i0 := by omega
        have HFI := Lib.hid (hfi h0)
        clear hadd hfi h0
        go_upto_region 8 with fail
        rw [← HFI.out]
        go_loopw [3, 21] (fun v j wr => ∃ k : Nat, k ≤ (rowZ zz i0).length ∧ j = .int .i64 k ∧ v = .string ⟨(txW zz i0 k).toArray⟩ ∧ Law w [] wr) (fun _ j _ => (rowZ zz i0).length - (intOf j).toNat)
        case atStart => exact ⟨0, Nat.zero_le _, rfl, rfl, HL.out⟩
        case round =>
          clear HL hcell
          obtain ⟨k, hk, rfl, rfl, L⟩ := hrel
          have HL := Lib.hid L
          by_cases hkl : k < (rowZ zz i0).length
          · obtain ⟨b2, off2, rfl, hb2w, hc⟩ := reads_row HRD.out (by omega)
            have hkl' : (k : Int) < (rowZ zz i0).length := by omega
            obtain ⟨c, hc0⟩ := Int.eq_ofNat_of_zero_le (HG.out.wi _ (rowZ_mem zz i0 k hlt hkl)).1
            have hc6 := (HG.out.wi _ (rowZ_mem zz i0 k hlt hkl)).2
            have hck := (L.below.cell (p := ⟨b2, off2 + k, none⟩) hb2w).trans (hc k hkl)
            have hnx := txW_next zz i0 k hkl
            have hsz := txW_len HG.out i0 k hlt (by omega)
            rw [hc0] at hck hnx hc6
            have hdv := dgZ_val c (by omega)
            have hadd : ∀ W, (Op.stringOp .add ⟨(txW zz i0 k).toArray⟩ ⟨#[dgZ (c : Int)]⟩).run Try.prog W = .ok (.string ⟨(txW zz i0 (k + 1)).toArray⟩) W := fun W =>
              strAddZ _ _ _ (by rw [← hnx]; exact bytesZ_join _ [dgZ (c : Int)]) (by rw [bytesZ_size]; have : (⟨#[dgZ (c : Int)]⟩ : ByteArray).size = 1 := rfl; omega) W
            have HNUM := Lib.hid (fun W => l1NumZ c (dgZ (c : Int)) hdv (by omega) W)
            clear hc hc0 hc6 hnx hsz hdv L
            go_wp2_with fail
            refine (HNUM.out _).mono ?_
            rintro e w2 ⟨rfl, hb⟩
            have HL2 := Lib.hid (HL.out.kept hb)
            clear hb HL hck
            go_wp2_with fail
            go_roundw
            case rel => exact ⟨k + 1, by omega, by go_num, rfl, HL2.out⟩
            case measure => simp [intOf]; omega
          · obtain hke : k = (rowZ zz i0).length := by omega
            have hkl' : ¬ (k : Int) < (rowZ zz i0).length := by omega
            have HTX := Lib.hid (show txW zz i0 k = txZ zz (i0 + 1) by rw [hke]; exact txW_row zz i0)
            clear L
            go_wp2_with fail
            go_roundw
            case rel => exact ⟨i0 + 1, by omega, by go_num, by rw [HTX.out], HL.out⟩
            case measure => simp [intOf]; omega
      · have hi00 : (0 : Int) < i0 := by omega
        have hn00 : 0 < i0 := by omega
        have hadd := hadd h0
        clear hfi h0
        go_upto_region 8 with fail
        clear hadd
        go_loopw [3, 21] (fun v j wr => ∃ k : Nat, k ≤ (rowZ zz i0).length ∧ j = .int .i64 k ∧ v = .string ⟨(txW zz i0 k).toArray⟩ ∧ Law w [] wr) (fun _ j _ => (rowZ zz i0).length - (intOf j).toNat)
        case atStart => exact ⟨0, Nat.zero_le _, rfl, rfl, HL.out⟩
        case round =>
          clear HL hcell
          obtain ⟨k, hk, rfl, rfl, L⟩ := hrel
          have HL := Lib.hid L
          by_cases hkl : k < (rowZ zz i0).length
          · obtain ⟨b2, off2, rfl, hb2w, hc⟩ := reads_row HRD.out (by omega)
            have hkl' : (k : Int) < (rowZ zz i0).length := by omega
            obtain ⟨c, hc0⟩ := Int.eq_ofNat_of_zero_le (HG.out.wi _ (rowZ_mem zz i0 k hlt hkl)).1
            have hc6 := (HG.out.wi _ (rowZ_mem zz i0 k hlt hkl)).2
            have hck := (L.below.cell (p := ⟨b2, off2 + k, none⟩) hb2w).trans (hc k hkl)
            have hnx := txW_next zz i0 k hkl
            have hsz := txW_len HG.out i0 k hlt (by omega)
            rw [hc0] at hck hnx hc6
            have hdv := dgZ_val c (by omega)
            have hadd : ∀ W, (Op.stringOp .add ⟨(txW zz i0 k).toArray⟩ ⟨#[dgZ (c : Int)]⟩).run Try.prog W = .ok (.string ⟨(txW zz i0 (k + 1)).toArray⟩) W := fun W =>
              strAddZ _ _ _ (by rw [← hnx]; exact bytesZ_join _ [dgZ (c : Int)]) (by rw [bytesZ_size]; have : (⟨#[dgZ (c : Int)]⟩ : ByteArray).size = 1 := rfl; omega) W
            have HNUM := Lib.hid (fun W => l1NumZ c (dgZ (c : Int)) hdv (by omega) W)
            clear hc hc0 hc6 hnx hsz hdv L
            go_wp2_with fail
            refine (HNUM.out _).mono ?_
            rintro e w2 ⟨rfl, hb⟩
            have HL2 := Lib.hid (HL.out.kept hb)
            clear hb HL hck
            go_wp2_with fail
            go_roundw
            case rel => exact ⟨k + 1, by omega, by go_num, rfl, HL2.out⟩
            case measure => simp [intOf]; omega
          · obtain hke : k = (rowZ zz i0).length := by omega
            have hkl' : ¬ (k : Int) < (rowZ zz i0).length := by omega
            have HTX := Lib.hid (show txW zz i0 k = txZ zz (i0 + 1) by rw [hke]; exact txW_row zz i0)
            clear L
            go_wp2_with fail
            go_roundw
            case rel => exact ⟨i0 + 1, by omega, by go_num, by rw [HTX.out], HL.out⟩
            case measure => simp [intOf]; omega
    · obtain rfl : i0 = zz.length := by omega
      have hlt' : ¬ ((zz.length : Nat) : Int) < zz.length := by omega
      have HB := Lib.hid L.below
      clear L
      go_wp2_with fail
      go_ret
      exact ⟨rfl, HB.out⟩

set_option maxRecDepth 100000 in
set_option maxHeartbeats 1600000 in
theorem specPt_any (zz : List (List Int)) (w : World) (hl : zz.length + total zz ≤ 1048576) (lo : Nat) (s : Value) (vs : List Value) (hO : OwnM w lo s vs zz) :
    Calls Try.prog 35 #[s] w fun e w' => AnsS (ptB zz) w e w' := by
  have HC := Lib.hid (fiBlocks_any true zz w hl lo s vs hO)
  obtain ⟨a, cap, rfl, hr⟩ := hO.reads
  have HR := Lib.hid hr
  clear hO hr
  cases hg : gB true zz
  · rw [show ptB zz = ⟨⟨#[]⟩, false⟩ by simp [ptB, hg]]
    rw [show blkN true zz = 0 by simp [blkN, hg]] at HC
    clear hg
    go_enter Try.func35, Try.ntmps35
    go_wp2_with fail
    refine HC.out.mono ?_
    rintro e w1 ⟨rfl, hb⟩
    have HB := Lib.hid hb
    clear hb
    go_wp2_with fail
    go_ret2
    exact ⟨rfl, HB.out⟩
  · have g := gB_iff.1 hg
    rw [show ptB zz = ⟨⟨(txZ zz zz.length).toArray⟩, true⟩ by simp [ptB, hg]]
    rw [show blkN true zz = (total zz : Nat) by simp [blkN, hg]] at HC
    have ht1 := g.total_pos
    have hne : (((total zz : Nat) : Int) == 0) = false := by rw [beq_eq_false_iff_ne]; omega
    have HT := Lib.hid (fun W (h : ReadsM W a zz.length zz) => fiText_any a cap zz W hl g h)
    clear hg g
    go_enter Try.func35, Try.ntmps35
    go_wp2_with fail
    refine HC.out.mono ?_
    rintro e w1 ⟨rfl, hb⟩
    have HL := Lib.hid ((Law.start w).kept hb)
    clear hb
    go_wp2_with fail
    refine (HT.out _ (HL.out.readsM HR.out)).mono ?_
    rintro e w2 ⟨rfl, hb⟩
    have HB := Lib.hid (HL.out.kept hb).below
    clear hb
    go_wp2_with fail
    go_ret2
    exact ⟨rfl, HB.out⟩
end Go.Proofs.Ytddmommamcgelab
