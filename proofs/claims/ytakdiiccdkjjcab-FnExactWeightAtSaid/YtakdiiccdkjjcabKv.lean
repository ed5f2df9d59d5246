/- Numbers valued at a point, in the program. No condition but the sizes. -/
import Derived.Test.YtakdiiccdkjjcabSm
namespace Go.Proofs.Ytakdiiccdkjjcab
open Go.RowKit Go.WideShapes

/-- One term. -/
def trmV (ys : List Int) (x : Int) (k : Nat) : Int := ys.getD k 0 * x ^ k

set_option maxRecDepth 100000 in
set_option maxHeartbeats 1600000 in
theorem value1_any (b1 b2 k q p g o : Nat) (x y : Int) (w : World) (hk : k < q) (h1 : w.cell? ⟨b1, 0, none⟩ = some (.slice (some ⟨g, o, none⟩) q p)) (h2 : w.cell? ⟨b2, 0, none⟩ = some (.int .i64 x)) (h3 : w.cell? ⟨g, o + k, none⟩ = some (.int .i64 y))
    (hP : ∀ W, Calls Try.prog 104 #[.int .i64 x, .int .i64 k] W fun e w' => e = .returned (.int .i64 (x ^ k)) ∧ w' = W) (ht : IntKind.i64.wrap (y * x ^ k) = y * x ^ k) :
    Calls Try.prog 134 (#[.int .i64 k] ++ #[.pointer (some ⟨b1, 0, none⟩), .pointer (some ⟨b2, 0, none⟩)]) w fun e w' => e = .returned (.int .i64 (y * x ^ k)) ∧ Below w.heap.size w w' := by
  have HP := Lib.hid hP
  have hk0 : (0 : Int) ≤ k := by omega
  have hk1 : (k : Int) < q := by omega
  clear hP
  go_enter Try.func134, Try.ntmps134
  go_wp2_with fail
  go_quiet ((go_at_call 104; with_reducible exact Calls.quiet_of_same (HP.out _)))
  go_wp2_with fail
  go_ret
  exact ⟨rfl, below_drewN (Below.refl _ _) _⟩

set_option maxRecDepth 100000 in
set_option maxHeartbeats 1600000 in
theorem valueAt_any (ys : List Int) (x : Int) (a : Option Addr) (p : Nat) (w : World) (hl : ys.length ≤ 1048576) (hr : Reads w a ys.length ys)
    (hP : ∀ k, k < ys.length → ∀ W, Calls Try.prog 104 #[.int .i64 x, .int .i64 k] W fun e w' => e = .returned (.int .i64 (x ^ k)) ∧ w' = W)
    (ht : ∀ k, k < ys.length → IntKind.i64.wrap (trmV ys x k) = trmV ys x k) (hs : ∀ k, k < ys.length → IntKind.i64.wrap (sumT (trmV ys x) k + trmV ys x k) = sumT (trmV ys x) k + trmV ys x k) :
    Calls Try.prog 94 #[.slice a ys.length p, .int .i64 x] w fun e w' => e = .returned (.int .i64 (sumT (trmV ys x) ys.length)) ∧ Below w.heap.size w w' := by
  have L0 := ((Law.start w).has [.slice a ys.length p] 22).has [.int .i64 x] 3
  simp only [World.size_alloc] at L0
  rw [show ((w.alloc (.cells [.slice a ys.length p].toArray 22)).alloc (.cells [.int .i64 x].toArray 3)) = ((w.alloc (.cells #[.slice a ys.length p] 22)).alloc (.cells #[.int .i64 x] 3)) from rfl] at L0
  have HS := Lib.hid (fun (W : World) (L : Law w [tHas (w.heap.size + 1) [.int .i64 x] 3, tHas w.heap.size [.slice a ys.length p] 22] W) => sumOfTerms_any ys.length 134 #[.pointer (some ⟨w.heap.size, 0, none⟩), .pointer (some ⟨w.heap.size + 1, 0, none⟩)] (trmV ys x) W hl (fun _ _ => by kernel_rfl)
    (fun j hj w' hb' => by
      have L2 := L.kept hb'
      obtain ⟨g, o, e, hg, hc⟩ := reads_row (L2.reads hr) (by omega)
      have h1 := L2.tl.ownHas.cell 0
      simp only [List.getElem?_cons_zero] at h1
      have h2 := L2.ownHas.cell 0
      simp only [List.getElem?_cons_zero] at h2
      rw [e] at h1
      exact value1_any w.heap.size (w.heap.size + 1) j ys.length p g o x (ys.getD j 0) w' hj h1 h2 (hc j hj) (hP j hj) (ht j hj))
    hs)
  have HL := Lib.hid L0
  clear L0 hr hP ht hs
  go_enter Try.func94, Try.ntmps94
  go_upto_region 1 with fail
  generalize (w.alloc (.cells #[.slice a ys.length p] 22)).alloc (.cells #[.int .i64 x] 3) = w5 at *
  have f0 := HL.out.tl.ownHas.cell 0
  simp only [List.getElem?_cons_zero] at f0
  go_wp2_with fail
  refine (HS.out _ HL.out).mono ?_
  rintro e w' ⟨rfl, hb⟩
  have HB := Lib.hid (HL.out.kept hb).below
  clear hb
  go_wp2_with fail
  go_ret
  exact ⟨rfl, HB.out⟩
end Go.Proofs.Ytakdiiccdkjjcab
