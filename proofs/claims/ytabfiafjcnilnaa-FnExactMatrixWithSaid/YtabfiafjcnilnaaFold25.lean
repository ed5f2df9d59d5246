import Derived.Test.YtabfiafjcnilnaaFold24
import Derived.Test.YtabfiafjcnilnaaFold7
import Derived.Lib.QuietBelow
import Derived.BigQuiet
namespace Go.Proofs.Ytabfiafjcnilnaa
open Go.RowKit Go.WideShapes

def cntM (xs : List Int) (q : Nat) : Int := (q : Int) ^ offC (fun k => xs.getD k 0) xs.length
def fewB (xs : List Int) (q : Int) : Bool := lenB xs && (isQ q && decide (cntM xs q.toNat ≤ 6561))
def mwR (xs : List Int) (q num : Int) : MR := if fewB xs q && inB 0 num (cntM xs q.toNat - 1) then ⟨rowsM xs.length xs.length (mS (fun k => xs.getD k 0) q.toNat num.toNat xs.length 0), true⟩ else ⟨[], false⟩
theorem cntM_pos (xs : List Int) (q : Nat) (hq : 1 ≤ q) : 1 ≤ cntM xs q := by
  unfold cntM
  have := Nat.pow_pos (n := offC (fun k => xs.getD k 0) xs.length) (show 0 < q by omega)
  rw [← Int.natCast_pow]
  omega
theorem len_far {xs : List Int} : ∀ k, xs.length ≤ k → xs.getD k 0 = 0 := fun k hk => by rw [List.getD_eq_getElem?_getD, List.getElem?_eq_none hk]; rfl

set_option maxRecDepth 100000 in
set_option maxHeartbeats 6400000 in
theorem countMat_any (n : Nat) (S : Nat → Int) (q : Nat) (hq : 1 ≤ q ∧ q ≤ 3) (T : TypeId) (fs : FuncId) (hT : ∀ w : World, (method 197 T (.agg #[]) "loop.example/g01125/impl.size").run Try.prog w = .ok (fs, .agg #[]) w) (hF : ∀ w : World, (callFunc fs #[.agg #[]]).run Try.prog w = .ok (.enter fs #[.agg #[]]) w) (hS : ∀ w : World, Calls Try.prog fs #[.agg #[]] w fun e w' => e = .returned (.int .i64 q) ∧ Below w.heap.size w w')
    (w : World) (hn : n ≤ 6) (hSb : ∀ k, 0 ≤ S k ∧ S k ≤ 6) (hz : ∀ k, n ≤ k → S k = 0) :
    Calls Try.prog 40 #[sv n S, .iface T (.agg #[])] w fun e w' => e = .returned (.int .i64 ((q : Int) ^ offC S n)) ∧ Below w.heap.size w w' := by
  have L0 := (Law.start w).has (sl n S) 47
  rw [show w.alloc (.cells (sl n S).toArray 47) = w.alloc (.cells #[.int .i64 n, .int .i64 (S 0), .int .i64 (S 1), .int .i64 (S 2), .int .i64 (S 3), .int .i64 (S 4), .int .i64 (S 5)] 47) from rfl] at L0
  have HL := Lib.hid L0
  have hle := offC_le S hSb n
  have HC := Lib.hid (fun W => cellsO_any n S W hn hz hSb)
  have HP := Lib.hid (fun W => powerq_any q (by omega) (offC S n) W (by omega))
  have HS := Lib.hid hS
  clear L0 hle hS hSb hz
  generalize (q : Int) ^ offC S n = R at *
  generalize offC S n = C at *
  go_enter Try.func40, Try.ntmps40
  go_upto_region 1 with fail
  generalize w.alloc _ = wr at *
  obtain ⟨e0, e1, e2, e3, e4, e5, e6, _⟩ := HL.out.ownHas.seven
  have f0 := cell_regrown e0
  have f1 := cell_regrown e1
  have f2 := cell_regrown e2
  have f3 := cell_regrown e3
  have f4 := cell_regrown e4
  have f5 := cell_regrown e5
  have f6 := cell_regrown e6
  have HI := Lib.hid (fun d os => Calls.regrown_of (w := wr) (d := d) (os := os) (HS.out _))
  have HJ := Lib.hid (fun d os => Calls.regrown_of (w := wr) (d := d) (os := os) (HC.out _))
  have HK := Lib.hid (fun d os => Calls.regrown_of (w := wr) (d := d) (os := os) ((HP.out _).mono (fun e w' h => ⟨h.1, by rw [h.2]; exact Below.refl _ _⟩)))
  have HB := Lib.hid HL.out.below
  clear e0 e1 e2 e3 e4 e5 e6 HL HC HP HS
  refine wp_region_quiet_below (by kernel_rfl) (by kernel_rfl) ?_
  repeat (go_big_quiet_step (first | (with_reducible exact HI.out _ _) | (with_reducible exact HJ.out _ _) | (with_reducible exact HK.out _ _)))
  refine wpQuiet_nil ?_
  intro _ hw'
  obtain ⟨⟨dq, osq⟩, hw''⟩ := hw'
  subst hw''
  have HB2 := Lib.hid (below_on (w0 := w) HB.out (below_regrown wr dq osq))
  clear f0 f1 f2 f3 f4 f5 f6 HB HI HJ HK
  go_wp2_with fail
  go_ret
  exact ⟨rfl, HB2.out⟩

set_option maxRecDepth 100000 in
set_option maxHeartbeats 3200000 in
theorem weFew_any (xs : List Int) (q : Int) (w : World) (hx : xs.length ≤ 1048576) (a : Option Addr) (p : Nat) (hr : Reads w a xs.length xs) :
    Calls Try.prog 35 #[.slice a xs.length p, .int .i64 q] w fun e w' => e = .returned (.bool (fewB xs q)) ∧ Below w.heap.size w w' := by
  have HG := Lib.hid (feGood_any a p xs w hx hr)
  have HQ := Lib.hid (weBase_any q)
  cases hg : lenB xs
  · rw [show fewB xs q = false by simp [fewB, hg]]
    rw [hg] at HG
    clear hg hr HQ
    go_enter Try.func35, Try.ntmps35
    go_wp2_with fail
    refine HG.out.mono ?_
    rintro e w2 ⟨rfl, hb⟩
    have HB := Lib.hid hb
    clear hb
    go_wp2_with fail
    go_ret
    exact ⟨rfl, HB.out⟩
  · cases hq : isQ q
    · rw [show fewB xs q = false by simp [fewB, hq]]
      rw [hg] at HG
      rw [hq] at HQ
      clear hg hr hq
      go_enter Try.func35, Try.ntmps35
      go_wp2_with fail
      refine HG.out.mono ?_
      rintro e w2 ⟨rfl, hb⟩
      have HB := Lib.hid hb
      clear hb
      go_wp2_with fail
      refine (HQ.out _).mono ?_
      rintro e w3 ⟨rfl, rfl⟩
      go_wp2_with fail
      go_ret
      exact ⟨rfl, HB.out⟩
    · obtain ⟨q, rfl, hQ⟩ := isQ_nat hq
      rw [hg] at HG
      rw [hq] at HQ
      obtain ⟨l1, l2, l3, l4, _⟩ := len_facts hg
      have hle := offC_le (fun k => xs.getD k 0) l3 xs.length
      have HCE := Lib.hid (fun W (h : Reads W a xs.length xs) => weCellsO_any xs.length xs (fun k => xs.getD k 0) (fun _ => rfl) a p W rfl l2 l3 h)
      have HPW := Lib.hid (fun W => wePower_any q (by omega) (offC (fun k => xs.getD k 0) xs.length : Nat) W (by omega))
      rw [Int.toNat_natCast] at HPW
      have hR : fewB xs q = decide ((q : Int) ^ offC (fun k => xs.getD k 0) xs.length ≤ 6561) := by
        unfold fewB cntM
        rw [hg, hq, Bool.true_and, Bool.true_and, Int.toNat_natCast]
      rw [hR]
      have HRD := Lib.hid hr
      clear hg hq hQ hr l1 l3 l4 hle hR
      generalize (q : Int) ^ offC (fun k => xs.getD k 0) xs.length = R at *
      generalize offC (fun k => xs.getD k 0) xs.length = C at *
      go_enter Try.func35, Try.ntmps35
      go_wp2_with fail
      refine HG.out.mono ?_
      rintro e w2 ⟨rfl, hb⟩
      have HB := Lib.hid hb
      clear hb
      go_wp2_with fail
      refine (HQ.out _).mono ?_
      rintro e w3 ⟨rfl, rfl⟩
      go_wp2_with fail
      refine (HCE.out _ (HRD.out.kept HB.out)).mono ?_
      rintro e w3 ⟨rfl, rfl⟩
      go_wp2_with fail
      refine (HPW.out _).mono ?_
      rintro e w3 ⟨rfl, rfl⟩
      go_wp2_with fail
      go_ret
      exact ⟨rfl, HB.out⟩

end Go.Proofs.Ytabfiafjcnilnaa
