/- Lengths that are alike: both texts. No condition but the sizes. -/
import Derived.Test.YtdimbnkgomfojaaFv
import Derived.Test.YtdimbnkgomfojaaSa
import Derived.Deep.RegionWith
import Derived.Laws.StructEq
import Derived.ChangeKeysEq
namespace Go.Proofs.Ytdimbnkgomfojaa
open Go.RowKit Go.WideShapes

/-- Are six numbers equal, one by one? -/
def eqN6 (F G : Nat → Int) : Bool := (List.range 6).all fun i => F i == G i

theorem eqItems_intN (P : Program) (d : Nat) (e : TypeId) (hp : P.plainKey e = true) (hu : P.underlying e = some (.int .i64)) (xs ys : Array Value) (F G : Nat → Int) (w : World) :
    ∀ l : List Nat, (∀ i ∈ l, xs[i]? = some (.int .i64 (F i)) ∧ ys[i]? = some (.int .i64 (G i))) → (Op.eqItems (d + 1) e 1 xs ys l).run P w = .ok (l.all fun i => F i == G i) w := by
  intro l
  induction l with
  | nil => intro _; simp [Op.eqItems]
  | cons i l ih =>
    intro h
    obtain ⟨h1, h2⟩ := h i (by simp)
    have ih := ih (fun j hj => h j (by simp [hj]))
    simp only [Op.eqItems, Sem.run_bind, Nat.mul_one, run_part_plain w hp h1, run_part_plain w hp h2, Result.andThen_ok, run_equalIn_int w d e .i64 .i64 (F i) (G i) hu, List.all_cons]
    cases hc : F i == G i
    · simp only [Bool.not_false, if_true, Sem.run_pure, Bool.false_and]
    · simp only [Bool.not_true, Bool.false_eq_true, if_false, ih, Bool.true_and]

theorem sv_get (F : Nat → Int) (i : Nat) (h : i < 6) : (#[Value.int .i64 (F 0), .int .i64 (F 1), .int .i64 (F 2), .int .i64 (F 3), .int .i64 (F 4), .int .i64 (F 5)] : Array Value)[i]? = some (.int .i64 (F i)) := by
  have : i = 0 ∨ i = 1 ∨ i = 2 ∨ i = 3 ∨ i = 4 ∨ i = 5 := by omega
  rcases this with rfl | rfl | rfl | rfl | rfl | rfl <;> rfl

/-- Two arrays of six compared. -/
theorem eqArr (F G : Nat → Int) (W : World) : (Op.equalIn 9999 57 (.agg #[.int .i64 (F 0), .int .i64 (F 1), .int .i64 (F 2), .int .i64 (F 3), .int .i64 (F 4), .int .i64 (F 5)]) (.agg #[.int .i64 (G 0), .int .i64 (G 1), .int .i64 (G 2), .int .i64 (G 3), .int .i64 (G 4), .int .i64 (G 5)])).run Try.prog W = .ok (eqN6 F G) W := by
  obtain ⟨i, hi, _⟩ := Option.map_eq_some_iff.1 Try.infoI
  rw [run_equalIn_array W 9998 (e := 3) (n := 6) (i := i) _ _ (by kernel_rfl) hi, show Try.prog.cellsOf 3 = 1 by kernel_rfl]
  exact eqItems_intN Try.prog 9997 3 (by kernel_rfl) (by kernel_rfl) _ _ F G W (List.range 6) (fun i hi => ⟨sv_get F i (List.mem_range.1 hi), sv_get G i (List.mem_range.1 hi)⟩)

/-- The comparison of two lists' series is that of the lists. -/
theorem eqSer_lists (xs ys : List Int) (h1 : xs.length ≤ 6) (h2 : ys.length ≤ 6) : (((xs.length : Int) == ys.length) && eqN6 (fl xs) (fl ys)) = decide (xs = ys) := by
  rw [Bool.eq_iff_iff, Bool.and_eq_true, beq_iff_eq, decide_eq_true_eq]
  constructor
  · rintro ⟨hl, h⟩
    refine List.ext_getElem (by omega) (fun i q1 q2 => ?_)
    have := List.all_eq_true.1 h i (List.mem_range.2 (by omega))
    rw [beq_iff_eq] at this
    simpa [fl, List.getD_eq_getElem?_getD, q1, q2] using this
  · rintro rfl
    exact ⟨rfl, List.all_eq_true.2 (fun i _ => by rw [beq_iff_eq])⟩

def alkR (xs ys : List Int) : R2 := if lenB xs && lenB ys then ⟨decide (facs xs = facs ys), true⟩ else ⟨false, false⟩



end Go.Proofs.Ytdimbnkgomfojaa
