/-
  No cell of these rows narrows 'for every input' (looked for: loops, veiled, ifaces, maps, wideKeys, modest, calm, conditions, laid).
  DERIVED. THE GIVEN ROWS OF THIS SEAT. 10 by the template 'for every input the law returns true; each argument reads behind the call as it read before'; 0 by the template 'total and deterministic' (their statements: YtjmefcebldifaabTotals.lean).
  GIVEN WITH THE SEED: the statements are not yours to turn. If you find one false, say at which input.
  Laid BY PROGRAM, IN A SANDBOX (cutbox-rows.mjs): the forced cells as the released guide's own fill.sh prints them over the translation 110c5c2d84bffa7d… (all of the seat's roots in one cut). By AI agents, Wed Nov 11 2026. No macro, syntax, notation, axiom, sorry.
-/
import Derived.Test.YtjmefcebldifaabChecked
import GoSem.Claim
import GoSem.ClaimJoined
import GoSem.ClaimMapViews
import Derived.JoinedTies
import Derived.KernelRfl
namespace Go.Proofs.Ytjmefcebldifaab
/- THE CELL 'sum', in the pinned program and in every row, IS THE sha256 OF THE DUMP (.gsa) THAT YtjmefcebldifaabProg.lean LOADS. Nothing in Lean hashes anything: it is a label: what it is worth is what the hold of that sum in a sandbox is worth. -/
noncomputable def Try.pinned : Pinned := { name := "ytjmefcebldifaab", sum := "110c5c2d84bffa7d70c166308d2aea00924e5d069705c0834b1fe14513717398", checked := Try.checked }
namespace Rows
def none {H : Type} : Left H := { results := [], args := [] }

/-- 'laws.FnExactHitsOf': WHATEVER THE INPUT: true; the input reads as it did. -/
def fnExactHitsOfSpec : ChangeSpec := { name := "fnExactHitsOf", fn := fun _ => fun
  | [d1, d2] => { results := [.lit (.bool true)], args := [d1, d2] }
  | _ => none }
def fnExactHitsOfRow : OpenClaim := { program := "ytjmefcebldifaab", sum := "110c5c2d84bffa7d70c166308d2aea00924e5d069705c0834b1fe14513717398", func := "loop.example/g01125/laws.FnExactHitsOf", spec := "fnExactHitsOf", unfollowed := true, recurses := true, apart := false }
def FnExactHitsOfSaid : Prop := fnExactHitsOfRow.holds Try.pinned (OpenSpec.ofChange fnExactHitsOfSpec)

/-- ITS FALSE NEIGHBOUR: 'it returns false'. Refute it at one input. -/
def fnExactHitsOfWrong : ChangeSpec := { name := "fnExactHitsOf", fn := fun _ => fun
  | [d1, d2] => { results := [.lit (.bool false)], args := [d1, d2] }
  | _ => none }
def FnExactHitsOfWrongFalsely : Prop := fnExactHitsOfRow.holds Try.pinned (OpenSpec.ofChange fnExactHitsOfWrong)

/-- 'laws.FnExactPermutationsHitting': WHATEVER THE INPUT: true; the input reads as it did. -/
def fnExactPermutationsHittingSpec : ChangeSpec := { name := "fnExactPermutationsHitting", fn := fun _ => fun
  | [d1, d2] => { results := [.lit (.bool true)], args := [d1, d2] }
  | _ => none }
def fnExactPermutationsHittingRow : OpenClaim := { program := "ytjmefcebldifaab", sum := "110c5c2d84bffa7d70c166308d2aea00924e5d069705c0834b1fe14513717398", func := "loop.example/g01125/laws.FnExactPermutationsHitting", spec := "fnExactPermutationsHitting", unfollowed := true, recurses := true, apart := false }
def FnExactPermutationsHittingSaid : Prop := fnExactPermutationsHittingRow.holds Try.pinned (OpenSpec.ofChange fnExactPermutationsHittingSpec)

/-- ITS FALSE NEIGHBOUR: 'it returns false'. Refute it at one input. -/
def fnExactPermutationsHittingWrong : ChangeSpec := { name := "fnExactPermutationsHitting", fn := fun _ => fun
  | [d1, d2] => { results := [.lit (.bool false)], args := [d1, d2] }
  | _ => none }
def FnExactPermutationsHittingWrongFalsely : Prop := fnExactPermutationsHittingRow.holds Try.pinned (OpenSpec.ofChange fnExactPermutationsHittingWrong)

/-- 'laws.FnExactFirstHitting': WHATEVER THE INPUT: true; the input reads as it did. -/
def fnExactFirstHittingSpec : ChangeSpec := { name := "fnExactFirstHitting", fn := fun _ => fun
  | [d1, d2] => { results := [.lit (.bool true)], args := [d1, d2] }
  | _ => none }
def fnExactFirstHittingRow : OpenClaim := { program := "ytjmefcebldifaab", sum := "110c5c2d84bffa7d70c166308d2aea00924e5d069705c0834b1fe14513717398", func := "loop.example/g01125/laws.FnExactFirstHitting", spec := "fnExactFirstHitting", unfollowed := true, recurses := true, apart := false }
def FnExactFirstHittingSaid : Prop := fnExactFirstHittingRow.holds Try.pinned (OpenSpec.ofChange fnExactFirstHittingSpec)

/-- ITS FALSE NEIGHBOUR: 'it returns false'. Refute it at one input. -/
def fnExactFirstHittingWrong : ChangeSpec := { name := "fnExactFirstHitting", fn := fun _ => fun
  | [d1, d2] => { results := [.lit (.bool false)], args := [d1, d2] }
  | _ => none }
def FnExactFirstHittingWrongFalsely : Prop := fnExactFirstHittingRow.holds Try.pinned (OpenSpec.ofChange fnExactFirstHittingWrong)

/-- 'laws.FnExactDiagonalBoard': WHATEVER THE INPUT: true; the input reads as it did. -/
def fnExactDiagonalBoardSpec : ChangeSpec := { name := "fnExactDiagonalBoard", fn := fun _ => fun
  | [d] => { results := [.lit (.bool true)], args := [d] }
  | _ => none }
def fnExactDiagonalBoardRow : OpenClaim := { program := "ytjmefcebldifaab", sum := "110c5c2d84bffa7d70c166308d2aea00924e5d069705c0834b1fe14513717398", func := "loop.example/g01125/laws.FnExactDiagonalBoard", spec := "fnExactDiagonalBoard", unfollowed := true, recurses := true, apart := false }
def FnExactDiagonalBoardSaid : Prop := fnExactDiagonalBoardRow.holds Try.pinned (OpenSpec.ofChange fnExactDiagonalBoardSpec)

/-- ITS FALSE NEIGHBOUR: 'it returns false'. Refute it at one input. -/
def fnExactDiagonalBoardWrong : ChangeSpec := { name := "fnExactDiagonalBoard", fn := fun _ => fun
  | [d] => { results := [.lit (.bool false)], args := [d] }
  | _ => none }
def FnExactDiagonalBoardWrongFalsely : Prop := fnExactDiagonalBoardRow.holds Try.pinned (OpenSpec.ofChange fnExactDiagonalBoardWrong)

/-- 'laws.FnExactAboveBoard': WHATEVER THE INPUT: true; the input reads as it did. -/
def fnExactAboveBoardSpec : ChangeSpec := { name := "fnExactAboveBoard", fn := fun _ => fun
  | [d] => { results := [.lit (.bool true)], args := [d] }
  | _ => none }
def fnExactAboveBoardRow : OpenClaim := { program := "ytjmefcebldifaab", sum := "110c5c2d84bffa7d70c166308d2aea00924e5d069705c0834b1fe14513717398", func := "loop.example/g01125/laws.FnExactAboveBoard", spec := "fnExactAboveBoard", unfollowed := true, recurses := true, apart := false }
def FnExactAboveBoardSaid : Prop := fnExactAboveBoardRow.holds Try.pinned (OpenSpec.ofChange fnExactAboveBoardSpec)

/-- ITS FALSE NEIGHBOUR: 'it returns false'. Refute it at one input. -/
def fnExactAboveBoardWrong : ChangeSpec := { name := "fnExactAboveBoard", fn := fun _ => fun
  | [d] => { results := [.lit (.bool false)], args := [d] }
  | _ => none }
def FnExactAboveBoardWrongFalsely : Prop := fnExactAboveBoardRow.holds Try.pinned (OpenSpec.ofChange fnExactAboveBoardWrong)

/-- 'laws.FnExactTableBoard': WHATEVER THE INPUT: true; the input reads as it did. -/
def fnExactTableBoardSpec : ChangeSpec := { name := "fnExactTableBoard", fn := fun _ => fun
  | [d] => { results := [.lit (.bool true)], args := [d] }
  | _ => none }
def fnExactTableBoardRow : OpenClaim := { program := "ytjmefcebldifaab", sum := "110c5c2d84bffa7d70c166308d2aea00924e5d069705c0834b1fe14513717398", func := "loop.example/g01125/laws.FnExactTableBoard", spec := "fnExactTableBoard", unfollowed := true, recurses := true, apart := false }
def FnExactTableBoardSaid : Prop := fnExactTableBoardRow.holds Try.pinned (OpenSpec.ofChange fnExactTableBoardSpec)

/-- ITS FALSE NEIGHBOUR: 'it returns false'. Refute it at one input. -/
def fnExactTableBoardWrong : ChangeSpec := { name := "fnExactTableBoard", fn := fun _ => fun
  | [d] => { results := [.lit (.bool false)], args := [d] }
  | _ => none }
def FnExactTableBoardWrongFalsely : Prop := fnExactTableBoardRow.holds Try.pinned (OpenSpec.ofChange fnExactTableBoardWrong)

/-- 'laws.FnExactDerangements': WHATEVER THE INPUT: true; the input reads as it did. -/
def fnExactDerangementsSpec : ChangeSpec := { name := "fnExactDerangements", fn := fun _ => fun
  | [d] => { results := [.lit (.bool true)], args := [d] }
  | _ => none }
def fnExactDerangementsRow : OpenClaim := { program := "ytjmefcebldifaab", sum := "110c5c2d84bffa7d70c166308d2aea00924e5d069705c0834b1fe14513717398", func := "loop.example/g01125/laws.FnExactDerangements", spec := "fnExactDerangements", unfollowed := true, recurses := true, apart := false }
def FnExactDerangementsSaid : Prop := fnExactDerangementsRow.holds Try.pinned (OpenSpec.ofChange fnExactDerangementsSpec)

/-- ITS FALSE NEIGHBOUR: 'it returns false'. Refute it at one input. -/
def fnExactDerangementsWrong : ChangeSpec := { name := "fnExactDerangements", fn := fun _ => fun
  | [d] => { results := [.lit (.bool false)], args := [d] }
  | _ => none }
def FnExactDerangementsWrongFalsely : Prop := fnExactDerangementsRow.holds Try.pinned (OpenSpec.ofChange fnExactDerangementsWrong)

/-- 'laws.FnExactCountCouples': WHATEVER THE INPUT: true; the input reads as it did. -/
def fnExactCountCouplesSpec : ChangeSpec := { name := "fnExactCountCouples", fn := fun _ => fun
  | [d] => { results := [.lit (.bool true)], args := [d] }
  | _ => none }
def fnExactCountCouplesRow : OpenClaim := { program := "ytjmefcebldifaab", sum := "110c5c2d84bffa7d70c166308d2aea00924e5d069705c0834b1fe14513717398", func := "loop.example/g01125/laws.FnExactCountCouples", spec := "fnExactCountCouples", unfollowed := true, recurses := true, apart := false }
def FnExactCountCouplesSaid : Prop := fnExactCountCouplesRow.holds Try.pinned (OpenSpec.ofChange fnExactCountCouplesSpec)

/-- ITS FALSE NEIGHBOUR: 'it returns false'. Refute it at one input. -/
def fnExactCountCouplesWrong : ChangeSpec := { name := "fnExactCountCouples", fn := fun _ => fun
  | [d] => { results := [.lit (.bool false)], args := [d] }
  | _ => none }
def FnExactCountCouplesWrongFalsely : Prop := fnExactCountCouplesRow.holds Try.pinned (OpenSpec.ofChange fnExactCountCouplesWrong)

/-- 'laws.FnExactEulerNumbers': WHATEVER THE INPUT: true; the input reads as it did. -/
def fnExactEulerNumbersSpec : ChangeSpec := { name := "fnExactEulerNumbers", fn := fun _ => fun
  | [d] => { results := [.lit (.bool true)], args := [d] }
  | _ => none }
def fnExactEulerNumbersRow : OpenClaim := { program := "ytjmefcebldifaab", sum := "110c5c2d84bffa7d70c166308d2aea00924e5d069705c0834b1fe14513717398", func := "loop.example/g01125/laws.FnExactEulerNumbers", spec := "fnExactEulerNumbers", unfollowed := true, recurses := true, apart := false }
def FnExactEulerNumbersSaid : Prop := fnExactEulerNumbersRow.holds Try.pinned (OpenSpec.ofChange fnExactEulerNumbersSpec)

/-- ITS FALSE NEIGHBOUR: 'it returns false'. Refute it at one input. -/
def fnExactEulerNumbersWrong : ChangeSpec := { name := "fnExactEulerNumbers", fn := fun _ => fun
  | [d] => { results := [.lit (.bool false)], args := [d] }
  | _ => none }
def FnExactEulerNumbersWrongFalsely : Prop := fnExactEulerNumbersRow.holds Try.pinned (OpenSpec.ofChange fnExactEulerNumbersWrong)

/-- 'laws.FnExactDerangementsWith': WHATEVER THE INPUT: true; the input reads as it did. -/
def fnExactDerangementsWithSpec : ChangeSpec := { name := "fnExactDerangementsWith", fn := fun _ => fun
  | [d1, d2] => { results := [.lit (.bool true)], args := [d1, d2] }
  | _ => none }
def fnExactDerangementsWithRow : OpenClaim := { program := "ytjmefcebldifaab", sum := "110c5c2d84bffa7d70c166308d2aea00924e5d069705c0834b1fe14513717398", func := "loop.example/g01125/laws.FnExactDerangementsWith", spec := "fnExactDerangementsWith", unfollowed := true, recurses := true, apart := false }
def FnExactDerangementsWithSaid : Prop := fnExactDerangementsWithRow.holds Try.pinned (OpenSpec.ofChange fnExactDerangementsWithSpec)

/-- ITS FALSE NEIGHBOUR: 'it returns false'. Refute it at one input. -/
def fnExactDerangementsWithWrong : ChangeSpec := { name := "fnExactDerangementsWith", fn := fun _ => fun
  | [d1, d2] => { results := [.lit (.bool false)], args := [d1, d2] }
  | _ => none }
def FnExactDerangementsWithWrongFalsely : Prop := fnExactDerangementsWithRow.holds Try.pinned (OpenSpec.ofChange fnExactDerangementsWithWrong)

/- THE SECOND FORM. 'bulk': how many values and letters a reading holds, each counted each time it is reached (what is shared counts as often as it is met; a slice's spare places count too). A statement '..UptoSaid' is the law's where the arguments, and the package variables that the reading takes, are together of bulk at most 1048576: NARROWER than '..Said'. Prove '..Said' where nothing that the law and all that it calls make is longer than what came in: it says more and counts as full. Else prove '..UptoSaid'. A law counts once. -/
mutual
def uptoBulk {H : Type} : DataW H → Nat
  | .lit (.string bytes) => bytes.length + 1
  | .lit _ => 1
  | .nil => 1
  | .ptr d => uptoBulk d + 1
  | .slice elems spare => uptoBulkAll elems + uptoBulkAll spare + 1
  | .agg parts => uptoBulkAll parts + 1
  | .iface _ d => uptoBulk d + 1
  | .map entries => uptoBulkEntries entries + 1
  | .held _ => 1
def uptoBulkAll {H : Type} : List (DataW H) → Nat
  | [] => 0
  | d :: r => uptoBulk d + uptoBulkAll r
def uptoBulkEntries {H : Type} : List (Lit × DataW H) → Nat
  | [] => 0
  | x :: r => uptoBulkEntry x + uptoBulkEntries r
def uptoBulkEntry {H : Type} : Lit × DataW H → Nat
  | (.string bytes, d) => bytes.length + uptoBulk d + 1
  | (_, d) => uptoBulk d + 1
 end
def uptoSmall : (H : Type) → List (DataW H) → Bool := fun _ ds => decide (uptoBulkAll ds ≤ 1048576)
def OpenSpec.upto (s : _root_.Go.ChangeSpec) : _root_.Go.OpenSpec := { _root_.Go.OpenSpec.ofChange s with cond := some uptoSmall }

/-- 'laws.FnExactHitsOf', WHERE WHAT IT READS IS OF BULK AT MOST 1048576: true; the input reads as it did. -/
def fnExactHitsOfUptoRow : OpenClaim := { program := "ytjmefcebldifaab", sum := "110c5c2d84bffa7d70c166308d2aea00924e5d069705c0834b1fe14513717398", func := "loop.example/g01125/laws.FnExactHitsOf", spec := "fnExactHitsOf", unfollowed := true, recurses := true, apart := false, narrowed := true }
def FnExactHitsOfUptoSaid : Prop := fnExactHitsOfUptoRow.holds Try.pinned (OpenSpec.upto fnExactHitsOfSpec)

/-- 'laws.FnExactPermutationsHitting', WHERE WHAT IT READS IS OF BULK AT MOST 1048576: true; the input reads as it did. -/
def fnExactPermutationsHittingUptoRow : OpenClaim := { program := "ytjmefcebldifaab", sum := "110c5c2d84bffa7d70c166308d2aea00924e5d069705c0834b1fe14513717398", func := "loop.example/g01125/laws.FnExactPermutationsHitting", spec := "fnExactPermutationsHitting", unfollowed := true, recurses := true, apart := false, narrowed := true }
def FnExactPermutationsHittingUptoSaid : Prop := fnExactPermutationsHittingUptoRow.holds Try.pinned (OpenSpec.upto fnExactPermutationsHittingSpec)

/-- 'laws.FnExactFirstHitting', WHERE WHAT IT READS IS OF BULK AT MOST 1048576: true; the input reads as it did. -/
def fnExactFirstHittingUptoRow : OpenClaim := { program := "ytjmefcebldifaab", sum := "110c5c2d84bffa7d70c166308d2aea00924e5d069705c0834b1fe14513717398", func := "loop.example/g01125/laws.FnExactFirstHitting", spec := "fnExactFirstHitting", unfollowed := true, recurses := true, apart := false, narrowed := true }
def FnExactFirstHittingUptoSaid : Prop := fnExactFirstHittingUptoRow.holds Try.pinned (OpenSpec.upto fnExactFirstHittingSpec)

/-- 'laws.FnExactDiagonalBoard', WHERE WHAT IT READS IS OF BULK AT MOST 1048576: true; the input reads as it did. -/
def fnExactDiagonalBoardUptoRow : OpenClaim := { program := "ytjmefcebldifaab", sum := "110c5c2d84bffa7d70c166308d2aea00924e5d069705c0834b1fe14513717398", func := "loop.example/g01125/laws.FnExactDiagonalBoard", spec := "fnExactDiagonalBoard", unfollowed := true, recurses := true, apart := false, narrowed := true }
def FnExactDiagonalBoardUptoSaid : Prop := fnExactDiagonalBoardUptoRow.holds Try.pinned (OpenSpec.upto fnExactDiagonalBoardSpec)

/-- 'laws.FnExactAboveBoard', WHERE WHAT IT READS IS OF BULK AT MOST 1048576: true; the input reads as it did. -/
def fnExactAboveBoardUptoRow : OpenClaim := { program := "ytjmefcebldifaab", sum := "110c5c2d84bffa7d70c166308d2aea00924e5d069705c0834b1fe14513717398", func := "loop.example/g01125/laws.FnExactAboveBoard", spec := "fnExactAboveBoard", unfollowed := true, recurses := true, apart := false, narrowed := true }
def FnExactAboveBoardUptoSaid : Prop := fnExactAboveBoardUptoRow.holds Try.pinned (OpenSpec.upto fnExactAboveBoardSpec)

/-- 'laws.FnExactTableBoard', WHERE WHAT IT READS IS OF BULK AT MOST 1048576: true; the input reads as it did. -/
def fnExactTableBoardUptoRow : OpenClaim := { program := "ytjmefcebldifaab", sum := "110c5c2d84bffa7d70c166308d2aea00924e5d069705c0834b1fe14513717398", func := "loop.example/g01125/laws.FnExactTableBoard", spec := "fnExactTableBoard", unfollowed := true, recurses := true, apart := false, narrowed := true }
def FnExactTableBoardUptoSaid : Prop := fnExactTableBoardUptoRow.holds Try.pinned (OpenSpec.upto fnExactTableBoardSpec)

/-- 'laws.FnExactDerangements', WHERE WHAT IT READS IS OF BULK AT MOST 1048576: true; the input reads as it did. -/
def fnExactDerangementsUptoRow : OpenClaim := { program := "ytjmefcebldifaab", sum := "110c5c2d84bffa7d70c166308d2aea00924e5d069705c0834b1fe14513717398", func := "loop.example/g01125/laws.FnExactDerangements", spec := "fnExactDerangements", unfollowed := true, recurses := true, apart := false, narrowed := true }
def FnExactDerangementsUptoSaid : Prop := fnExactDerangementsUptoRow.holds Try.pinned (OpenSpec.upto fnExactDerangementsSpec)

/-- 'laws.FnExactCountCouples', WHERE WHAT IT READS IS OF BULK AT MOST 1048576: true; the input reads as it did. -/
def fnExactCountCouplesUptoRow : OpenClaim := { program := "ytjmefcebldifaab", sum := "110c5c2d84bffa7d70c166308d2aea00924e5d069705c0834b1fe14513717398", func := "loop.example/g01125/laws.FnExactCountCouples", spec := "fnExactCountCouples", unfollowed := true, recurses := true, apart := false, narrowed := true }
def FnExactCountCouplesUptoSaid : Prop := fnExactCountCouplesUptoRow.holds Try.pinned (OpenSpec.upto fnExactCountCouplesSpec)

/-- 'laws.FnExactEulerNumbers', WHERE WHAT IT READS IS OF BULK AT MOST 1048576: true; the input reads as it did. -/
def fnExactEulerNumbersUptoRow : OpenClaim := { program := "ytjmefcebldifaab", sum := "110c5c2d84bffa7d70c166308d2aea00924e5d069705c0834b1fe14513717398", func := "loop.example/g01125/laws.FnExactEulerNumbers", spec := "fnExactEulerNumbers", unfollowed := true, recurses := true, apart := false, narrowed := true }
def FnExactEulerNumbersUptoSaid : Prop := fnExactEulerNumbersUptoRow.holds Try.pinned (OpenSpec.upto fnExactEulerNumbersSpec)

/-- 'laws.FnExactDerangementsWith', WHERE WHAT IT READS IS OF BULK AT MOST 1048576: true; the input reads as it did. -/
def fnExactDerangementsWithUptoRow : OpenClaim := { program := "ytjmefcebldifaab", sum := "110c5c2d84bffa7d70c166308d2aea00924e5d069705c0834b1fe14513717398", func := "loop.example/g01125/laws.FnExactDerangementsWith", spec := "fnExactDerangementsWith", unfollowed := true, recurses := true, apart := false, narrowed := true }
def FnExactDerangementsWithUptoSaid : Prop := fnExactDerangementsWithUptoRow.holds Try.pinned (OpenSpec.upto fnExactDerangementsWithSpec)

end Rows
end Go.Proofs.Ytjmefcebldifaab
