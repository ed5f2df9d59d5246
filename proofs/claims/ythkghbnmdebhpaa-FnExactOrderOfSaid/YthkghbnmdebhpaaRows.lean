/-
  No cell of these rows narrows 'for every input' (looked for: loops, veiled, ifaces, maps, wideKeys, modest, calm, conditions, laid).
  DERIVED. THE GIVEN ROWS OF THIS SEAT. 12 by the template 'for every input the law returns true; each argument reads behind the call as it read before'; 0 by the template 'total and deterministic' (their statements: YthkghbnmdebhpaaTotals.lean).
  GIVEN WITH THE SEED: the statements are not yours to turn. If you find one false, say at which input.
  Laid BY PROGRAM, IN A SANDBOX (cutbox-rows.mjs): the forced cells as the released guide's own fill.sh prints them over the translation 467ae2d67259b34f… (all of the seat's roots in one cut). By AI agents, Wed Nov 11 2026. No macro, syntax, notation, axiom, sorry.
-/
import Derived.Test.YthkghbnmdebhpaaChecked
import GoSem.Claim
import GoSem.ClaimJoined
import GoSem.ClaimMapViews
import Derived.JoinedTies
import Derived.KernelRfl
namespace Go.Proofs.Ythkghbnmdebhpaa
/- THE CELL 'sum', in the pinned program and in every row, IS THE sha256 OF THE DUMP (.gsa) THAT YthkghbnmdebhpaaProg.lean LOADS. Nothing in Lean hashes anything: it is a label: what it is worth is what the hold of that sum in a sandbox is worth. -/
noncomputable def Try.pinned : Pinned := { name := "ythkghbnmdebhpaa", sum := "467ae2d67259b34fc2ed8c1075a6d262db1cf8789a1ed8968c27ca07818410cf", checked := Try.checked }
namespace Rows
def none {H : Type} : Left H := { results := [], args := [] }

/-- 'laws.FnExactAreLengths': WHATEVER THE INPUT: true; the input reads as it did. -/
def fnExactAreLengthsSpec : ChangeSpec := { name := "fnExactAreLengths", fn := fun _ => fun
  | [d] => { results := [.lit (.bool true)], args := [d] }
  | _ => none }
def fnExactAreLengthsRow : OpenClaim := { program := "ythkghbnmdebhpaa", sum := "467ae2d67259b34fc2ed8c1075a6d262db1cf8789a1ed8968c27ca07818410cf", func := "loop.example/g01125/laws.FnExactAreLengths", spec := "fnExactAreLengths", apart := false }
def FnExactAreLengthsSaid : Prop := fnExactAreLengthsRow.holds Try.pinned (OpenSpec.ofChange fnExactAreLengthsSpec)

/-- ITS FALSE NEIGHBOUR: 'it returns false'. Refute it at one input. -/
def fnExactAreLengthsWrong : ChangeSpec := { name := "fnExactAreLengths", fn := fun _ => fun
  | [d] => { results := [.lit (.bool false)], args := [d] }
  | _ => none }
def FnExactAreLengthsWrongFalsely : Prop := fnExactAreLengthsRow.holds Try.pinned (OpenSpec.ofChange fnExactAreLengthsWrong)

/-- 'laws.FnExactBoardOfLengths': WHATEVER THE INPUT: true; the input reads as it did. -/
def fnExactBoardOfLengthsSpec : ChangeSpec := { name := "fnExactBoardOfLengths", fn := fun _ => fun
  | [d] => { results := [.lit (.bool true)], args := [d] }
  | _ => none }
def fnExactBoardOfLengthsRow : OpenClaim := { program := "ythkghbnmdebhpaa", sum := "467ae2d67259b34fc2ed8c1075a6d262db1cf8789a1ed8968c27ca07818410cf", func := "loop.example/g01125/laws.FnExactBoardOfLengths", spec := "fnExactBoardOfLengths", apart := false }
def FnExactBoardOfLengthsSaid : Prop := fnExactBoardOfLengthsRow.holds Try.pinned (OpenSpec.ofChange fnExactBoardOfLengthsSpec)

/-- ITS FALSE NEIGHBOUR: 'it returns false'. Refute it at one input. -/
def fnExactBoardOfLengthsWrong : ChangeSpec := { name := "fnExactBoardOfLengths", fn := fun _ => fun
  | [d] => { results := [.lit (.bool false)], args := [d] }
  | _ => none }
def FnExactBoardOfLengthsWrongFalsely : Prop := fnExactBoardOfLengthsRow.holds Try.pinned (OpenSpec.ofChange fnExactBoardOfLengthsWrong)

/-- 'laws.FnExactLengthsOf': WHATEVER THE INPUT: true; the input reads as it did. -/
def fnExactLengthsOfSpec : ChangeSpec := { name := "fnExactLengthsOf", fn := fun _ => fun
  | [d] => { results := [.lit (.bool true)], args := [d] }
  | _ => none }
def fnExactLengthsOfRow : OpenClaim := { program := "ythkghbnmdebhpaa", sum := "467ae2d67259b34fc2ed8c1075a6d262db1cf8789a1ed8968c27ca07818410cf", func := "loop.example/g01125/laws.FnExactLengthsOf", spec := "fnExactLengthsOf", apart := false }
def FnExactLengthsOfSaid : Prop := fnExactLengthsOfRow.holds Try.pinned (OpenSpec.ofChange fnExactLengthsOfSpec)

/-- ITS FALSE NEIGHBOUR: 'it returns false'. Refute it at one input. -/
def fnExactLengthsOfWrong : ChangeSpec := { name := "fnExactLengthsOf", fn := fun _ => fun
  | [d] => { results := [.lit (.bool false)], args := [d] }
  | _ => none }
def FnExactLengthsOfWrongFalsely : Prop := fnExactLengthsOfRow.holds Try.pinned (OpenSpec.ofChange fnExactLengthsOfWrong)

/-- 'laws.FnExactIsOrdered': WHATEVER THE INPUT: true; the input reads as it did. -/
def fnExactIsOrderedSpec : ChangeSpec := { name := "fnExactIsOrdered", fn := fun _ => fun
  | [d] => { results := [.lit (.bool true)], args := [d] }
  | _ => none }
def fnExactIsOrderedRow : OpenClaim := { program := "ythkghbnmdebhpaa", sum := "467ae2d67259b34fc2ed8c1075a6d262db1cf8789a1ed8968c27ca07818410cf", func := "loop.example/g01125/laws.FnExactIsOrdered", spec := "fnExactIsOrdered", apart := false }
def FnExactIsOrderedSaid : Prop := fnExactIsOrderedRow.holds Try.pinned (OpenSpec.ofChange fnExactIsOrderedSpec)

/-- ITS FALSE NEIGHBOUR: 'it returns false'. Refute it at one input. -/
def fnExactIsOrderedWrong : ChangeSpec := { name := "fnExactIsOrdered", fn := fun _ => fun
  | [d] => { results := [.lit (.bool false)], args := [d] }
  | _ => none }
def FnExactIsOrderedWrongFalsely : Prop := fnExactIsOrderedRow.holds Try.pinned (OpenSpec.ofChange fnExactIsOrderedWrong)

/-- 'laws.FnExactOrderOf': WHATEVER THE INPUT: true; the input reads as it did. -/
def fnExactOrderOfSpec : ChangeSpec := { name := "fnExactOrderOf", fn := fun _ => fun
  | [d] => { results := [.lit (.bool true)], args := [d] }
  | _ => none }
def fnExactOrderOfRow : OpenClaim := { program := "ythkghbnmdebhpaa", sum := "467ae2d67259b34fc2ed8c1075a6d262db1cf8789a1ed8968c27ca07818410cf", func := "loop.example/g01125/laws.FnExactOrderOf", spec := "fnExactOrderOf", unfollowed := true, recurses := true, apart := false }
def FnExactOrderOfSaid : Prop := fnExactOrderOfRow.holds Try.pinned (OpenSpec.ofChange fnExactOrderOfSpec)

/-- ITS FALSE NEIGHBOUR: 'it returns false'. Refute it at one input. -/
def fnExactOrderOfWrong : ChangeSpec := { name := "fnExactOrderOf", fn := fun _ => fun
  | [d] => { results := [.lit (.bool false)], args := [d] }
  | _ => none }
def FnExactOrderOfWrongFalsely : Prop := fnExactOrderOfRow.holds Try.pinned (OpenSpec.ofChange fnExactOrderOfWrong)

/-- 'laws.FnExactFactorsOf': WHATEVER THE INPUT: true; the input reads as it did. -/
def fnExactFactorsOfSpec : ChangeSpec := { name := "fnExactFactorsOf", fn := fun _ => fun
  | [d] => { results := [.lit (.bool true)], args := [d] }
  | _ => none }
def fnExactFactorsOfRow : OpenClaim := { program := "ythkghbnmdebhpaa", sum := "467ae2d67259b34fc2ed8c1075a6d262db1cf8789a1ed8968c27ca07818410cf", func := "loop.example/g01125/laws.FnExactFactorsOf", spec := "fnExactFactorsOf", recurses := true, apart := false }
def FnExactFactorsOfSaid : Prop := fnExactFactorsOfRow.holds Try.pinned (OpenSpec.ofChange fnExactFactorsOfSpec)

/-- ITS FALSE NEIGHBOUR: 'it returns false'. Refute it at one input. -/
def fnExactFactorsOfWrong : ChangeSpec := { name := "fnExactFactorsOf", fn := fun _ => fun
  | [d] => { results := [.lit (.bool false)], args := [d] }
  | _ => none }
def FnExactFactorsOfWrongFalsely : Prop := fnExactFactorsOfRow.holds Try.pinned (OpenSpec.ofChange fnExactFactorsOfWrong)

/-- 'laws.FnExactProductAt': WHATEVER THE INPUT: true; the input reads as it did. -/
def fnExactProductAtSpec : ChangeSpec := { name := "fnExactProductAt", fn := fun _ => fun
  | [d1, d2] => { results := [.lit (.bool true)], args := [d1, d2] }
  | _ => none }
def fnExactProductAtRow : OpenClaim := { program := "ythkghbnmdebhpaa", sum := "467ae2d67259b34fc2ed8c1075a6d262db1cf8789a1ed8968c27ca07818410cf", func := "loop.example/g01125/laws.FnExactProductAt", spec := "fnExactProductAt", recurses := true, apart := false }
def FnExactProductAtSaid : Prop := fnExactProductAtRow.holds Try.pinned (OpenSpec.ofChange fnExactProductAtSpec)

/-- ITS FALSE NEIGHBOUR: 'it returns false'. Refute it at one input. -/
def fnExactProductAtWrong : ChangeSpec := { name := "fnExactProductAt", fn := fun _ => fun
  | [d1, d2] => { results := [.lit (.bool false)], args := [d1, d2] }
  | _ => none }
def FnExactProductAtWrongFalsely : Prop := fnExactProductAtRow.holds Try.pinned (OpenSpec.ofChange fnExactProductAtWrong)

/-- 'laws.FnExactNumbersOfLengths': WHATEVER THE INPUT: true; the input reads as it did. -/
def fnExactNumbersOfLengthsSpec : ChangeSpec := { name := "fnExactNumbersOfLengths", fn := fun _ => fun
  | [d] => { results := [.lit (.bool true)], args := [d] }
  | _ => none }
def fnExactNumbersOfLengthsRow : OpenClaim := { program := "ythkghbnmdebhpaa", sum := "467ae2d67259b34fc2ed8c1075a6d262db1cf8789a1ed8968c27ca07818410cf", func := "loop.example/g01125/laws.FnExactNumbersOfLengths", spec := "fnExactNumbersOfLengths", apart := false }
def FnExactNumbersOfLengthsSaid : Prop := fnExactNumbersOfLengthsRow.holds Try.pinned (OpenSpec.ofChange fnExactNumbersOfLengthsSpec)

/-- ITS FALSE NEIGHBOUR: 'it returns false'. Refute it at one input. -/
def fnExactNumbersOfLengthsWrong : ChangeSpec := { name := "fnExactNumbersOfLengths", fn := fun _ => fun
  | [d] => { results := [.lit (.bool false)], args := [d] }
  | _ => none }
def FnExactNumbersOfLengthsWrongFalsely : Prop := fnExactNumbersOfLengthsRow.holds Try.pinned (OpenSpec.ofChange fnExactNumbersOfLengthsWrong)

/-- 'laws.FnExactFullPlacements': WHATEVER THE INPUT: true; the input reads as it did. -/
def fnExactFullPlacementsSpec : ChangeSpec := { name := "fnExactFullPlacements", fn := fun _ => fun
  | [d] => { results := [.lit (.bool true)], args := [d] }
  | _ => none }
def fnExactFullPlacementsRow : OpenClaim := { program := "ythkghbnmdebhpaa", sum := "467ae2d67259b34fc2ed8c1075a6d262db1cf8789a1ed8968c27ca07818410cf", func := "loop.example/g01125/laws.FnExactFullPlacements", spec := "fnExactFullPlacements", recurses := true, apart := false }
def FnExactFullPlacementsSaid : Prop := fnExactFullPlacementsRow.holds Try.pinned (OpenSpec.ofChange fnExactFullPlacementsSpec)

/-- ITS FALSE NEIGHBOUR: 'it returns false'. Refute it at one input. -/
def fnExactFullPlacementsWrong : ChangeSpec := { name := "fnExactFullPlacements", fn := fun _ => fun
  | [d] => { results := [.lit (.bool false)], args := [d] }
  | _ => none }
def FnExactFullPlacementsWrongFalsely : Prop := fnExactFullPlacementsRow.holds Try.pinned (OpenSpec.ofChange fnExactFullPlacementsWrong)

/-- 'laws.FnExactAreAlikeLengths': WHATEVER THE INPUT: true; the input reads as it did. -/
def fnExactAreAlikeLengthsSpec : ChangeSpec := { name := "fnExactAreAlikeLengths", fn := fun _ => fun
  | [d1, d2] => { results := [.lit (.bool true)], args := [d1, d2] }
  | _ => none }
def fnExactAreAlikeLengthsRow : OpenClaim := { program := "ythkghbnmdebhpaa", sum := "467ae2d67259b34fc2ed8c1075a6d262db1cf8789a1ed8968c27ca07818410cf", func := "loop.example/g01125/laws.FnExactAreAlikeLengths", spec := "fnExactAreAlikeLengths", recurses := true, apart := false }
def FnExactAreAlikeLengthsSaid : Prop := fnExactAreAlikeLengthsRow.holds Try.pinned (OpenSpec.ofChange fnExactAreAlikeLengthsSpec)

/-- ITS FALSE NEIGHBOUR: 'it returns false'. Refute it at one input. -/
def fnExactAreAlikeLengthsWrong : ChangeSpec := { name := "fnExactAreAlikeLengths", fn := fun _ => fun
  | [d1, d2] => { results := [.lit (.bool false)], args := [d1, d2] }
  | _ => none }
def FnExactAreAlikeLengthsWrongFalsely : Prop := fnExactAreAlikeLengthsRow.holds Try.pinned (OpenSpec.ofChange fnExactAreAlikeLengthsWrong)

/-- 'laws.FnExactStrictOf': WHATEVER THE INPUT: true; the input reads as it did. -/
def fnExactStrictOfSpec : ChangeSpec := { name := "fnExactStrictOf", fn := fun _ => fun
  | [d] => { results := [.lit (.bool true)], args := [d] }
  | _ => none }
def fnExactStrictOfRow : OpenClaim := { program := "ythkghbnmdebhpaa", sum := "467ae2d67259b34fc2ed8c1075a6d262db1cf8789a1ed8968c27ca07818410cf", func := "loop.example/g01125/laws.FnExactStrictOf", spec := "fnExactStrictOf", recurses := true, apart := false }
def FnExactStrictOfSaid : Prop := fnExactStrictOfRow.holds Try.pinned (OpenSpec.ofChange fnExactStrictOfSpec)

/-- ITS FALSE NEIGHBOUR: 'it returns false'. Refute it at one input. -/
def fnExactStrictOfWrong : ChangeSpec := { name := "fnExactStrictOf", fn := fun _ => fun
  | [d] => { results := [.lit (.bool false)], args := [d] }
  | _ => none }
def FnExactStrictOfWrongFalsely : Prop := fnExactStrictOfRow.holds Try.pinned (OpenSpec.ofChange fnExactStrictOfWrong)

/-- 'laws.FnExactSideOfLengths': WHATEVER THE INPUT: true; the input reads as it did. -/
def fnExactSideOfLengthsSpec : ChangeSpec := { name := "fnExactSideOfLengths", fn := fun _ => fun
  | [d] => { results := [.lit (.bool true)], args := [d] }
  | _ => none }
def fnExactSideOfLengthsRow : OpenClaim := { program := "ythkghbnmdebhpaa", sum := "467ae2d67259b34fc2ed8c1075a6d262db1cf8789a1ed8968c27ca07818410cf", func := "loop.example/g01125/laws.FnExactSideOfLengths", spec := "fnExactSideOfLengths", apart := false }
def FnExactSideOfLengthsSaid : Prop := fnExactSideOfLengthsRow.holds Try.pinned (OpenSpec.ofChange fnExactSideOfLengthsSpec)

/-- ITS FALSE NEIGHBOUR: 'it returns false'. Refute it at one input. -/
def fnExactSideOfLengthsWrong : ChangeSpec := { name := "fnExactSideOfLengths", fn := fun _ => fun
  | [d] => { results := [.lit (.bool false)], args := [d] }
  | _ => none }
def FnExactSideOfLengthsWrongFalsely : Prop := fnExactSideOfLengthsRow.holds Try.pinned (OpenSpec.ofChange fnExactSideOfLengthsWrong)

/- THE SECOND FORM. 'bulk': how many values and letters a reading holds, each counted each time it is reached (what is shared counts as often as it is met; a slice's spare places count too). A statement '..UptoSaid' is the law's where the arguments, and the package variables that the reading takes, are together of bulk at most 1048576: NARROWER than '..Said'. Prove '..Said' where nothing that the law and all that it calls make is longer than what came in: it says more and counts as full. Else prove '..UptoSaid'. A law counts once. -/
mutual
def uptoBulk {H : Type} : DataW H → Nat
  | .lit (.string bytes) => bytes.length + 1
  | .lit _ => 1
  | .nil => 1
  | .ptr d => uptoBulk d + 1
  | .slice elems spare => uptoBulkAll elems + uptoBulkAll spare + 1
  | .agg parts => uptoBulkAll parts + 1
  | .iface _ d => uptoBulk d + 1
  | .map entries => uptoBulkEntries entries + 1
  | .held _ => 1
def uptoBulkAll {H : Type} : List (DataW H) → Nat
  | [] => 0
  | d :: r => uptoBulk d + uptoBulkAll r
def uptoBulkEntries {H : Type} : List (Lit × DataW H) → Nat
  | [] => 0
  | x :: r => uptoBulkEntry x + uptoBulkEntries r
def uptoBulkEntry {H : Type} : Lit × DataW H → Nat
  | (.string bytes, d) => bytes.length + uptoBulk d + 1
  | (_, d) => uptoBulk d + 1
 end
def uptoSmall : (H : Type) → List (DataW H) → Bool := fun _ ds => decide (uptoBulkAll ds ≤ 1048576)
def OpenSpec.upto (s : _root_.Go.ChangeSpec) : _root_.Go.OpenSpec := { _root_.Go.OpenSpec.ofChange s with cond := some uptoSmall }

/-- 'laws.FnExactAreLengths', WHERE WHAT IT READS IS OF BULK AT MOST 1048576: true; the input reads as it did. -/
def fnExactAreLengthsUptoRow : OpenClaim := { program := "ythkghbnmdebhpaa", sum := "467ae2d67259b34fc2ed8c1075a6d262db1cf8789a1ed8968c27ca07818410cf", func := "loop.example/g01125/laws.FnExactAreLengths", spec := "fnExactAreLengths", apart := false, narrowed := true }
def FnExactAreLengthsUptoSaid : Prop := fnExactAreLengthsUptoRow.holds Try.pinned (OpenSpec.upto fnExactAreLengthsSpec)

/-- 'laws.FnExactBoardOfLengths', WHERE WHAT IT READS IS OF BULK AT MOST 1048576: true; the input reads as it did. -/
def fnExactBoardOfLengthsUptoRow : OpenClaim := { program := "ythkghbnmdebhpaa", sum := "467ae2d67259b34fc2ed8c1075a6d262db1cf8789a1ed8968c27ca07818410cf", func := "loop.example/g01125/laws.FnExactBoardOfLengths", spec := "fnExactBoardOfLengths", apart := false, narrowed := true }
def FnExactBoardOfLengthsUptoSaid : Prop := fnExactBoardOfLengthsUptoRow.holds Try.pinned (OpenSpec.upto fnExactBoardOfLengthsSpec)

/-- 'laws.FnExactLengthsOf', WHERE WHAT IT READS IS OF BULK AT MOST 1048576: true; the input reads as it did. -/
def fnExactLengthsOfUptoRow : OpenClaim := { program := "ythkghbnmdebhpaa", sum := "467ae2d67259b34fc2ed8c1075a6d262db1cf8789a1ed8968c27ca07818410cf", func := "loop.example/g01125/laws.FnExactLengthsOf", spec := "fnExactLengthsOf", apart := false, narrowed := true }
def FnExactLengthsOfUptoSaid : Prop := fnExactLengthsOfUptoRow.holds Try.pinned (OpenSpec.upto fnExactLengthsOfSpec)

/-- 'laws.FnExactIsOrdered', WHERE WHAT IT READS IS OF BULK AT MOST 1048576: true; the input reads as it did. -/
def fnExactIsOrderedUptoRow : OpenClaim := { program := "ythkghbnmdebhpaa", sum := "467ae2d67259b34fc2ed8c1075a6d262db1cf8789a1ed8968c27ca07818410cf", func := "loop.example/g01125/laws.FnExactIsOrdered", spec := "fnExactIsOrdered", apart := false, narrowed := true }
def FnExactIsOrderedUptoSaid : Prop := fnExactIsOrderedUptoRow.holds Try.pinned (OpenSpec.upto fnExactIsOrderedSpec)

/-- 'laws.FnExactOrderOf', WHERE WHAT IT READS IS OF BULK AT MOST 1048576: true; the input reads as it did. -/
def fnExactOrderOfUptoRow : OpenClaim := { program := "ythkghbnmdebhpaa", sum := "467ae2d67259b34fc2ed8c1075a6d262db1cf8789a1ed8968c27ca07818410cf", func := "loop.example/g01125/laws.FnExactOrderOf", spec := "fnExactOrderOf", unfollowed := true, recurses := true, apart := false, narrowed := true }
def FnExactOrderOfUptoSaid : Prop := fnExactOrderOfUptoRow.holds Try.pinned (OpenSpec.upto fnExactOrderOfSpec)

/-- 'laws.FnExactFactorsOf', WHERE WHAT IT READS IS OF BULK AT MOST 1048576: true; the input reads as it did. -/
def fnExactFactorsOfUptoRow : OpenClaim := { program := "ythkghbnmdebhpaa", sum := "467ae2d67259b34fc2ed8c1075a6d262db1cf8789a1ed8968c27ca07818410cf", func := "loop.example/g01125/laws.FnExactFactorsOf", spec := "fnExactFactorsOf", recurses := true, apart := false, narrowed := true }
def FnExactFactorsOfUptoSaid : Prop := fnExactFactorsOfUptoRow.holds Try.pinned (OpenSpec.upto fnExactFactorsOfSpec)

/-- 'laws.FnExactProductAt', WHERE WHAT IT READS IS OF BULK AT MOST 1048576: true; the input reads as it did. -/
def fnExactProductAtUptoRow : OpenClaim := { program := "ythkghbnmdebhpaa", sum := "467ae2d67259b34fc2ed8c1075a6d262db1cf8789a1ed8968c27ca07818410cf", func := "loop.example/g01125/laws.FnExactProductAt", spec := "fnExactProductAt", recurses := true, apart := false, narrowed := true }
def FnExactProductAtUptoSaid : Prop := fnExactProductAtUptoRow.holds Try.pinned (OpenSpec.upto fnExactProductAtSpec)

/-- 'laws.FnExactNumbersOfLengths', WHERE WHAT IT READS IS OF BULK AT MOST 1048576: true; the input reads as it did. -/
def fnExactNumbersOfLengthsUptoRow : OpenClaim := { program := "ythkghbnmdebhpaa", sum := "467ae2d67259b34fc2ed8c1075a6d262db1cf8789a1ed8968c27ca07818410cf", func := "loop.example/g01125/laws.FnExactNumbersOfLengths", spec := "fnExactNumbersOfLengths", apart := false, narrowed := true }
def FnExactNumbersOfLengthsUptoSaid : Prop := fnExactNumbersOfLengthsUptoRow.holds Try.pinned (OpenSpec.upto fnExactNumbersOfLengthsSpec)

/-- 'laws.FnExactFullPlacements', WHERE WHAT IT READS IS OF BULK AT MOST 1048576: true; the input reads as it did. -/
def fnExactFullPlacementsUptoRow : OpenClaim := { program := "ythkghbnmdebhpaa", sum := "467ae2d67259b34fc2ed8c1075a6d262db1cf8789a1ed8968c27ca07818410cf", func := "loop.example/g01125/laws.FnExactFullPlacements", spec := "fnExactFullPlacements", recurses := true, apart := false, narrowed := true }
def FnExactFullPlacementsUptoSaid : Prop := fnExactFullPlacementsUptoRow.holds Try.pinned (OpenSpec.upto fnExactFullPlacementsSpec)

/-- 'laws.FnExactAreAlikeLengths', WHERE WHAT IT READS IS OF BULK AT MOST 1048576: true; the input reads as it did. -/
def fnExactAreAlikeLengthsUptoRow : OpenClaim := { program := "ythkghbnmdebhpaa", sum := "467ae2d67259b34fc2ed8c1075a6d262db1cf8789a1ed8968c27ca07818410cf", func := "loop.example/g01125/laws.FnExactAreAlikeLengths", spec := "fnExactAreAlikeLengths", recurses := true, apart := false, narrowed := true }
def FnExactAreAlikeLengthsUptoSaid : Prop := fnExactAreAlikeLengthsUptoRow.holds Try.pinned (OpenSpec.upto fnExactAreAlikeLengthsSpec)

/-- 'laws.FnExactStrictOf', WHERE WHAT IT READS IS OF BULK AT MOST 1048576: true; the input reads as it did. -/
def fnExactStrictOfUptoRow : OpenClaim := { program := "ythkghbnmdebhpaa", sum := "467ae2d67259b34fc2ed8c1075a6d262db1cf8789a1ed8968c27ca07818410cf", func := "loop.example/g01125/laws.FnExactStrictOf", spec := "fnExactStrictOf", recurses := true, apart := false, narrowed := true }
def FnExactStrictOfUptoSaid : Prop := fnExactStrictOfUptoRow.holds Try.pinned (OpenSpec.upto fnExactStrictOfSpec)

/-- 'laws.FnExactSideOfLengths', WHERE WHAT IT READS IS OF BULK AT MOST 1048576: true; the input reads as it did. -/
def fnExactSideOfLengthsUptoRow : OpenClaim := { program := "ythkghbnmdebhpaa", sum := "467ae2d67259b34fc2ed8c1075a6d262db1cf8789a1ed8968c27ca07818410cf", func := "loop.example/g01125/laws.FnExactSideOfLengths", spec := "fnExactSideOfLengths", apart := false, narrowed := true }
def FnExactSideOfLengthsUptoSaid : Prop := fnExactSideOfLengthsUptoRow.holds Try.pinned (OpenSpec.upto fnExactSideOfLengthsSpec)

end Rows
end Go.Proofs.Ythkghbnmdebhpaa
