/-
  No cell of these rows narrows 'for every input' (looked for: loops, veiled, ifaces, maps, wideKeys, modest, calm, conditions, laid).
  DERIVED. THE GIVEN ROWS OF THIS SEAT. 12 by the template 'for every input the law returns true; each argument reads behind the call as it read before'; 0 by the template 'total and deterministic' (their statements: YtakdiiccdkjjcabTotals.lean).
  GIVEN WITH THE SEED: the statements are not yours to turn. If you find one false, say at which input.
  Laid BY PROGRAM, IN A SANDBOX (cutbox-rows.mjs): the forced cells as the released guide's own fill.sh prints them over the translation 2aa9ca8aa3c4a2d4… (all of the seat's roots in one cut). By AI agents, Wed Nov 11 2026. No macro, syntax, notation, axiom, sorry.
-/
import Derived.Test.YtakdiiccdkjjcabChecked
import GoSem.Claim
import GoSem.ClaimJoined
import GoSem.ClaimMapViews
import Derived.JoinedTies
import Derived.KernelRfl
namespace Go.Proofs.Ytakdiiccdkjjcab
/- THE CELL 'sum', in the pinned program and in every row, IS THE sha256 OF THE DUMP (.gsa) THAT YtakdiiccdkjjcabProg.lean LOADS. Nothing in Lean hashes anything: it is a label: what it is worth is what the hold of that sum in a sandbox is worth. -/
noncomputable def Try.pinned : Pinned := { name := "ytakdiiccdkjjcab", sum := "2aa9ca8aa3c4a2d404f2a1c4549fd5e3b33ab522ec262301e11e001cf4479c64", checked := Try.checked }
namespace Rows
def none {H : Type} : Left H := { results := [], args := [] }

/-- 'laws.FnExactKingNumbers': WHATEVER THE INPUT: true; the input reads as it did. -/
def fnExactKingNumbersSpec : ChangeSpec := { name := "fnExactKingNumbers", fn := fun _ => fun
  | [d] => { results := [.lit (.bool true)], args := [d] }
  | _ => none }
def fnExactKingNumbersRow : OpenClaim := { program := "ytakdiiccdkjjcab", sum := "2aa9ca8aa3c4a2d404f2a1c4549fd5e3b33ab522ec262301e11e001cf4479c64", func := "loop.example/g01125/laws.FnExactKingNumbers", spec := "fnExactKingNumbers", apart := false }
def FnExactKingNumbersSaid : Prop := fnExactKingNumbersRow.holds Try.pinned (OpenSpec.ofChange fnExactKingNumbersSpec)

/-- ITS FALSE NEIGHBOUR: 'it returns false'. Refute it at one input. -/
def fnExactKingNumbersWrong : ChangeSpec := { name := "fnExactKingNumbers", fn := fun _ => fun
  | [d] => { results := [.lit (.bool false)], args := [d] }
  | _ => none }
def FnExactKingNumbersWrongFalsely : Prop := fnExactKingNumbersRow.holds Try.pinned (OpenSpec.ofChange fnExactKingNumbersWrong)

/-- 'laws.FnExactMostKings': WHATEVER THE INPUT: true; the input reads as it did. -/
def fnExactMostKingsSpec : ChangeSpec := { name := "fnExactMostKings", fn := fun _ => fun
  | [d] => { results := [.lit (.bool true)], args := [d] }
  | _ => none }
def fnExactMostKingsRow : OpenClaim := { program := "ytakdiiccdkjjcab", sum := "2aa9ca8aa3c4a2d404f2a1c4549fd5e3b33ab522ec262301e11e001cf4479c64", func := "loop.example/g01125/laws.FnExactMostKings", spec := "fnExactMostKings", apart := false }
def FnExactMostKingsSaid : Prop := fnExactMostKingsRow.holds Try.pinned (OpenSpec.ofChange fnExactMostKingsSpec)

/-- ITS FALSE NEIGHBOUR: 'it returns false'. Refute it at one input. -/
def fnExactMostKingsWrong : ChangeSpec := { name := "fnExactMostKings", fn := fun _ => fun
  | [d] => { results := [.lit (.bool false)], args := [d] }
  | _ => none }
def FnExactMostKingsWrongFalsely : Prop := fnExactMostKingsRow.holds Try.pinned (OpenSpec.ofChange fnExactMostKingsWrong)

/-- 'laws.FnExactFirstKings': WHATEVER THE INPUT: true; the input reads as it did. -/
def fnExactFirstKingsSpec : ChangeSpec := { name := "fnExactFirstKings", fn := fun _ => fun
  | [d1, d2] => { results := [.lit (.bool true)], args := [d1, d2] }
  | _ => none }
def fnExactFirstKingsRow : OpenClaim := { program := "ytakdiiccdkjjcab", sum := "2aa9ca8aa3c4a2d404f2a1c4549fd5e3b33ab522ec262301e11e001cf4479c64", func := "loop.example/g01125/laws.FnExactFirstKings", spec := "fnExactFirstKings", unfollowed := true, recurses := true, apart := false }
def FnExactFirstKingsSaid : Prop := fnExactFirstKingsRow.holds Try.pinned (OpenSpec.ofChange fnExactFirstKingsSpec)

/-- ITS FALSE NEIGHBOUR: 'it returns false'. Refute it at one input. -/
def fnExactFirstKingsWrong : ChangeSpec := { name := "fnExactFirstKings", fn := fun _ => fun
  | [d1, d2] => { results := [.lit (.bool false)], args := [d1, d2] }
  | _ => none }
def FnExactFirstKingsWrongFalsely : Prop := fnExactFirstKingsRow.holds Try.pinned (OpenSpec.ofChange fnExactFirstKingsWrong)

/-- 'laws.FnExactAreQuietKings': WHATEVER THE INPUT: true; the input reads as it did. -/
def fnExactAreQuietKingsSpec : ChangeSpec := { name := "fnExactAreQuietKings", fn := fun _ => fun
  | [d1, d2] => { results := [.lit (.bool true)], args := [d1, d2] }
  | _ => none }
def fnExactAreQuietKingsRow : OpenClaim := { program := "ytakdiiccdkjjcab", sum := "2aa9ca8aa3c4a2d404f2a1c4549fd5e3b33ab522ec262301e11e001cf4479c64", func := "loop.example/g01125/laws.FnExactAreQuietKings", spec := "fnExactAreQuietKings", unfollowed := true, recurses := true, apart := false }
def FnExactAreQuietKingsSaid : Prop := fnExactAreQuietKingsRow.holds Try.pinned (OpenSpec.ofChange fnExactAreQuietKingsSpec)

/-- ITS FALSE NEIGHBOUR: 'it returns false'. Refute it at one input. -/
def fnExactAreQuietKingsWrong : ChangeSpec := { name := "fnExactAreQuietKings", fn := fun _ => fun
  | [d1, d2] => { results := [.lit (.bool false)], args := [d1, d2] }
  | _ => none }
def FnExactAreQuietKingsWrongFalsely : Prop := fnExactAreQuietKingsRow.holds Try.pinned (OpenSpec.ofChange fnExactAreQuietKingsWrong)

/-- 'laws.FnExactCountBoth': WHATEVER THE INPUT: true; the input reads as it did. -/
def fnExactCountBothSpec : ChangeSpec := { name := "fnExactCountBoth", fn := fun _ => fun
  | [d1, d2] => { results := [.lit (.bool true)], args := [d1, d2] }
  | _ => none }
def fnExactCountBothRow : OpenClaim := { program := "ytakdiiccdkjjcab", sum := "2aa9ca8aa3c4a2d404f2a1c4549fd5e3b33ab522ec262301e11e001cf4479c64", func := "loop.example/g01125/laws.FnExactCountBoth", spec := "fnExactCountBoth", unfollowed := true, recurses := true, apart := false }
def FnExactCountBothSaid : Prop := fnExactCountBothRow.holds Try.pinned (OpenSpec.ofChange fnExactCountBothSpec)

/-- ITS FALSE NEIGHBOUR: 'it returns false'. Refute it at one input. -/
def fnExactCountBothWrong : ChangeSpec := { name := "fnExactCountBoth", fn := fun _ => fun
  | [d1, d2] => { results := [.lit (.bool false)], args := [d1, d2] }
  | _ => none }
def FnExactCountBothWrongFalsely : Prop := fnExactCountBothRow.holds Try.pinned (OpenSpec.ofChange fnExactCountBothWrong)

/-- 'laws.FnExactQueenPairs': WHATEVER THE INPUT: true; the input reads as it did. -/
def fnExactQueenPairsSpec : ChangeSpec := { name := "fnExactQueenPairs", fn := fun _ => fun
  | [d] => { results := [.lit (.bool true)], args := [d] }
  | _ => none }
def fnExactQueenPairsRow : OpenClaim := { program := "ytakdiiccdkjjcab", sum := "2aa9ca8aa3c4a2d404f2a1c4549fd5e3b33ab522ec262301e11e001cf4479c64", func := "loop.example/g01125/laws.FnExactQueenPairs", spec := "fnExactQueenPairs", unfollowed := true, recurses := true, apart := false }
def FnExactQueenPairsSaid : Prop := fnExactQueenPairsRow.holds Try.pinned (OpenSpec.ofChange fnExactQueenPairsSpec)

/-- ITS FALSE NEIGHBOUR: 'it returns false'. Refute it at one input. -/
def fnExactQueenPairsWrong : ChangeSpec := { name := "fnExactQueenPairs", fn := fun _ => fun
  | [d] => { results := [.lit (.bool false)], args := [d] }
  | _ => none }
def FnExactQueenPairsWrongFalsely : Prop := fnExactQueenPairsRow.holds Try.pinned (OpenSpec.ofChange fnExactQueenPairsWrong)

/-- 'laws.FnExactMirrorBoard': WHATEVER THE INPUT: true; the input reads as it did. -/
def fnExactMirrorBoardSpec : ChangeSpec := { name := "fnExactMirrorBoard", fn := fun _ => fun
  | [d] => { results := [.lit (.bool true)], args := [d] }
  | _ => none }
def fnExactMirrorBoardRow : OpenClaim := { program := "ytakdiiccdkjjcab", sum := "2aa9ca8aa3c4a2d404f2a1c4549fd5e3b33ab522ec262301e11e001cf4479c64", func := "loop.example/g01125/laws.FnExactMirrorBoard", spec := "fnExactMirrorBoard", unfollowed := true, recurses := true, apart := false }
def FnExactMirrorBoardSaid : Prop := fnExactMirrorBoardRow.holds Try.pinned (OpenSpec.ofChange fnExactMirrorBoardSpec)

/-- ITS FALSE NEIGHBOUR: 'it returns false'. Refute it at one input. -/
def fnExactMirrorBoardWrong : ChangeSpec := { name := "fnExactMirrorBoard", fn := fun _ => fun
  | [d] => { results := [.lit (.bool false)], args := [d] }
  | _ => none }
def FnExactMirrorBoardWrongFalsely : Prop := fnExactMirrorBoardRow.holds Try.pinned (OpenSpec.ofChange fnExactMirrorBoardWrong)

/-- 'laws.FnExactNumbersByCell': WHATEVER THE INPUT: true; the input reads as it did. -/
def fnExactNumbersByCellSpec : ChangeSpec := { name := "fnExactNumbersByCell", fn := fun _ => fun
  | [d1, d2, d3] => { results := [.lit (.bool true)], args := [d1, d2, d3] }
  | _ => none }
def fnExactNumbersByCellRow : OpenClaim := { program := "ytakdiiccdkjjcab", sum := "2aa9ca8aa3c4a2d404f2a1c4549fd5e3b33ab522ec262301e11e001cf4479c64", func := "loop.example/g01125/laws.FnExactNumbersByCell", spec := "fnExactNumbersByCell", unfollowed := true, recurses := true, apart := false }
def FnExactNumbersByCellSaid : Prop := fnExactNumbersByCellRow.holds Try.pinned (OpenSpec.ofChange fnExactNumbersByCellSpec)

/-- ITS FALSE NEIGHBOUR: 'it returns false'. Refute it at one input. -/
def fnExactNumbersByCellWrong : ChangeSpec := { name := "fnExactNumbersByCell", fn := fun _ => fun
  | [d1, d2, d3] => { results := [.lit (.bool false)], args := [d1, d2, d3] }
  | _ => none }
def FnExactNumbersByCellWrongFalsely : Prop := fnExactNumbersByCellRow.holds Try.pinned (OpenSpec.ofChange fnExactNumbersByCellWrong)

/-- 'laws.FnExactAllWeights': WHATEVER THE INPUT: true; the input reads as it did. -/
def fnExactAllWeightsSpec : ChangeSpec := { name := "fnExactAllWeights", fn := fun _ => fun
  | [d] => { results := [.lit (.bool true)], args := [d] }
  | _ => none }
def fnExactAllWeightsRow : OpenClaim := { program := "ytakdiiccdkjjcab", sum := "2aa9ca8aa3c4a2d404f2a1c4549fd5e3b33ab522ec262301e11e001cf4479c64", func := "loop.example/g01125/laws.FnExactAllWeights", spec := "fnExactAllWeights", apart := false }
def FnExactAllWeightsSaid : Prop := fnExactAllWeightsRow.holds Try.pinned (OpenSpec.ofChange fnExactAllWeightsSpec)

/-- ITS FALSE NEIGHBOUR: 'it returns false'. Refute it at one input. -/
def fnExactAllWeightsWrong : ChangeSpec := { name := "fnExactAllWeights", fn := fun _ => fun
  | [d] => { results := [.lit (.bool false)], args := [d] }
  | _ => none }
def FnExactAllWeightsWrongFalsely : Prop := fnExactAllWeightsRow.holds Try.pinned (OpenSpec.ofChange fnExactAllWeightsWrong)

/-- 'laws.FnExactWeightAt': WHATEVER THE INPUT: true; the input reads as it did. -/
def fnExactWeightAtSpec : ChangeSpec := { name := "fnExactWeightAt", fn := fun _ => fun
  | [d1, d2, d3] => { results := [.lit (.bool true)], args := [d1, d2, d3] }
  | _ => none }
def fnExactWeightAtRow : OpenClaim := { program := "ytakdiiccdkjjcab", sum := "2aa9ca8aa3c4a2d404f2a1c4549fd5e3b33ab522ec262301e11e001cf4479c64", func := "loop.example/g01125/laws.FnExactWeightAt", spec := "fnExactWeightAt", unfollowed := true, recurses := true, apart := false }
def FnExactWeightAtSaid : Prop := fnExactWeightAtRow.holds Try.pinned (OpenSpec.ofChange fnExactWeightAtSpec)

/-- ITS FALSE NEIGHBOUR: 'it returns false'. Refute it at one input. -/
def fnExactWeightAtWrong : ChangeSpec := { name := "fnExactWeightAt", fn := fun _ => fun
  | [d1, d2, d3] => { results := [.lit (.bool false)], args := [d1, d2, d3] }
  | _ => none }
def FnExactWeightAtWrongFalsely : Prop := fnExactWeightAtRow.holds Try.pinned (OpenSpec.ofChange fnExactWeightAtWrong)

/-- 'laws.FnExactWeightedSumAt': WHATEVER THE INPUT: true; the input reads as it did. -/
def fnExactWeightedSumAtSpec : ChangeSpec := { name := "fnExactWeightedSumAt", fn := fun _ => fun
  | [d1, d2, d3] => { results := [.lit (.bool true)], args := [d1, d2, d3] }
  | _ => none }
def fnExactWeightedSumAtRow : OpenClaim := { program := "ytakdiiccdkjjcab", sum := "2aa9ca8aa3c4a2d404f2a1c4549fd5e3b33ab522ec262301e11e001cf4479c64", func := "loop.example/g01125/laws.FnExactWeightedSumAt", spec := "fnExactWeightedSumAt", unfollowed := true, recurses := true, apart := false }
def FnExactWeightedSumAtSaid : Prop := fnExactWeightedSumAtRow.holds Try.pinned (OpenSpec.ofChange fnExactWeightedSumAtSpec)

/-- ITS FALSE NEIGHBOUR: 'it returns false'. Refute it at one input. -/
def fnExactWeightedSumAtWrong : ChangeSpec := { name := "fnExactWeightedSumAt", fn := fun _ => fun
  | [d1, d2, d3] => { results := [.lit (.bool false)], args := [d1, d2, d3] }
  | _ => none }
def FnExactWeightedSumAtWrongFalsely : Prop := fnExactWeightedSumAtRow.holds Try.pinned (OpenSpec.ofChange fnExactWeightedSumAtWrong)

/-- 'laws.FnExactRankCounts': WHATEVER THE INPUT: true; the input reads as it did. -/
def fnExactRankCountsSpec : ChangeSpec := { name := "fnExactRankCounts", fn := fun _ => fun
  | [d1, d2] => { results := [.lit (.bool true)], args := [d1, d2] }
  | _ => none }
def fnExactRankCountsRow : OpenClaim := { program := "ytakdiiccdkjjcab", sum := "2aa9ca8aa3c4a2d404f2a1c4549fd5e3b33ab522ec262301e11e001cf4479c64", func := "loop.example/g01125/laws.FnExactRankCounts", spec := "fnExactRankCounts", unfollowed := true, recurses := true, apart := false }
def FnExactRankCountsSaid : Prop := fnExactRankCountsRow.holds Try.pinned (OpenSpec.ofChange fnExactRankCountsSpec)

/-- ITS FALSE NEIGHBOUR: 'it returns false'. Refute it at one input. -/
def fnExactRankCountsWrong : ChangeSpec := { name := "fnExactRankCounts", fn := fun _ => fun
  | [d1, d2] => { results := [.lit (.bool false)], args := [d1, d2] }
  | _ => none }
def FnExactRankCountsWrongFalsely : Prop := fnExactRankCountsRow.holds Try.pinned (OpenSpec.ofChange fnExactRankCountsWrong)

/- THE SECOND FORM. 'bulk': how many values and letters a reading holds, each counted each time it is reached (what is shared counts as often as it is met; a slice's spare places count too). A statement '..UptoSaid' is the law's where the arguments, and the package variables that the reading takes, are together of bulk at most 1048576: NARROWER than '..Said'. Prove '..Said' where nothing that the law and all that it calls make is longer than what came in: it says more and counts as full. Else prove '..UptoSaid'. A law counts once. -/
mutual
def uptoBulk {H : Type} : DataW H → Nat
  | .lit (.string bytes) => bytes.length + 1
  | .lit _ => 1
  | .nil => 1
  | .ptr d => uptoBulk d + 1
  | .slice elems spare => uptoBulkAll elems + uptoBulkAll spare + 1
  | .agg parts => uptoBulkAll parts + 1
  | .iface _ d => uptoBulk d + 1
  | .map entries => uptoBulkEntries entries + 1
  | .held _ => 1
def uptoBulkAll {H : Type} : List (DataW H) → Nat
  | [] => 0
  | d :: r => uptoBulk d + uptoBulkAll r
def uptoBulkEntries {H : Type} : List (Lit × DataW H) → Nat
  | [] => 0
  | x :: r => uptoBulkEntry x + uptoBulkEntries r
def uptoBulkEntry {H : Type} : Lit × DataW H → Nat
  | (.string bytes, d) => bytes.length + uptoBulk d + 1
  | (_, d) => uptoBulk d + 1
 end
def uptoSmall : (H : Type) → List (DataW H) → Bool := fun _ ds => decide (uptoBulkAll ds ≤ 1048576)
def OpenSpec.upto (s : _root_.Go.ChangeSpec) : _root_.Go.OpenSpec := { _root_.Go.OpenSpec.ofChange s with cond := some uptoSmall }

/-- 'laws.FnExactKingNumbers', WHERE WHAT IT READS IS OF BULK AT MOST 1048576: true; the input reads as it did. -/
def fnExactKingNumbersUptoRow : OpenClaim := { program := "ytakdiiccdkjjcab", sum := "2aa9ca8aa3c4a2d404f2a1c4549fd5e3b33ab522ec262301e11e001cf4479c64", func := "loop.example/g01125/laws.FnExactKingNumbers", spec := "fnExactKingNumbers", apart := false, narrowed := true }
def FnExactKingNumbersUptoSaid : Prop := fnExactKingNumbersUptoRow.holds Try.pinned (OpenSpec.upto fnExactKingNumbersSpec)

/-- 'laws.FnExactMostKings', WHERE WHAT IT READS IS OF BULK AT MOST 1048576: true; the input reads as it did. -/
def fnExactMostKingsUptoRow : OpenClaim := { program := "ytakdiiccdkjjcab", sum := "2aa9ca8aa3c4a2d404f2a1c4549fd5e3b33ab522ec262301e11e001cf4479c64", func := "loop.example/g01125/laws.FnExactMostKings", spec := "fnExactMostKings", apart := false, narrowed := true }
def FnExactMostKingsUptoSaid : Prop := fnExactMostKingsUptoRow.holds Try.pinned (OpenSpec.upto fnExactMostKingsSpec)

/-- 'laws.FnExactFirstKings', WHERE WHAT IT READS IS OF BULK AT MOST 1048576: true; the input reads as it did. -/
def fnExactFirstKingsUptoRow : OpenClaim := { program := "ytakdiiccdkjjcab", sum := "2aa9ca8aa3c4a2d404f2a1c4549fd5e3b33ab522ec262301e11e001cf4479c64", func := "loop.example/g01125/laws.FnExactFirstKings", spec := "fnExactFirstKings", unfollowed := true, recurses := true, apart := false, narrowed := true }
def FnExactFirstKingsUptoSaid : Prop := fnExactFirstKingsUptoRow.holds Try.pinned (OpenSpec.upto fnExactFirstKingsSpec)

/-- 'laws.FnExactAreQuietKings', WHERE WHAT IT READS IS OF BULK AT MOST 1048576: true; the input reads as it did. -/
def fnExactAreQuietKingsUptoRow : OpenClaim := { program := "ytakdiiccdkjjcab", sum := "2aa9ca8aa3c4a2d404f2a1c4549fd5e3b33ab522ec262301e11e001cf4479c64", func := "loop.example/g01125/laws.FnExactAreQuietKings", spec := "fnExactAreQuietKings", unfollowed := true, recurses := true, apart := false, narrowed := true }
def FnExactAreQuietKingsUptoSaid : Prop := fnExactAreQuietKingsUptoRow.holds Try.pinned (OpenSpec.upto fnExactAreQuietKingsSpec)

/-- 'laws.FnExactCountBoth', WHERE WHAT IT READS IS OF BULK AT MOST 1048576: true; the input reads as it did. -/
def fnExactCountBothUptoRow : OpenClaim := { program := "ytakdiiccdkjjcab", sum := "2aa9ca8aa3c4a2d404f2a1c4549fd5e3b33ab522ec262301e11e001cf4479c64", func := "loop.example/g01125/laws.FnExactCountBoth", spec := "fnExactCountBoth", unfollowed := true, recurses := true, apart := false, narrowed := true }
def FnExactCountBothUptoSaid : Prop := fnExactCountBothUptoRow.holds Try.pinned (OpenSpec.upto fnExactCountBothSpec)

/-- 'laws.FnExactQueenPairs', WHERE WHAT IT READS IS OF BULK AT MOST 1048576: true; the input reads as it did. -/
def fnExactQueenPairsUptoRow : OpenClaim := { program := "ytakdiiccdkjjcab", sum := "2aa9ca8aa3c4a2d404f2a1c4549fd5e3b33ab522ec262301e11e001cf4479c64", func := "loop.example/g01125/laws.FnExactQueenPairs", spec := "fnExactQueenPairs", unfollowed := true, recurses := true, apart := false, narrowed := true }
def FnExactQueenPairsUptoSaid : Prop := fnExactQueenPairsUptoRow.holds Try.pinned (OpenSpec.upto fnExactQueenPairsSpec)

/-- 'laws.FnExactMirrorBoard', WHERE WHAT IT READS IS OF BULK AT MOST 1048576: true; the input reads as it did. -/
def fnExactMirrorBoardUptoRow : OpenClaim := { program := "ytakdiiccdkjjcab", sum := "2aa9ca8aa3c4a2d404f2a1c4549fd5e3b33ab522ec262301e11e001cf4479c64", func := "loop.example/g01125/laws.FnExactMirrorBoard", spec := "fnExactMirrorBoard", unfollowed := true, recurses := true, apart := false, narrowed := true }
def FnExactMirrorBoardUptoSaid : Prop := fnExactMirrorBoardUptoRow.holds Try.pinned (OpenSpec.upto fnExactMirrorBoardSpec)

/-- 'laws.FnExactNumbersByCell', WHERE WHAT IT READS IS OF BULK AT MOST 1048576: true; the input reads as it did. -/
def fnExactNumbersByCellUptoRow : OpenClaim := { program := "ytakdiiccdkjjcab", sum := "2aa9ca8aa3c4a2d404f2a1c4549fd5e3b33ab522ec262301e11e001cf4479c64", func := "loop.example/g01125/laws.FnExactNumbersByCell", spec := "fnExactNumbersByCell", unfollowed := true, recurses := true, apart := false, narrowed := true }
def FnExactNumbersByCellUptoSaid : Prop := fnExactNumbersByCellUptoRow.holds Try.pinned (OpenSpec.upto fnExactNumbersByCellSpec)

/-- 'laws.FnExactAllWeights', WHERE WHAT IT READS IS OF BULK AT MOST 1048576: true; the input reads as it did. -/
def fnExactAllWeightsUptoRow : OpenClaim := { program := "ytakdiiccdkjjcab", sum := "2aa9ca8aa3c4a2d404f2a1c4549fd5e3b33ab522ec262301e11e001cf4479c64", func := "loop.example/g01125/laws.FnExactAllWeights", spec := "fnExactAllWeights", apart := false, narrowed := true }
def FnExactAllWeightsUptoSaid : Prop := fnExactAllWeightsUptoRow.holds Try.pinned (OpenSpec.upto fnExactAllWeightsSpec)

/-- 'laws.FnExactWeightAt', WHERE WHAT IT READS IS OF BULK AT MOST 1048576: true; the input reads as it did. -/
def fnExactWeightAtUptoRow : OpenClaim := { program := "ytakdiiccdkjjcab", sum := "2aa9ca8aa3c4a2d404f2a1c4549fd5e3b33ab522ec262301e11e001cf4479c64", func := "loop.example/g01125/laws.FnExactWeightAt", spec := "fnExactWeightAt", unfollowed := true, recurses := true, apart := false, narrowed := true }
def FnExactWeightAtUptoSaid : Prop := fnExactWeightAtUptoRow.holds Try.pinned (OpenSpec.upto fnExactWeightAtSpec)

/-- 'laws.FnExactWeightedSumAt', WHERE WHAT IT READS IS OF BULK AT MOST 1048576: true; the input reads as it did. -/
def fnExactWeightedSumAtUptoRow : OpenClaim := { program := "ytakdiiccdkjjcab", sum := "2aa9ca8aa3c4a2d404f2a1c4549fd5e3b33ab522ec262301e11e001cf4479c64", func := "loop.example/g01125/laws.FnExactWeightedSumAt", spec := "fnExactWeightedSumAt", unfollowed := true, recurses := true, apart := false, narrowed := true }
def FnExactWeightedSumAtUptoSaid : Prop := fnExactWeightedSumAtUptoRow.holds Try.pinned (OpenSpec.upto fnExactWeightedSumAtSpec)

/-- 'laws.FnExactRankCounts', WHERE WHAT IT READS IS OF BULK AT MOST 1048576: true; the input reads as it did. -/
def fnExactRankCountsUptoRow : OpenClaim := { program := "ytakdiiccdkjjcab", sum := "2aa9ca8aa3c4a2d404f2a1c4549fd5e3b33ab522ec262301e11e001cf4479c64", func := "loop.example/g01125/laws.FnExactRankCounts", spec := "fnExactRankCounts", unfollowed := true, recurses := true, apart := false, narrowed := true }
def FnExactRankCountsUptoSaid : Prop := fnExactRankCountsUptoRow.holds Try.pinned (OpenSpec.upto fnExactRankCountsSpec)

end Rows
end Go.Proofs.Ytakdiiccdkjjcab
