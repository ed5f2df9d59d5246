/-
  No cell of these rows narrows 'for every input' (looked for: loops, veiled, ifaces, maps, wideKeys, modest, calm, conditions, laid).
  DERIVED. THE GIVEN ROWS OF THIS SEAT. 12 by the template 'for every input the law returns true; each argument reads behind the call as it read before'; 0 by the template 'total and deterministic' (their statements: YtdgkcfpfldaopaaTotals.lean).
  GIVEN WITH THE SEED: the statements are not yours to turn. If you find one false, say at which input.
  Laid BY PROGRAM, IN A SANDBOX (cutbox-rows.mjs): the forced cells as the released guide's own fill.sh prints them over the translation 2ed91637cefc23a7… (all of the seat's roots in one cut). By AI agents, Wed Nov 11 2026. No macro, syntax, notation, axiom, sorry.
-/
import Derived.Test.YtdgkcfpfldaopaaChecked
import GoSem.Claim
import GoSem.ClaimJoined
import GoSem.ClaimMapViews
import Derived.JoinedTies
import Derived.KernelRfl
namespace Go.Proofs.Ytdgkcfpfldaopaa
/- THE CELL 'sum', in the pinned program and in every row, IS THE sha256 OF THE DUMP (.gsa) THAT YtdgkcfpfldaopaaProg.lean LOADS. Nothing in Lean hashes anything: it is a label: what it is worth is what the hold of that sum in a sandbox is worth. -/
noncomputable def Try.pinned : Pinned := { name := "ytdgkcfpfldaopaa", sum := "2ed91637cefc23a769e895d2e9cf40d4c48bd4625ab03bbc1374355f6de4f31c", checked := Try.checked }
namespace Rows
def none {H : Type} : Left H := { results := [], args := [] }

/-- 'laws.FnExactBoardOfLengths': WHATEVER THE INPUT: true; the input reads as it did. -/
def fnExactBoardOfLengthsSpec : ChangeSpec := { name := "fnExactBoardOfLengths", fn := fun _ => fun
  | [d] => { results := [.lit (.bool true)], args := [d] }
  | _ => none }
def fnExactBoardOfLengthsRow : OpenClaim := { program := "ytdgkcfpfldaopaa", sum := "2ed91637cefc23a769e895d2e9cf40d4c48bd4625ab03bbc1374355f6de4f31c", func := "loop.example/g01125/laws.FnExactBoardOfLengths", spec := "fnExactBoardOfLengths", apart := false }
def FnExactBoardOfLengthsSaid : Prop := fnExactBoardOfLengthsRow.holds Try.pinned (OpenSpec.ofChange fnExactBoardOfLengthsSpec)

/-- ITS FALSE NEIGHBOUR: 'it returns false'. Refute it at one input. -/
def fnExactBoardOfLengthsWrong : ChangeSpec := { name := "fnExactBoardOfLengths", fn := fun _ => fun
  | [d] => { results := [.lit (.bool false)], args := [d] }
  | _ => none }
def FnExactBoardOfLengthsWrongFalsely : Prop := fnExactBoardOfLengthsRow.holds Try.pinned (OpenSpec.ofChange fnExactBoardOfLengthsWrong)

/-- 'laws.FnExactRookPolynomialAt': WHATEVER THE INPUT: true; the input reads as it did. -/
def fnExactRookPolynomialAtSpec : ChangeSpec := { name := "fnExactRookPolynomialAt", fn := fun _ => fun
  | [d1, d2] => { results := [.lit (.bool true)], args := [d1, d2] }
  | _ => none }
def fnExactRookPolynomialAtRow : OpenClaim := { program := "ytdgkcfpfldaopaa", sum := "2ed91637cefc23a769e895d2e9cf40d4c48bd4625ab03bbc1374355f6de4f31c", func := "loop.example/g01125/laws.FnExactRookPolynomialAt", spec := "fnExactRookPolynomialAt", unfollowed := true, recurses := true, apart := false }
def FnExactRookPolynomialAtSaid : Prop := fnExactRookPolynomialAtRow.holds Try.pinned (OpenSpec.ofChange fnExactRookPolynomialAtSpec)

/-- ITS FALSE NEIGHBOUR: 'it returns false'. Refute it at one input. -/
def fnExactRookPolynomialAtWrong : ChangeSpec := { name := "fnExactRookPolynomialAt", fn := fun _ => fun
  | [d1, d2] => { results := [.lit (.bool false)], args := [d1, d2] }
  | _ => none }
def FnExactRookPolynomialAtWrongFalsely : Prop := fnExactRookPolynomialAtRow.holds Try.pinned (OpenSpec.ofChange fnExactRookPolynomialAtWrong)

/-- 'laws.FnExactFreeCells': WHATEVER THE INPUT: true; the input reads as it did. -/
def fnExactFreeCellsSpec : ChangeSpec := { name := "fnExactFreeCells", fn := fun _ => fun
  | [d1, d2] => { results := [.lit (.bool true)], args := [d1, d2] }
  | _ => none }
def fnExactFreeCellsRow : OpenClaim := { program := "ytdgkcfpfldaopaa", sum := "2ed91637cefc23a769e895d2e9cf40d4c48bd4625ab03bbc1374355f6de4f31c", func := "loop.example/g01125/laws.FnExactFreeCells", spec := "fnExactFreeCells", apart := false }
def FnExactFreeCellsSaid : Prop := fnExactFreeCellsRow.holds Try.pinned (OpenSpec.ofChange fnExactFreeCellsSpec)

/-- ITS FALSE NEIGHBOUR: 'it returns false'. Refute it at one input. -/
def fnExactFreeCellsWrong : ChangeSpec := { name := "fnExactFreeCells", fn := fun _ => fun
  | [d1, d2] => { results := [.lit (.bool false)], args := [d1, d2] }
  | _ => none }
def FnExactFreeCellsWrongFalsely : Prop := fnExactFreeCellsRow.holds Try.pinned (OpenSpec.ofChange fnExactFreeCellsWrong)

/-- 'laws.FnExactWeightsOf': WHATEVER THE INPUT: true; the input reads as it did. -/
def fnExactWeightsOfSpec : ChangeSpec := { name := "fnExactWeightsOf", fn := fun _ => fun
  | [d1, d2] => { results := [.lit (.bool true)], args := [d1, d2] }
  | _ => none }
def fnExactWeightsOfRow : OpenClaim := { program := "ytdgkcfpfldaopaa", sum := "2ed91637cefc23a769e895d2e9cf40d4c48bd4625ab03bbc1374355f6de4f31c", func := "loop.example/g01125/laws.FnExactWeightsOf", spec := "fnExactWeightsOf", unfollowed := true, recurses := true, apart := false }
def FnExactWeightsOfSaid : Prop := fnExactWeightsOfRow.holds Try.pinned (OpenSpec.ofChange fnExactWeightsOfSpec)

/-- ITS FALSE NEIGHBOUR: 'it returns false'. Refute it at one input. -/
def fnExactWeightsOfWrong : ChangeSpec := { name := "fnExactWeightsOf", fn := fun _ => fun
  | [d1, d2] => { results := [.lit (.bool false)], args := [d1, d2] }
  | _ => none }
def FnExactWeightsOfWrongFalsely : Prop := fnExactWeightsOfRow.holds Try.pinned (OpenSpec.ofChange fnExactWeightsOfWrong)

/-- 'laws.FnExactAllWeights': WHATEVER THE INPUT: true; the input reads as it did. -/
def fnExactAllWeightsSpec : ChangeSpec := { name := "fnExactAllWeights", fn := fun _ => fun
  | [d] => { results := [.lit (.bool true)], args := [d] }
  | _ => none }
def fnExactAllWeightsRow : OpenClaim := { program := "ytdgkcfpfldaopaa", sum := "2ed91637cefc23a769e895d2e9cf40d4c48bd4625ab03bbc1374355f6de4f31c", func := "loop.example/g01125/laws.FnExactAllWeights", spec := "fnExactAllWeights", apart := false }
def FnExactAllWeightsSaid : Prop := fnExactAllWeightsRow.holds Try.pinned (OpenSpec.ofChange fnExactAllWeightsSpec)

/-- ITS FALSE NEIGHBOUR: 'it returns false'. Refute it at one input. -/
def fnExactAllWeightsWrong : ChangeSpec := { name := "fnExactAllWeights", fn := fun _ => fun
  | [d] => { results := [.lit (.bool false)], args := [d] }
  | _ => none }
def FnExactAllWeightsWrongFalsely : Prop := fnExactAllWeightsRow.holds Try.pinned (OpenSpec.ofChange fnExactAllWeightsWrong)

/-- 'laws.FnExactWeightAt': WHATEVER THE INPUT: true; the input reads as it did. -/
def fnExactWeightAtSpec : ChangeSpec := { name := "fnExactWeightAt", fn := fun _ => fun
  | [d1, d2, d3] => { results := [.lit (.bool true)], args := [d1, d2, d3] }
  | _ => none }
def fnExactWeightAtRow : OpenClaim := { program := "ytdgkcfpfldaopaa", sum := "2ed91637cefc23a769e895d2e9cf40d4c48bd4625ab03bbc1374355f6de4f31c", func := "loop.example/g01125/laws.FnExactWeightAt", spec := "fnExactWeightAt", unfollowed := true, recurses := true, apart := false }
def FnExactWeightAtSaid : Prop := fnExactWeightAtRow.holds Try.pinned (OpenSpec.ofChange fnExactWeightAtSpec)

/-- ITS FALSE NEIGHBOUR: 'it returns false'. Refute it at one input. -/
def fnExactWeightAtWrong : ChangeSpec := { name := "fnExactWeightAt", fn := fun _ => fun
  | [d1, d2, d3] => { results := [.lit (.bool false)], args := [d1, d2, d3] }
  | _ => none }
def FnExactWeightAtWrongFalsely : Prop := fnExactWeightAtRow.holds Try.pinned (OpenSpec.ofChange fnExactWeightAtWrong)

/-- 'laws.FnExactBracketOf': WHATEVER THE INPUT: true; the input reads as it did. -/
def fnExactBracketOfSpec : ChangeSpec := { name := "fnExactBracketOf", fn := fun _ => fun
  | [d1, d2] => { results := [.lit (.bool true)], args := [d1, d2] }
  | _ => none }
def fnExactBracketOfRow : OpenClaim := { program := "ytdgkcfpfldaopaa", sum := "2ed91637cefc23a769e895d2e9cf40d4c48bd4625ab03bbc1374355f6de4f31c", func := "loop.example/g01125/laws.FnExactBracketOf", spec := "fnExactBracketOf", unfollowed := true, recurses := true, apart := false }
def FnExactBracketOfSaid : Prop := fnExactBracketOfRow.holds Try.pinned (OpenSpec.ofChange fnExactBracketOfSpec)

/-- ITS FALSE NEIGHBOUR: 'it returns false'. Refute it at one input. -/
def fnExactBracketOfWrong : ChangeSpec := { name := "fnExactBracketOf", fn := fun _ => fun
  | [d1, d2] => { results := [.lit (.bool false)], args := [d1, d2] }
  | _ => none }
def FnExactBracketOfWrongFalsely : Prop := fnExactBracketOfRow.holds Try.pinned (OpenSpec.ofChange fnExactBracketOfWrong)

/-- 'laws.FnExactWeightedSumAt': WHATEVER THE INPUT: true; the input reads as it did. -/
def fnExactWeightedSumAtSpec : ChangeSpec := { name := "fnExactWeightedSumAt", fn := fun _ => fun
  | [d1, d2, d3] => { results := [.lit (.bool true)], args := [d1, d2, d3] }
  | _ => none }
def fnExactWeightedSumAtRow : OpenClaim := { program := "ytdgkcfpfldaopaa", sum := "2ed91637cefc23a769e895d2e9cf40d4c48bd4625ab03bbc1374355f6de4f31c", func := "loop.example/g01125/laws.FnExactWeightedSumAt", spec := "fnExactWeightedSumAt", unfollowed := true, recurses := true, apart := false }
def FnExactWeightedSumAtSaid : Prop := fnExactWeightedSumAtRow.holds Try.pinned (OpenSpec.ofChange fnExactWeightedSumAtSpec)

/-- ITS FALSE NEIGHBOUR: 'it returns false'. Refute it at one input. -/
def fnExactWeightedSumAtWrong : ChangeSpec := { name := "fnExactWeightedSumAt", fn := fun _ => fun
  | [d1, d2, d3] => { results := [.lit (.bool false)], args := [d1, d2, d3] }
  | _ => none }
def FnExactWeightedSumAtWrongFalsely : Prop := fnExactWeightedSumAtRow.holds Try.pinned (OpenSpec.ofChange fnExactWeightedSumAtWrong)

/-- 'laws.FnExactWeightedProductAt': WHATEVER THE INPUT: true; the input reads as it did. -/
def fnExactWeightedProductAtSpec : ChangeSpec := { name := "fnExactWeightedProductAt", fn := fun _ => fun
  | [d1, d2, d3] => { results := [.lit (.bool true)], args := [d1, d2, d3] }
  | _ => none }
def fnExactWeightedProductAtRow : OpenClaim := { program := "ytdgkcfpfldaopaa", sum := "2ed91637cefc23a769e895d2e9cf40d4c48bd4625ab03bbc1374355f6de4f31c", func := "loop.example/g01125/laws.FnExactWeightedProductAt", spec := "fnExactWeightedProductAt", unfollowed := true, recurses := true, apart := false }
def FnExactWeightedProductAtSaid : Prop := fnExactWeightedProductAtRow.holds Try.pinned (OpenSpec.ofChange fnExactWeightedProductAtSpec)

/-- ITS FALSE NEIGHBOUR: 'it returns false'. Refute it at one input. -/
def fnExactWeightedProductAtWrong : ChangeSpec := { name := "fnExactWeightedProductAt", fn := fun _ => fun
  | [d1, d2, d3] => { results := [.lit (.bool false)], args := [d1, d2, d3] }
  | _ => none }
def FnExactWeightedProductAtWrongFalsely : Prop := fnExactWeightedProductAtRow.holds Try.pinned (OpenSpec.ofChange fnExactWeightedProductAtWrong)

/-- 'laws.FnExactRankCounts': WHATEVER THE INPUT: true; the input reads as it did. -/
def fnExactRankCountsSpec : ChangeSpec := { name := "fnExactRankCounts", fn := fun _ => fun
  | [d1, d2] => { results := [.lit (.bool true)], args := [d1, d2] }
  | _ => none }
def fnExactRankCountsRow : OpenClaim := { program := "ytdgkcfpfldaopaa", sum := "2ed91637cefc23a769e895d2e9cf40d4c48bd4625ab03bbc1374355f6de4f31c", func := "loop.example/g01125/laws.FnExactRankCounts", spec := "fnExactRankCounts", unfollowed := true, recurses := true, apart := false }
def FnExactRankCountsSaid : Prop := fnExactRankCountsRow.holds Try.pinned (OpenSpec.ofChange fnExactRankCountsSpec)

/-- ITS FALSE NEIGHBOUR: 'it returns false'. Refute it at one input. -/
def fnExactRankCountsWrong : ChangeSpec := { name := "fnExactRankCounts", fn := fun _ => fun
  | [d1, d2] => { results := [.lit (.bool false)], args := [d1, d2] }
  | _ => none }
def FnExactRankCountsWrongFalsely : Prop := fnExactRankCountsRow.holds Try.pinned (OpenSpec.ofChange fnExactRankCountsWrong)

/-- 'laws.FnExactInvertibleCount': WHATEVER THE INPUT: true; the input reads as it did. -/
def fnExactInvertibleCountSpec : ChangeSpec := { name := "fnExactInvertibleCount", fn := fun _ => fun
  | [d1, d2] => { results := [.lit (.bool true)], args := [d1, d2] }
  | _ => none }
def fnExactInvertibleCountRow : OpenClaim := { program := "ytdgkcfpfldaopaa", sum := "2ed91637cefc23a769e895d2e9cf40d4c48bd4625ab03bbc1374355f6de4f31c", func := "loop.example/g01125/laws.FnExactInvertibleCount", spec := "fnExactInvertibleCount", unfollowed := true, recurses := true, apart := false }
def FnExactInvertibleCountSaid : Prop := fnExactInvertibleCountRow.holds Try.pinned (OpenSpec.ofChange fnExactInvertibleCountSpec)

/-- ITS FALSE NEIGHBOUR: 'it returns false'. Refute it at one input. -/
def fnExactInvertibleCountWrong : ChangeSpec := { name := "fnExactInvertibleCount", fn := fun _ => fun
  | [d1, d2] => { results := [.lit (.bool false)], args := [d1, d2] }
  | _ => none }
def FnExactInvertibleCountWrongFalsely : Prop := fnExactInvertibleCountRow.holds Try.pinned (OpenSpec.ofChange fnExactInvertibleCountWrong)

/-- 'laws.FnExactFitsBoard': WHATEVER THE INPUT: true; the input reads as it did. -/
def fnExactFitsBoardSpec : ChangeSpec := { name := "fnExactFitsBoard", fn := fun _ => fun
  | [d1, d2, d3] => { results := [.lit (.bool true)], args := [d1, d2, d3] }
  | _ => none }
def fnExactFitsBoardRow : OpenClaim := { program := "ytdgkcfpfldaopaa", sum := "2ed91637cefc23a769e895d2e9cf40d4c48bd4625ab03bbc1374355f6de4f31c", func := "loop.example/g01125/laws.FnExactFitsBoard", spec := "fnExactFitsBoard", unfollowed := true, recurses := true, apart := false }
def FnExactFitsBoardSaid : Prop := fnExactFitsBoardRow.holds Try.pinned (OpenSpec.ofChange fnExactFitsBoardSpec)

/-- ITS FALSE NEIGHBOUR: 'it returns false'. Refute it at one input. -/
def fnExactFitsBoardWrong : ChangeSpec := { name := "fnExactFitsBoard", fn := fun _ => fun
  | [d1, d2, d3] => { results := [.lit (.bool false)], args := [d1, d2, d3] }
  | _ => none }
def FnExactFitsBoardWrongFalsely : Prop := fnExactFitsBoardRow.holds Try.pinned (OpenSpec.ofChange fnExactFitsBoardWrong)

/- THE SECOND FORM. 'bulk': how many values and letters a reading holds, each counted each time it is reached (what is shared counts as often as it is met; a slice's spare places count too). A statement '..UptoSaid' is the law's where the arguments, and the package variables that the reading takes, are together of bulk at most 1048576: NARROWER than '..Said'. Prove '..Said' where nothing that the law and all that it calls make is longer than what came in: it says more and counts as full. Else prove '..UptoSaid'. A law counts once. -/
mutual
def uptoBulk {H : Type} : DataW H → Nat
  | .lit (.string bytes) => bytes.length + 1
  | .lit _ => 1
  | .nil => 1
  | .ptr d => uptoBulk d + 1
  | .slice elems spare => uptoBulkAll elems + uptoBulkAll spare + 1
  | .agg parts => uptoBulkAll parts + 1
  | .iface _ d => uptoBulk d + 1
  | .map entries => uptoBulkEntries entries + 1
  | .held _ => 1
def uptoBulkAll {H : Type} : List (DataW H) → Nat
  | [] => 0
  | d :: r => uptoBulk d + uptoBulkAll r
def uptoBulkEntries {H : Type} : List (Lit × DataW H) → Nat
  | [] => 0
  | x :: r => uptoBulkEntry x + uptoBulkEntries r
def uptoBulkEntry {H : Type} : Lit × DataW H → Nat
  | (.string bytes, d) => bytes.length + uptoBulk d + 1
  | (_, d) => uptoBulk d + 1
 end
def uptoSmall : (H : Type) → List (DataW H) → Bool := fun _ ds => decide (uptoBulkAll ds ≤ 1048576)
def OpenSpec.upto (s : _root_.Go.ChangeSpec) : _root_.Go.OpenSpec := { _root_.Go.OpenSpec.ofChange s with cond := some uptoSmall }

/-- 'laws.FnExactBoardOfLengths', WHERE WHAT IT READS IS OF BULK AT MOST 1048576: true; the input reads as it did. -/
def fnExactBoardOfLengthsUptoRow : OpenClaim := { program := "ytdgkcfpfldaopaa", sum := "2ed91637cefc23a769e895d2e9cf40d4c48bd4625ab03bbc1374355f6de4f31c", func := "loop.example/g01125/laws.FnExactBoardOfLengths", spec := "fnExactBoardOfLengths", apart := false, narrowed := true }
def FnExactBoardOfLengthsUptoSaid : Prop := fnExactBoardOfLengthsUptoRow.holds Try.pinned (OpenSpec.upto fnExactBoardOfLengthsSpec)

/-- 'laws.FnExactRookPolynomialAt', WHERE WHAT IT READS IS OF BULK AT MOST 1048576: true; the input reads as it did. -/
def fnExactRookPolynomialAtUptoRow : OpenClaim := { program := "ytdgkcfpfldaopaa", sum := "2ed91637cefc23a769e895d2e9cf40d4c48bd4625ab03bbc1374355f6de4f31c", func := "loop.example/g01125/laws.FnExactRookPolynomialAt", spec := "fnExactRookPolynomialAt", unfollowed := true, recurses := true, apart := false, narrowed := true }
def FnExactRookPolynomialAtUptoSaid : Prop := fnExactRookPolynomialAtUptoRow.holds Try.pinned (OpenSpec.upto fnExactRookPolynomialAtSpec)

/-- 'laws.FnExactFreeCells', WHERE WHAT IT READS IS OF BULK AT MOST 1048576: true; the input reads as it did. -/
def fnExactFreeCellsUptoRow : OpenClaim := { program := "ytdgkcfpfldaopaa", sum := "2ed91637cefc23a769e895d2e9cf40d4c48bd4625ab03bbc1374355f6de4f31c", func := "loop.example/g01125/laws.FnExactFreeCells", spec := "fnExactFreeCells", apart := false, narrowed := true }
def FnExactFreeCellsUptoSaid : Prop := fnExactFreeCellsUptoRow.holds Try.pinned (OpenSpec.upto fnExactFreeCellsSpec)

/-- 'laws.FnExactWeightsOf', WHERE WHAT IT READS IS OF BULK AT MOST 1048576: true; the input reads as it did. -/
def fnExactWeightsOfUptoRow : OpenClaim := { program := "ytdgkcfpfldaopaa", sum := "2ed91637cefc23a769e895d2e9cf40d4c48bd4625ab03bbc1374355f6de4f31c", func := "loop.example/g01125/laws.FnExactWeightsOf", spec := "fnExactWeightsOf", unfollowed := true, recurses := true, apart := false, narrowed := true }
def FnExactWeightsOfUptoSaid : Prop := fnExactWeightsOfUptoRow.holds Try.pinned (OpenSpec.upto fnExactWeightsOfSpec)

/-- 'laws.FnExactAllWeights', WHERE WHAT IT READS IS OF BULK AT MOST 1048576: true; the input reads as it did. -/
def fnExactAllWeightsUptoRow : OpenClaim := { program := "ytdgkcfpfldaopaa", sum := "2ed91637cefc23a769e895d2e9cf40d4c48bd4625ab03bbc1374355f6de4f31c", func := "loop.example/g01125/laws.FnExactAllWeights", spec := "fnExactAllWeights", apart := false, narrowed := true }
def FnExactAllWeightsUptoSaid : Prop := fnExactAllWeightsUptoRow.holds Try.pinned (OpenSpec.upto fnExactAllWeightsSpec)

/-- 'laws.FnExactWeightAt', WHERE WHAT IT READS IS OF BULK AT MOST 1048576: true; the input reads as it did. -/
def fnExactWeightAtUptoRow : OpenClaim := { program := "ytdgkcfpfldaopaa", sum := "2ed91637cefc23a769e895d2e9cf40d4c48bd4625ab03bbc1374355f6de4f31c", func := "loop.example/g01125/laws.FnExactWeightAt", spec := "fnExactWeightAt", unfollowed := true, recurses := true, apart := false, narrowed := true }
def FnExactWeightAtUptoSaid : Prop := fnExactWeightAtUptoRow.holds Try.pinned (OpenSpec.upto fnExactWeightAtSpec)

/-- 'laws.FnExactBracketOf', WHERE WHAT IT READS IS OF BULK AT MOST 1048576: true; the input reads as it did. -/
def fnExactBracketOfUptoRow : OpenClaim := { program := "ytdgkcfpfldaopaa", sum := "2ed91637cefc23a769e895d2e9cf40d4c48bd4625ab03bbc1374355f6de4f31c", func := "loop.example/g01125/laws.FnExactBracketOf", spec := "fnExactBracketOf", unfollowed := true, recurses := true, apart := false, narrowed := true }
def FnExactBracketOfUptoSaid : Prop := fnExactBracketOfUptoRow.holds Try.pinned (OpenSpec.upto fnExactBracketOfSpec)

/-- 'laws.FnExactWeightedSumAt', WHERE WHAT IT READS IS OF BULK AT MOST 1048576: true; the input reads as it did. -/
def fnExactWeightedSumAtUptoRow : OpenClaim := { program := "ytdgkcfpfldaopaa", sum := "2ed91637cefc23a769e895d2e9cf40d4c48bd4625ab03bbc1374355f6de4f31c", func := "loop.example/g01125/laws.FnExactWeightedSumAt", spec := "fnExactWeightedSumAt", unfollowed := true, recurses := true, apart := false, narrowed := true }
def FnExactWeightedSumAtUptoSaid : Prop := fnExactWeightedSumAtUptoRow.holds Try.pinned (OpenSpec.upto fnExactWeightedSumAtSpec)

/-- 'laws.FnExactWeightedProductAt', WHERE WHAT IT READS IS OF BULK AT MOST 1048576: true; the input reads as it did. -/
def fnExactWeightedProductAtUptoRow : OpenClaim := { program := "ytdgkcfpfldaopaa", sum := "2ed91637cefc23a769e895d2e9cf40d4c48bd4625ab03bbc1374355f6de4f31c", func := "loop.example/g01125/laws.FnExactWeightedProductAt", spec := "fnExactWeightedProductAt", unfollowed := true, recurses := true, apart := false, narrowed := true }
def FnExactWeightedProductAtUptoSaid : Prop := fnExactWeightedProductAtUptoRow.holds Try.pinned (OpenSpec.upto fnExactWeightedProductAtSpec)

/-- 'laws.FnExactRankCounts', WHERE WHAT IT READS IS OF BULK AT MOST 1048576: true; the input reads as it did. -/
def fnExactRankCountsUptoRow : OpenClaim := { program := "ytdgkcfpfldaopaa", sum := "2ed91637cefc23a769e895d2e9cf40d4c48bd4625ab03bbc1374355f6de4f31c", func := "loop.example/g01125/laws.FnExactRankCounts", spec := "fnExactRankCounts", unfollowed := true, recurses := true, apart := false, narrowed := true }
def FnExactRankCountsUptoSaid : Prop := fnExactRankCountsUptoRow.holds Try.pinned (OpenSpec.upto fnExactRankCountsSpec)

/-- 'laws.FnExactInvertibleCount', WHERE WHAT IT READS IS OF BULK AT MOST 1048576: true; the input reads as it did. -/
def fnExactInvertibleCountUptoRow : OpenClaim := { program := "ytdgkcfpfldaopaa", sum := "2ed91637cefc23a769e895d2e9cf40d4c48bd4625ab03bbc1374355f6de4f31c", func := "loop.example/g01125/laws.FnExactInvertibleCount", spec := "fnExactInvertibleCount", unfollowed := true, recurses := true, apart := false, narrowed := true }
def FnExactInvertibleCountUptoSaid : Prop := fnExactInvertibleCountUptoRow.holds Try.pinned (OpenSpec.upto fnExactInvertibleCountSpec)

/-- 'laws.FnExactFitsBoard', WHERE WHAT IT READS IS OF BULK AT MOST 1048576: true; the input reads as it did. -/
def fnExactFitsBoardUptoRow : OpenClaim := { program := "ytdgkcfpfldaopaa", sum := "2ed91637cefc23a769e895d2e9cf40d4c48bd4625ab03bbc1374355f6de4f31c", func := "loop.example/g01125/laws.FnExactFitsBoard", spec := "fnExactFitsBoard", unfollowed := true, recurses := true, apart := false, narrowed := true }
def FnExactFitsBoardUptoSaid : Prop := fnExactFitsBoardUptoRow.holds Try.pinned (OpenSpec.upto fnExactFitsBoardSpec)

end Rows
end Go.Proofs.Ytdgkcfpfldaopaa
