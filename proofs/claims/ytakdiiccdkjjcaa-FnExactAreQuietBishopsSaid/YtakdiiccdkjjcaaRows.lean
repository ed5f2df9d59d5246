/-
  No cell of these rows narrows 'for every input' (looked for: loops, veiled, ifaces, maps, wideKeys, modest, calm, conditions, laid).
  DERIVED. THE GIVEN ROWS OF THIS SEAT. 12 by the template 'for every input the law returns true; each argument reads behind the call as it read before'; 0 by the template 'total and deterministic' (their statements: YtakdiiccdkjjcaaTotals.lean).
  GIVEN WITH THE SEED: the statements are not yours to turn. If you find one false, say at which input.
  Laid BY PROGRAM, IN A SANDBOX (cutbox-rows.mjs): the forced cells as the released guide's own fill.sh prints them over the translation 533885a54475299e… (all of the seat's roots in one cut). By AI agents, Wed Nov 11 2026. No macro, syntax, notation, axiom, sorry.
-/
import Derived.Test.YtakdiiccdkjjcaaChecked
import GoSem.Claim
import GoSem.ClaimJoined
import GoSem.ClaimMapViews
import Derived.JoinedTies
import Derived.KernelRfl
namespace Go.Proofs.Ytakdiiccdkjjcaa
/- THE CELL 'sum', in the pinned program and in every row, IS THE sha256 OF THE DUMP (.gsa) THAT YtakdiiccdkjjcaaProg.lean LOADS. Nothing in Lean hashes anything: it is a label: what it is worth is what the hold of that sum in a sandbox is worth. -/
noncomputable def Try.pinned : Pinned := { name := "ytakdiiccdkjjcaa", sum := "533885a54475299e0838797aec72317fd57de4e0cc056c04eb4423c5f27765a5", checked := Try.checked }
namespace Rows
def none {H : Type} : Left H := { results := [], args := [] }

/-- 'laws.FnExactDiagonalOf': WHATEVER THE INPUT: true; the input reads as it did. -/
def fnExactDiagonalOfSpec : ChangeSpec := { name := "fnExactDiagonalOf", fn := fun _ => fun
  | [d1, d2, d3] => { results := [.lit (.bool true)], args := [d1, d2, d3] }
  | _ => none }
def fnExactDiagonalOfRow : OpenClaim := { program := "ytakdiiccdkjjcaa", sum := "533885a54475299e0838797aec72317fd57de4e0cc056c04eb4423c5f27765a5", func := "loop.example/g01125/laws.FnExactDiagonalOf", spec := "fnExactDiagonalOf", apart := false }
def FnExactDiagonalOfSaid : Prop := fnExactDiagonalOfRow.holds Try.pinned (OpenSpec.ofChange fnExactDiagonalOfSpec)

/-- ITS FALSE NEIGHBOUR: 'it returns false'. Refute it at one input. -/
def fnExactDiagonalOfWrong : ChangeSpec := { name := "fnExactDiagonalOf", fn := fun _ => fun
  | [d1, d2, d3] => { results := [.lit (.bool false)], args := [d1, d2, d3] }
  | _ => none }
def FnExactDiagonalOfWrongFalsely : Prop := fnExactDiagonalOfRow.holds Try.pinned (OpenSpec.ofChange fnExactDiagonalOfWrong)

/-- 'laws.FnExactColourBoard': WHATEVER THE INPUT: true; the input reads as it did. -/
def fnExactColourBoardSpec : ChangeSpec := { name := "fnExactColourBoard", fn := fun _ => fun
  | [d1, d2] => { results := [.lit (.bool true)], args := [d1, d2] }
  | _ => none }
def fnExactColourBoardRow : OpenClaim := { program := "ytakdiiccdkjjcaa", sum := "533885a54475299e0838797aec72317fd57de4e0cc056c04eb4423c5f27765a5", func := "loop.example/g01125/laws.FnExactColourBoard", spec := "fnExactColourBoard", unfollowed := true, recurses := true, apart := false }
def FnExactColourBoardSaid : Prop := fnExactColourBoardRow.holds Try.pinned (OpenSpec.ofChange fnExactColourBoardSpec)

/-- ITS FALSE NEIGHBOUR: 'it returns false'. Refute it at one input. -/
def fnExactColourBoardWrong : ChangeSpec := { name := "fnExactColourBoard", fn := fun _ => fun
  | [d1, d2] => { results := [.lit (.bool false)], args := [d1, d2] }
  | _ => none }
def FnExactColourBoardWrongFalsely : Prop := fnExactColourBoardRow.holds Try.pinned (OpenSpec.ofChange fnExactColourBoardWrong)

/-- 'laws.FnExactCellOfColour': WHATEVER THE INPUT: true; the input reads as it did. -/
def fnExactCellOfColourSpec : ChangeSpec := { name := "fnExactCellOfColour", fn := fun _ => fun
  | [d1, d2, d3, d4] => { results := [.lit (.bool true)], args := [d1, d2, d3, d4] }
  | _ => none }
def fnExactCellOfColourRow : OpenClaim := { program := "ytakdiiccdkjjcaa", sum := "533885a54475299e0838797aec72317fd57de4e0cc056c04eb4423c5f27765a5", func := "loop.example/g01125/laws.FnExactCellOfColour", spec := "fnExactCellOfColour", unfollowed := true, recurses := true, apart := false }
def FnExactCellOfColourSaid : Prop := fnExactCellOfColourRow.holds Try.pinned (OpenSpec.ofChange fnExactCellOfColourSpec)

/-- ITS FALSE NEIGHBOUR: 'it returns false'. Refute it at one input. -/
def fnExactCellOfColourWrong : ChangeSpec := { name := "fnExactCellOfColour", fn := fun _ => fun
  | [d1, d2, d3, d4] => { results := [.lit (.bool false)], args := [d1, d2, d3, d4] }
  | _ => none }
def FnExactCellOfColourWrongFalsely : Prop := fnExactCellOfColourRow.holds Try.pinned (OpenSpec.ofChange fnExactCellOfColourWrong)

/-- 'laws.FnExactBishopNumbers': WHATEVER THE INPUT: true; the input reads as it did. -/
def fnExactBishopNumbersSpec : ChangeSpec := { name := "fnExactBishopNumbers", fn := fun _ => fun
  | [d] => { results := [.lit (.bool true)], args := [d] }
  | _ => none }
def fnExactBishopNumbersRow : OpenClaim := { program := "ytakdiiccdkjjcaa", sum := "533885a54475299e0838797aec72317fd57de4e0cc056c04eb4423c5f27765a5", func := "loop.example/g01125/laws.FnExactBishopNumbers", spec := "fnExactBishopNumbers", unfollowed := true, recurses := true, apart := false }
def FnExactBishopNumbersSaid : Prop := fnExactBishopNumbersRow.holds Try.pinned (OpenSpec.ofChange fnExactBishopNumbersSpec)

/-- ITS FALSE NEIGHBOUR: 'it returns false'. Refute it at one input. -/
def fnExactBishopNumbersWrong : ChangeSpec := { name := "fnExactBishopNumbers", fn := fun _ => fun
  | [d] => { results := [.lit (.bool false)], args := [d] }
  | _ => none }
def FnExactBishopNumbersWrongFalsely : Prop := fnExactBishopNumbersRow.holds Try.pinned (OpenSpec.ofChange fnExactBishopNumbersWrong)

/-- 'laws.FnExactMostBishops': WHATEVER THE INPUT: true; the input reads as it did. -/
def fnExactMostBishopsSpec : ChangeSpec := { name := "fnExactMostBishops", fn := fun _ => fun
  | [d] => { results := [.lit (.bool true)], args := [d] }
  | _ => none }
def fnExactMostBishopsRow : OpenClaim := { program := "ytakdiiccdkjjcaa", sum := "533885a54475299e0838797aec72317fd57de4e0cc056c04eb4423c5f27765a5", func := "loop.example/g01125/laws.FnExactMostBishops", spec := "fnExactMostBishops", unfollowed := true, recurses := true, apart := false }
def FnExactMostBishopsSaid : Prop := fnExactMostBishopsRow.holds Try.pinned (OpenSpec.ofChange fnExactMostBishopsSpec)

/-- ITS FALSE NEIGHBOUR: 'it returns false'. Refute it at one input. -/
def fnExactMostBishopsWrong : ChangeSpec := { name := "fnExactMostBishops", fn := fun _ => fun
  | [d] => { results := [.lit (.bool false)], args := [d] }
  | _ => none }
def FnExactMostBishopsWrongFalsely : Prop := fnExactMostBishopsRow.holds Try.pinned (OpenSpec.ofChange fnExactMostBishopsWrong)

/-- 'laws.FnExactBishopsOf': WHATEVER THE INPUT: true; the input reads as it did. -/
def fnExactBishopsOfSpec : ChangeSpec := { name := "fnExactBishopsOf", fn := fun _ => fun
  | [d1, d2, d3] => { results := [.lit (.bool true)], args := [d1, d2, d3] }
  | _ => none }
def fnExactBishopsOfRow : OpenClaim := { program := "ytakdiiccdkjjcaa", sum := "533885a54475299e0838797aec72317fd57de4e0cc056c04eb4423c5f27765a5", func := "loop.example/g01125/laws.FnExactBishopsOf", spec := "fnExactBishopsOf", unfollowed := true, recurses := true, apart := false }
def FnExactBishopsOfSaid : Prop := fnExactBishopsOfRow.holds Try.pinned (OpenSpec.ofChange fnExactBishopsOfSpec)

/-- ITS FALSE NEIGHBOUR: 'it returns false'. Refute it at one input. -/
def fnExactBishopsOfWrong : ChangeSpec := { name := "fnExactBishopsOf", fn := fun _ => fun
  | [d1, d2, d3] => { results := [.lit (.bool false)], args := [d1, d2, d3] }
  | _ => none }
def FnExactBishopsOfWrongFalsely : Prop := fnExactBishopsOfRow.holds Try.pinned (OpenSpec.ofChange fnExactBishopsOfWrong)

/-- 'laws.FnExactAreQuietBishops': WHATEVER THE INPUT: true; the input reads as it did. -/
def fnExactAreQuietBishopsSpec : ChangeSpec := { name := "fnExactAreQuietBishops", fn := fun _ => fun
  | [d1, d2] => { results := [.lit (.bool true)], args := [d1, d2] }
  | _ => none }
def fnExactAreQuietBishopsRow : OpenClaim := { program := "ytakdiiccdkjjcaa", sum := "533885a54475299e0838797aec72317fd57de4e0cc056c04eb4423c5f27765a5", func := "loop.example/g01125/laws.FnExactAreQuietBishops", spec := "fnExactAreQuietBishops", unfollowed := true, recurses := true, apart := false }
def FnExactAreQuietBishopsSaid : Prop := fnExactAreQuietBishopsRow.holds Try.pinned (OpenSpec.ofChange fnExactAreQuietBishopsSpec)

/-- ITS FALSE NEIGHBOUR: 'it returns false'. Refute it at one input. -/
def fnExactAreQuietBishopsWrong : ChangeSpec := { name := "fnExactAreQuietBishops", fn := fun _ => fun
  | [d1, d2] => { results := [.lit (.bool false)], args := [d1, d2] }
  | _ => none }
def FnExactAreQuietBishopsWrongFalsely : Prop := fnExactAreQuietBishopsRow.holds Try.pinned (OpenSpec.ofChange fnExactAreQuietBishopsWrong)

/-- 'laws.FnExactFirstBishops': WHATEVER THE INPUT: true; the input reads as it did. -/
def fnExactFirstBishopsSpec : ChangeSpec := { name := "fnExactFirstBishops", fn := fun _ => fun
  | [d1, d2] => { results := [.lit (.bool true)], args := [d1, d2] }
  | _ => none }
def fnExactFirstBishopsRow : OpenClaim := { program := "ytakdiiccdkjjcaa", sum := "533885a54475299e0838797aec72317fd57de4e0cc056c04eb4423c5f27765a5", func := "loop.example/g01125/laws.FnExactFirstBishops", spec := "fnExactFirstBishops", unfollowed := true, recurses := true, apart := false }
def FnExactFirstBishopsSaid : Prop := fnExactFirstBishopsRow.holds Try.pinned (OpenSpec.ofChange fnExactFirstBishopsSpec)

/-- ITS FALSE NEIGHBOUR: 'it returns false'. Refute it at one input. -/
def fnExactFirstBishopsWrong : ChangeSpec := { name := "fnExactFirstBishops", fn := fun _ => fun
  | [d1, d2] => { results := [.lit (.bool false)], args := [d1, d2] }
  | _ => none }
def FnExactFirstBishopsWrongFalsely : Prop := fnExactFirstBishopsRow.holds Try.pinned (OpenSpec.ofChange fnExactFirstBishopsWrong)

/-- 'laws.FnExactFullBoard': WHATEVER THE INPUT: true; the input reads as it did. -/
def fnExactFullBoardSpec : ChangeSpec := { name := "fnExactFullBoard", fn := fun _ => fun
  | [d1, d2] => { results := [.lit (.bool true)], args := [d1, d2] }
  | _ => none }
def fnExactFullBoardRow : OpenClaim := { program := "ytakdiiccdkjjcaa", sum := "533885a54475299e0838797aec72317fd57de4e0cc056c04eb4423c5f27765a5", func := "loop.example/g01125/laws.FnExactFullBoard", spec := "fnExactFullBoard", unfollowed := true, recurses := true, apart := false }
def FnExactFullBoardSaid : Prop := fnExactFullBoardRow.holds Try.pinned (OpenSpec.ofChange fnExactFullBoardSpec)

/-- ITS FALSE NEIGHBOUR: 'it returns false'. Refute it at one input. -/
def fnExactFullBoardWrong : ChangeSpec := { name := "fnExactFullBoard", fn := fun _ => fun
  | [d1, d2] => { results := [.lit (.bool false)], args := [d1, d2] }
  | _ => none }
def FnExactFullBoardWrongFalsely : Prop := fnExactFullBoardRow.holds Try.pinned (OpenSpec.ofChange fnExactFullBoardWrong)

/-- 'laws.FnExactStrikeCell': WHATEVER THE INPUT: true; the input reads as it did. -/
def fnExactStrikeCellSpec : ChangeSpec := { name := "fnExactStrikeCell", fn := fun _ => fun
  | [d1, d2, d3] => { results := [.lit (.bool true)], args := [d1, d2, d3] }
  | _ => none }
def fnExactStrikeCellRow : OpenClaim := { program := "ytakdiiccdkjjcaa", sum := "533885a54475299e0838797aec72317fd57de4e0cc056c04eb4423c5f27765a5", func := "loop.example/g01125/laws.FnExactStrikeCell", spec := "fnExactStrikeCell", unfollowed := true, recurses := true, apart := false }
def FnExactStrikeCellSaid : Prop := fnExactStrikeCellRow.holds Try.pinned (OpenSpec.ofChange fnExactStrikeCellSpec)

/-- ITS FALSE NEIGHBOUR: 'it returns false'. Refute it at one input. -/
def fnExactStrikeCellWrong : ChangeSpec := { name := "fnExactStrikeCell", fn := fun _ => fun
  | [d1, d2, d3] => { results := [.lit (.bool false)], args := [d1, d2, d3] }
  | _ => none }
def FnExactStrikeCellWrongFalsely : Prop := fnExactStrikeCellRow.holds Try.pinned (OpenSpec.ofChange fnExactStrikeCellWrong)

/-- 'laws.FnExactComplementOf': WHATEVER THE INPUT: true; the input reads as it did. -/
def fnExactComplementOfSpec : ChangeSpec := { name := "fnExactComplementOf", fn := fun _ => fun
  | [d] => { results := [.lit (.bool true)], args := [d] }
  | _ => none }
def fnExactComplementOfRow : OpenClaim := { program := "ytakdiiccdkjjcaa", sum := "533885a54475299e0838797aec72317fd57de4e0cc056c04eb4423c5f27765a5", func := "loop.example/g01125/laws.FnExactComplementOf", spec := "fnExactComplementOf", unfollowed := true, recurses := true, apart := false }
def FnExactComplementOfSaid : Prop := fnExactComplementOfRow.holds Try.pinned (OpenSpec.ofChange fnExactComplementOfSpec)

/-- ITS FALSE NEIGHBOUR: 'it returns false'. Refute it at one input. -/
def fnExactComplementOfWrong : ChangeSpec := { name := "fnExactComplementOf", fn := fun _ => fun
  | [d] => { results := [.lit (.bool false)], args := [d] }
  | _ => none }
def FnExactComplementOfWrongFalsely : Prop := fnExactComplementOfRow.holds Try.pinned (OpenSpec.ofChange fnExactComplementOfWrong)

/-- 'laws.FnExactTurnBoard': WHATEVER THE INPUT: true; the input reads as it did. -/
def fnExactTurnBoardSpec : ChangeSpec := { name := "fnExactTurnBoard", fn := fun _ => fun
  | [d] => { results := [.lit (.bool true)], args := [d] }
  | _ => none }
def fnExactTurnBoardRow : OpenClaim := { program := "ytakdiiccdkjjcaa", sum := "533885a54475299e0838797aec72317fd57de4e0cc056c04eb4423c5f27765a5", func := "loop.example/g01125/laws.FnExactTurnBoard", spec := "fnExactTurnBoard", unfollowed := true, recurses := true, apart := false }
def FnExactTurnBoardSaid : Prop := fnExactTurnBoardRow.holds Try.pinned (OpenSpec.ofChange fnExactTurnBoardSpec)

/-- ITS FALSE NEIGHBOUR: 'it returns false'. Refute it at one input. -/
def fnExactTurnBoardWrong : ChangeSpec := { name := "fnExactTurnBoard", fn := fun _ => fun
  | [d] => { results := [.lit (.bool false)], args := [d] }
  | _ => none }
def FnExactTurnBoardWrongFalsely : Prop := fnExactTurnBoardRow.holds Try.pinned (OpenSpec.ofChange fnExactTurnBoardWrong)

/- THE SECOND FORM. 'bulk': how many values and letters a reading holds, each counted each time it is reached (what is shared counts as often as it is met; a slice's spare places count too). A statement '..UptoSaid' is the law's where the arguments, and the package variables that the reading takes, are together of bulk at most 1048576: NARROWER than '..Said'. Prove '..Said' where nothing that the law and all that it calls make is longer than what came in: it says more and counts as full. Else prove '..UptoSaid'. A law counts once. -/
mutual
def uptoBulk {H : Type} : DataW H → Nat
  | .lit (.string bytes) => bytes.length + 1
  | .lit _ => 1
  | .nil => 1
  | .ptr d => uptoBulk d + 1
  | .slice elems spare => uptoBulkAll elems + uptoBulkAll spare + 1
  | .agg parts => uptoBulkAll parts + 1
  | .iface _ d => uptoBulk d + 1
  | .map entries => uptoBulkEntries entries + 1
  | .held _ => 1
def uptoBulkAll {H : Type} : List (DataW H) → Nat
  | [] => 0
  | d :: r => uptoBulk d + uptoBulkAll r
def uptoBulkEntries {H : Type} : List (Lit × DataW H) → Nat
  | [] => 0
  | x :: r => uptoBulkEntry x + uptoBulkEntries r
def uptoBulkEntry {H : Type} : Lit × DataW H → Nat
  | (.string bytes, d) => bytes.length + uptoBulk d + 1
  | (_, d) => uptoBulk d + 1
 end
def uptoSmall : (H : Type) → List (DataW H) → Bool := fun _ ds => decide (uptoBulkAll ds ≤ 1048576)
def OpenSpec.upto (s : _root_.Go.ChangeSpec) : _root_.Go.OpenSpec := { _root_.Go.OpenSpec.ofChange s with cond := some uptoSmall }

/-- 'laws.FnExactDiagonalOf', WHERE WHAT IT READS IS OF BULK AT MOST 1048576: true; the input reads as it did. -/
def fnExactDiagonalOfUptoRow : OpenClaim := { program := "ytakdiiccdkjjcaa", sum := "533885a54475299e0838797aec72317fd57de4e0cc056c04eb4423c5f27765a5", func := "loop.example/g01125/laws.FnExactDiagonalOf", spec := "fnExactDiagonalOf", apart := false, narrowed := true }
def FnExactDiagonalOfUptoSaid : Prop := fnExactDiagonalOfUptoRow.holds Try.pinned (OpenSpec.upto fnExactDiagonalOfSpec)

/-- 'laws.FnExactColourBoard', WHERE WHAT IT READS IS OF BULK AT MOST 1048576: true; the input reads as it did. -/
def fnExactColourBoardUptoRow : OpenClaim := { program := "ytakdiiccdkjjcaa", sum := "533885a54475299e0838797aec72317fd57de4e0cc056c04eb4423c5f27765a5", func := "loop.example/g01125/laws.FnExactColourBoard", spec := "fnExactColourBoard", unfollowed := true, recurses := true, apart := false, narrowed := true }
def FnExactColourBoardUptoSaid : Prop := fnExactColourBoardUptoRow.holds Try.pinned (OpenSpec.upto fnExactColourBoardSpec)

/-- 'laws.FnExactCellOfColour', WHERE WHAT IT READS IS OF BULK AT MOST 1048576: true; the input reads as it did. -/
def fnExactCellOfColourUptoRow : OpenClaim := { program := "ytakdiiccdkjjcaa", sum := "533885a54475299e0838797aec72317fd57de4e0cc056c04eb4423c5f27765a5", func := "loop.example/g01125/laws.FnExactCellOfColour", spec := "fnExactCellOfColour", unfollowed := true, recurses := true, apart := false, narrowed := true }
def FnExactCellOfColourUptoSaid : Prop := fnExactCellOfColourUptoRow.holds Try.pinned (OpenSpec.upto fnExactCellOfColourSpec)

/-- 'laws.FnExactBishopNumbers', WHERE WHAT IT READS IS OF BULK AT MOST 1048576: true; the input reads as it did. -/
def fnExactBishopNumbersUptoRow : OpenClaim := { program := "ytakdiiccdkjjcaa", sum := "533885a54475299e0838797aec72317fd57de4e0cc056c04eb4423c5f27765a5", func := "loop.example/g01125/laws.FnExactBishopNumbers", spec := "fnExactBishopNumbers", unfollowed := true, recurses := true, apart := false, narrowed := true }
def FnExactBishopNumbersUptoSaid : Prop := fnExactBishopNumbersUptoRow.holds Try.pinned (OpenSpec.upto fnExactBishopNumbersSpec)

/-- 'laws.FnExactMostBishops', WHERE WHAT IT READS IS OF BULK AT MOST 1048576: true; the input reads as it did. -/
def fnExactMostBishopsUptoRow : OpenClaim := { program := "ytakdiiccdkjjcaa", sum := "533885a54475299e0838797aec72317fd57de4e0cc056c04eb4423c5f27765a5", func := "loop.example/g01125/laws.FnExactMostBishops", spec := "fnExactMostBishops", unfollowed := true, recurses := true, apart := false, narrowed := true }
def FnExactMostBishopsUptoSaid : Prop := fnExactMostBishopsUptoRow.holds Try.pinned (OpenSpec.upto fnExactMostBishopsSpec)

/-- 'laws.FnExactBishopsOf', WHERE WHAT IT READS IS OF BULK AT MOST 1048576: true; the input reads as it did. -/
def fnExactBishopsOfUptoRow : OpenClaim := { program := "ytakdiiccdkjjcaa", sum := "533885a54475299e0838797aec72317fd57de4e0cc056c04eb4423c5f27765a5", func := "loop.example/g01125/laws.FnExactBishopsOf", spec := "fnExactBishopsOf", unfollowed := true, recurses := true, apart := false, narrowed := true }
def FnExactBishopsOfUptoSaid : Prop := fnExactBishopsOfUptoRow.holds Try.pinned (OpenSpec.upto fnExactBishopsOfSpec)

/-- 'laws.FnExactAreQuietBishops', WHERE WHAT IT READS IS OF BULK AT MOST 1048576: true; the input reads as it did. -/
def fnExactAreQuietBishopsUptoRow : OpenClaim := { program := "ytakdiiccdkjjcaa", sum := "533885a54475299e0838797aec72317fd57de4e0cc056c04eb4423c5f27765a5", func := "loop.example/g01125/laws.FnExactAreQuietBishops", spec := "fnExactAreQuietBishops", unfollowed := true, recurses := true, apart := false, narrowed := true }
def FnExactAreQuietBishopsUptoSaid : Prop := fnExactAreQuietBishopsUptoRow.holds Try.pinned (OpenSpec.upto fnExactAreQuietBishopsSpec)

/-- 'laws.FnExactFirstBishops', WHERE WHAT IT READS IS OF BULK AT MOST 1048576: true; the input reads as it did. -/
def fnExactFirstBishopsUptoRow : OpenClaim := { program := "ytakdiiccdkjjcaa", sum := "533885a54475299e0838797aec72317fd57de4e0cc056c04eb4423c5f27765a5", func := "loop.example/g01125/laws.FnExactFirstBishops", spec := "fnExactFirstBishops", unfollowed := true, recurses := true, apart := false, narrowed := true }
def FnExactFirstBishopsUptoSaid : Prop := fnExactFirstBishopsUptoRow.holds Try.pinned (OpenSpec.upto fnExactFirstBishopsSpec)

/-- 'laws.FnExactFullBoard', WHERE WHAT IT READS IS OF BULK AT MOST 1048576: true; the input reads as it did. -/
def fnExactFullBoardUptoRow : OpenClaim := { program := "ytakdiiccdkjjcaa", sum := "533885a54475299e0838797aec72317fd57de4e0cc056c04eb4423c5f27765a5", func := "loop.example/g01125/laws.FnExactFullBoard", spec := "fnExactFullBoard", unfollowed := true, recurses := true, apart := false, narrowed := true }
def FnExactFullBoardUptoSaid : Prop := fnExactFullBoardUptoRow.holds Try.pinned (OpenSpec.upto fnExactFullBoardSpec)

/-- 'laws.FnExactStrikeCell', WHERE WHAT IT READS IS OF BULK AT MOST 1048576: true; the input reads as it did. -/
def fnExactStrikeCellUptoRow : OpenClaim := { program := "ytakdiiccdkjjcaa", sum := "533885a54475299e0838797aec72317fd57de4e0cc056c04eb4423c5f27765a5", func := "loop.example/g01125/laws.FnExactStrikeCell", spec := "fnExactStrikeCell", unfollowed := true, recurses := true, apart := false, narrowed := true }
def FnExactStrikeCellUptoSaid : Prop := fnExactStrikeCellUptoRow.holds Try.pinned (OpenSpec.upto fnExactStrikeCellSpec)

/-- 'laws.FnExactComplementOf', WHERE WHAT IT READS IS OF BULK AT MOST 1048576: true; the input reads as it did. -/
def fnExactComplementOfUptoRow : OpenClaim := { program := "ytakdiiccdkjjcaa", sum := "533885a54475299e0838797aec72317fd57de4e0cc056c04eb4423c5f27765a5", func := "loop.example/g01125/laws.FnExactComplementOf", spec := "fnExactComplementOf", unfollowed := true, recurses := true, apart := false, narrowed := true }
def FnExactComplementOfUptoSaid : Prop := fnExactComplementOfUptoRow.holds Try.pinned (OpenSpec.upto fnExactComplementOfSpec)

/-- 'laws.FnExactTurnBoard', WHERE WHAT IT READS IS OF BULK AT MOST 1048576: true; the input reads as it did. -/
def fnExactTurnBoardUptoRow : OpenClaim := { program := "ytakdiiccdkjjcaa", sum := "533885a54475299e0838797aec72317fd57de4e0cc056c04eb4423c5f27765a5", func := "loop.example/g01125/laws.FnExactTurnBoard", spec := "fnExactTurnBoard", unfollowed := true, recurses := true, apart := false, narrowed := true }
def FnExactTurnBoardUptoSaid : Prop := fnExactTurnBoardUptoRow.holds Try.pinned (OpenSpec.upto fnExactTurnBoardSpec)

end Rows
end Go.Proofs.Ytakdiiccdkjjcaa
