/-
  No cell of these rows narrows 'for every input' (looked for: loops, veiled, ifaces, maps, wideKeys, modest, calm, conditions, laid).
  DERIVED. THE GIVEN ROWS OF THIS SEAT. 7 by the template 'for every input the law returns true; each argument reads behind the call as it read before'; 0 by the template 'total and deterministic' (their statements: YtmhlpaenfknofabTotals.lean).
  GIVEN WITH THE SEED: the statements are not yours to turn. If you find one false, say at which input.
  Laid BY PROGRAM, IN A SANDBOX (cutbox-rows.mjs): the forced cells as the released guide's own fill.sh prints them over the translation a5bd5a24305d558c… (all of the seat's roots in one cut). By AI agents, Wed Nov 11 2026. No macro, syntax, notation, axiom, sorry.
-/
import Derived.Test.YtmhlpaenfknofabChecked
import GoSem.Claim
import GoSem.ClaimJoined
import GoSem.ClaimMapViews
import Derived.JoinedTies
import Derived.KernelRfl
namespace Go.Proofs.Ytmhlpaenfknofab
/- THE CELL 'sum', in the pinned program and in every row, IS THE sha256 OF THE DUMP (.gsa) THAT YtmhlpaenfknofabProg.lean LOADS. Nothing in Lean hashes anything: it is a label: what it is worth is what the hold of that sum in a sandbox is worth. -/
noncomputable def Try.pinned : Pinned := { name := "ytmhlpaenfknofab", sum := "a5bd5a24305d558cf0c2b71f71711f7b2e234d8227ed6295f795a094985dca2c", checked := Try.checked }
namespace Rows
def none {H : Type} : Left H := { results := [], args := [] }

/-- 'laws.FnExactShiftQueens': WHATEVER THE INPUT: true; the input reads as it did. -/
def fnExactShiftQueensSpec : ChangeSpec := { name := "fnExactShiftQueens", fn := fun _ => fun
  | [d1, d2, d3] => { results := [.lit (.bool true)], args := [d1, d2, d3] }
  | _ => none }
def fnExactShiftQueensRow : OpenClaim := { program := "ytmhlpaenfknofab", sum := "a5bd5a24305d558cf0c2b71f71711f7b2e234d8227ed6295f795a094985dca2c", func := "loop.example/g01125/laws.FnExactShiftQueens", spec := "fnExactShiftQueens", apart := false }
def FnExactShiftQueensSaid : Prop := fnExactShiftQueensRow.holds Try.pinned (OpenSpec.ofChange fnExactShiftQueensSpec)

/-- ITS FALSE NEIGHBOUR: 'it returns false'. Refute it at one input. -/
def fnExactShiftQueensWrong : ChangeSpec := { name := "fnExactShiftQueens", fn := fun _ => fun
  | [d1, d2, d3] => { results := [.lit (.bool false)], args := [d1, d2, d3] }
  | _ => none }
def FnExactShiftQueensWrongFalsely : Prop := fnExactShiftQueensRow.holds Try.pinned (OpenSpec.ofChange fnExactShiftQueensWrong)

/-- 'laws.FnExactStraightQueens': WHATEVER THE INPUT: true; the input reads as it did. -/
def fnExactStraightQueensSpec : ChangeSpec := { name := "fnExactStraightQueens", fn := fun _ => fun
  | [d1, d2] => { results := [.lit (.bool true)], args := [d1, d2] }
  | _ => none }
def fnExactStraightQueensRow : OpenClaim := { program := "ytmhlpaenfknofab", sum := "a5bd5a24305d558cf0c2b71f71711f7b2e234d8227ed6295f795a094985dca2c", func := "loop.example/g01125/laws.FnExactStraightQueens", spec := "fnExactStraightQueens", apart := false }
def FnExactStraightQueensSaid : Prop := fnExactStraightQueensRow.holds Try.pinned (OpenSpec.ofChange fnExactStraightQueensSpec)

/-- ITS FALSE NEIGHBOUR: 'it returns false'. Refute it at one input. -/
def fnExactStraightQueensWrong : ChangeSpec := { name := "fnExactStraightQueens", fn := fun _ => fun
  | [d1, d2] => { results := [.lit (.bool false)], args := [d1, d2] }
  | _ => none }
def FnExactStraightQueensWrongFalsely : Prop := fnExactStraightQueensRow.holds Try.pinned (OpenSpec.ofChange fnExactStraightQueensWrong)

/-- 'laws.FnExactAreWatching': WHATEVER THE INPUT: true; the input reads as it did. -/
def fnExactAreWatchingSpec : ChangeSpec := { name := "fnExactAreWatching", fn := fun _ => fun
  | [d1, d2] => { results := [.lit (.bool true)], args := [d1, d2] }
  | _ => none }
def fnExactAreWatchingRow : OpenClaim := { program := "ytmhlpaenfknofab", sum := "a5bd5a24305d558cf0c2b71f71711f7b2e234d8227ed6295f795a094985dca2c", func := "loop.example/g01125/laws.FnExactAreWatching", spec := "fnExactAreWatching", apart := false }
def FnExactAreWatchingSaid : Prop := fnExactAreWatchingRow.holds Try.pinned (OpenSpec.ofChange fnExactAreWatchingSpec)

/-- ITS FALSE NEIGHBOUR: 'it returns false'. Refute it at one input. -/
def fnExactAreWatchingWrong : ChangeSpec := { name := "fnExactAreWatching", fn := fun _ => fun
  | [d1, d2] => { results := [.lit (.bool false)], args := [d1, d2] }
  | _ => none }
def FnExactAreWatchingWrongFalsely : Prop := fnExactAreWatchingRow.holds Try.pinned (OpenSpec.ofChange fnExactAreWatchingWrong)

/-- 'laws.FnExactLeastWatch': WHATEVER THE INPUT: true; the input reads as it did. -/
def fnExactLeastWatchSpec : ChangeSpec := { name := "fnExactLeastWatch", fn := fun _ => fun
  | [d] => { results := [.lit (.bool true)], args := [d] }
  | _ => none }
def fnExactLeastWatchRow : OpenClaim := { program := "ytmhlpaenfknofab", sum := "a5bd5a24305d558cf0c2b71f71711f7b2e234d8227ed6295f795a094985dca2c", func := "loop.example/g01125/laws.FnExactLeastWatch", spec := "fnExactLeastWatch", inPlace := ["slices.overlaps[[]int]"], recurses := true, apart := false }
def FnExactLeastWatchSaid : Prop := fnExactLeastWatchRow.holds Try.pinned (OpenSpec.ofChange fnExactLeastWatchSpec)

/-- ITS FALSE NEIGHBOUR: 'it returns false'. Refute it at one input. -/
def fnExactLeastWatchWrong : ChangeSpec := { name := "fnExactLeastWatch", fn := fun _ => fun
  | [d] => { results := [.lit (.bool false)], args := [d] }
  | _ => none }
def FnExactLeastWatchWrongFalsely : Prop := fnExactLeastWatchRow.holds Try.pinned (OpenSpec.ofChange fnExactLeastWatchWrong)

/-- 'laws.FnExactBishopsOf': WHATEVER THE INPUT: true; the input reads as it did. -/
def fnExactBishopsOfSpec : ChangeSpec := { name := "fnExactBishopsOf", fn := fun _ => fun
  | [d1, d2, d3] => { results := [.lit (.bool true)], args := [d1, d2, d3] }
  | _ => none }
def fnExactBishopsOfRow : OpenClaim := { program := "ytmhlpaenfknofab", sum := "a5bd5a24305d558cf0c2b71f71711f7b2e234d8227ed6295f795a094985dca2c", func := "loop.example/g01125/laws.FnExactBishopsOf", spec := "fnExactBishopsOf", unfollowed := true, recurses := true, apart := false }
def FnExactBishopsOfSaid : Prop := fnExactBishopsOfRow.holds Try.pinned (OpenSpec.ofChange fnExactBishopsOfSpec)

/-- ITS FALSE NEIGHBOUR: 'it returns false'. Refute it at one input. -/
def fnExactBishopsOfWrong : ChangeSpec := { name := "fnExactBishopsOf", fn := fun _ => fun
  | [d1, d2, d3] => { results := [.lit (.bool false)], args := [d1, d2, d3] }
  | _ => none }
def FnExactBishopsOfWrongFalsely : Prop := fnExactBishopsOfRow.holds Try.pinned (OpenSpec.ofChange fnExactBishopsOfWrong)

/-- 'laws.FnExactFirstBishops': WHATEVER THE INPUT: true; the input reads as it did. -/
def fnExactFirstBishopsSpec : ChangeSpec := { name := "fnExactFirstBishops", fn := fun _ => fun
  | [d1, d2] => { results := [.lit (.bool true)], args := [d1, d2] }
  | _ => none }
def fnExactFirstBishopsRow : OpenClaim := { program := "ytmhlpaenfknofab", sum := "a5bd5a24305d558cf0c2b71f71711f7b2e234d8227ed6295f795a094985dca2c", func := "loop.example/g01125/laws.FnExactFirstBishops", spec := "fnExactFirstBishops", unfollowed := true, recurses := true, apart := false }
def FnExactFirstBishopsSaid : Prop := fnExactFirstBishopsRow.holds Try.pinned (OpenSpec.ofChange fnExactFirstBishopsSpec)

/-- ITS FALSE NEIGHBOUR: 'it returns false'. Refute it at one input. -/
def fnExactFirstBishopsWrong : ChangeSpec := { name := "fnExactFirstBishops", fn := fun _ => fun
  | [d1, d2] => { results := [.lit (.bool false)], args := [d1, d2] }
  | _ => none }
def FnExactFirstBishopsWrongFalsely : Prop := fnExactFirstBishopsRow.holds Try.pinned (OpenSpec.ofChange fnExactFirstBishopsWrong)

/-- 'laws.FnExactFirstKings': WHATEVER THE INPUT: true; the input reads as it did. -/
def fnExactFirstKingsSpec : ChangeSpec := { name := "fnExactFirstKings", fn := fun _ => fun
  | [d1, d2] => { results := [.lit (.bool true)], args := [d1, d2] }
  | _ => none }
def fnExactFirstKingsRow : OpenClaim := { program := "ytmhlpaenfknofab", sum := "a5bd5a24305d558cf0c2b71f71711f7b2e234d8227ed6295f795a094985dca2c", func := "loop.example/g01125/laws.FnExactFirstKings", spec := "fnExactFirstKings", unfollowed := true, recurses := true, apart := false }
def FnExactFirstKingsSaid : Prop := fnExactFirstKingsRow.holds Try.pinned (OpenSpec.ofChange fnExactFirstKingsSpec)

/-- ITS FALSE NEIGHBOUR: 'it returns false'. Refute it at one input. -/
def fnExactFirstKingsWrong : ChangeSpec := { name := "fnExactFirstKings", fn := fun _ => fun
  | [d1, d2] => { results := [.lit (.bool false)], args := [d1, d2] }
  | _ => none }
def FnExactFirstKingsWrongFalsely : Prop := fnExactFirstKingsRow.holds Try.pinned (OpenSpec.ofChange fnExactFirstKingsWrong)

/- THE SECOND FORM. 'bulk': how many values and letters a reading holds, each counted each time it is reached (what is shared counts as often as it is met; a slice's spare places count too). A statement '..UptoSaid' is the law's where the arguments, and the package variables that the reading takes, are together of bulk at most 1048576: NARROWER than '..Said'. Prove '..Said' where nothing that the law and all that it calls make is longer than what came in: it says more and counts as full. Else prove '..UptoSaid'. A law counts once. -/
mutual
def uptoBulk {H : Type} : DataW H → Nat
  | .lit (.string bytes) => bytes.length + 1
  | .lit _ => 1
  | .nil => 1
  | .ptr d => uptoBulk d + 1
  | .slice elems spare => uptoBulkAll elems + uptoBulkAll spare + 1
  | .agg parts => uptoBulkAll parts + 1
  | .iface _ d => uptoBulk d + 1
  | .map entries => uptoBulkEntries entries + 1
  | .held _ => 1
def uptoBulkAll {H : Type} : List (DataW H) → Nat
  | [] => 0
  | d :: r => uptoBulk d + uptoBulkAll r
def uptoBulkEntries {H : Type} : List (Lit × DataW H) → Nat
  | [] => 0
  | x :: r => uptoBulkEntry x + uptoBulkEntries r
def uptoBulkEntry {H : Type} : Lit × DataW H → Nat
  | (.string bytes, d) => bytes.length + uptoBulk d + 1
  | (_, d) => uptoBulk d + 1
 end
def uptoSmall : (H : Type) → List (DataW H) → Bool := fun _ ds => decide (uptoBulkAll ds ≤ 1048576)
def OpenSpec.upto (s : _root_.Go.ChangeSpec) : _root_.Go.OpenSpec := { _root_.Go.OpenSpec.ofChange s with cond := some uptoSmall }

/-- 'laws.FnExactShiftQueens', WHERE WHAT IT READS IS OF BULK AT MOST 1048576: true; the input reads as it did. -/
def fnExactShiftQueensUptoRow : OpenClaim := { program := "ytmhlpaenfknofab", sum := "a5bd5a24305d558cf0c2b71f71711f7b2e234d8227ed6295f795a094985dca2c", func := "loop.example/g01125/laws.FnExactShiftQueens", spec := "fnExactShiftQueens", apart := false, narrowed := true }
def FnExactShiftQueensUptoSaid : Prop := fnExactShiftQueensUptoRow.holds Try.pinned (OpenSpec.upto fnExactShiftQueensSpec)

/-- 'laws.FnExactStraightQueens', WHERE WHAT IT READS IS OF BULK AT MOST 1048576: true; the input reads as it did. -/
def fnExactStraightQueensUptoRow : OpenClaim := { program := "ytmhlpaenfknofab", sum := "a5bd5a24305d558cf0c2b71f71711f7b2e234d8227ed6295f795a094985dca2c", func := "loop.example/g01125/laws.FnExactStraightQueens", spec := "fnExactStraightQueens", apart := false, narrowed := true }
def FnExactStraightQueensUptoSaid : Prop := fnExactStraightQueensUptoRow.holds Try.pinned (OpenSpec.upto fnExactStraightQueensSpec)

/-- 'laws.FnExactAreWatching', WHERE WHAT IT READS IS OF BULK AT MOST 1048576: true; the input reads as it did. -/
def fnExactAreWatchingUptoRow : OpenClaim := { program := "ytmhlpaenfknofab", sum := "a5bd5a24305d558cf0c2b71f71711f7b2e234d8227ed6295f795a094985dca2c", func := "loop.example/g01125/laws.FnExactAreWatching", spec := "fnExactAreWatching", apart := false, narrowed := true }
def FnExactAreWatchingUptoSaid : Prop := fnExactAreWatchingUptoRow.holds Try.pinned (OpenSpec.upto fnExactAreWatchingSpec)

/-- 'laws.FnExactLeastWatch', WHERE WHAT IT READS IS OF BULK AT MOST 1048576: true; the input reads as it did. -/
def fnExactLeastWatchUptoRow : OpenClaim := { program := "ytmhlpaenfknofab", sum := "a5bd5a24305d558cf0c2b71f71711f7b2e234d8227ed6295f795a094985dca2c", func := "loop.example/g01125/laws.FnExactLeastWatch", spec := "fnExactLeastWatch", inPlace := ["slices.overlaps[[]int]"], recurses := true, apart := false, narrowed := true }
def FnExactLeastWatchUptoSaid : Prop := fnExactLeastWatchUptoRow.holds Try.pinned (OpenSpec.upto fnExactLeastWatchSpec)

/-- 'laws.FnExactBishopsOf', WHERE WHAT IT READS IS OF BULK AT MOST 1048576: true; the input reads as it did. -/
def fnExactBishopsOfUptoRow : OpenClaim := { program := "ytmhlpaenfknofab", sum := "a5bd5a24305d558cf0c2b71f71711f7b2e234d8227ed6295f795a094985dca2c", func := "loop.example/g01125/laws.FnExactBishopsOf", spec := "fnExactBishopsOf", unfollowed := true, recurses := true, apart := false, narrowed := true }
def FnExactBishopsOfUptoSaid : Prop := fnExactBishopsOfUptoRow.holds Try.pinned (OpenSpec.upto fnExactBishopsOfSpec)

/-- 'laws.FnExactFirstBishops', WHERE WHAT IT READS IS OF BULK AT MOST 1048576: true; the input reads as it did. -/
def fnExactFirstBishopsUptoRow : OpenClaim := { program := "ytmhlpaenfknofab", sum := "a5bd5a24305d558cf0c2b71f71711f7b2e234d8227ed6295f795a094985dca2c", func := "loop.example/g01125/laws.FnExactFirstBishops", spec := "fnExactFirstBishops", unfollowed := true, recurses := true, apart := false, narrowed := true }
def FnExactFirstBishopsUptoSaid : Prop := fnExactFirstBishopsUptoRow.holds Try.pinned (OpenSpec.upto fnExactFirstBishopsSpec)

/-- 'laws.FnExactFirstKings', WHERE WHAT IT READS IS OF BULK AT MOST 1048576: true; the input reads as it did. -/
def fnExactFirstKingsUptoRow : OpenClaim := { program := "ytmhlpaenfknofab", sum := "a5bd5a24305d558cf0c2b71f71711f7b2e234d8227ed6295f795a094985dca2c", func := "loop.example/g01125/laws.FnExactFirstKings", spec := "fnExactFirstKings", unfollowed := true, recurses := true, apart := false, narrowed := true }
def FnExactFirstKingsUptoSaid : Prop := fnExactFirstKingsUptoRow.holds Try.pinned (OpenSpec.upto fnExactFirstKingsSpec)

end Rows
end Go.Proofs.Ytmhlpaenfknofab
