/-
  No cell of these rows narrows 'for every input' (looked for: loops, veiled, ifaces, maps, wideKeys, modest, calm, conditions, laid).
  DERIVED. THE GIVEN ROWS OF THIS SEAT. 12 by the template 'for every input the law returns true; each argument reads behind the call as it read before'; 0 by the template 'total and deterministic' (their statements: YtdimbnkgomfojabTotals.lean).
  GIVEN WITH THE SEED: the statements are not yours to turn. If you find one false, say at which input.
  Laid BY PROGRAM, IN A SANDBOX (cutbox-rows.mjs): the forced cells as the released guide's own fill.sh prints them over the translation 1553f25f560673e5… (all of the seat's roots in one cut). By AI agents, Wed Nov 11 2026. No macro, syntax, notation, axiom, sorry.
-/
import Derived.Test.YtdimbnkgomfojabChecked
import GoSem.Claim
import GoSem.ClaimJoined
import GoSem.ClaimMapViews
import Derived.JoinedTies
import Derived.KernelRfl
namespace Go.Proofs.Ytdimbnkgomfojab
/- THE CELL 'sum', in the pinned program and in every row, IS THE sha256 OF THE DUMP (.gsa) THAT YtdimbnkgomfojabProg.lean LOADS. Nothing in Lean hashes anything: it is a label: what it is worth is what the hold of that sum in a sandbox is worth. -/
noncomputable def Try.pinned : Pinned := { name := "ytdimbnkgomfojab", sum := "1553f25f560673e504ed5ddc99cd8b9435bf5045b3e39ebc387d7ff162611bfa", checked := Try.checked }
namespace Rows
def none {H : Type} : Left H := { results := [], args := [] }

/-- 'laws.FnExactLargestPlacement': WHATEVER THE INPUT: true; the input reads as it did. -/
def fnExactLargestPlacementSpec : ChangeSpec := { name := "fnExactLargestPlacement", fn := fun _ => fun
  | [d] => { results := [.lit (.bool true)], args := [d] }
  | _ => none }
def fnExactLargestPlacementRow : OpenClaim := { program := "ytdimbnkgomfojab", sum := "1553f25f560673e504ed5ddc99cd8b9435bf5045b3e39ebc387d7ff162611bfa", func := "loop.example/g01125/laws.FnExactLargestPlacement", spec := "fnExactLargestPlacement", unfollowed := true, recurses := true, apart := false }
def FnExactLargestPlacementSaid : Prop := fnExactLargestPlacementRow.holds Try.pinned (OpenSpec.ofChange fnExactLargestPlacementSpec)

/-- ITS FALSE NEIGHBOUR: 'it returns false'. Refute it at one input. -/
def fnExactLargestPlacementWrong : ChangeSpec := { name := "fnExactLargestPlacement", fn := fun _ => fun
  | [d] => { results := [.lit (.bool false)], args := [d] }
  | _ => none }
def FnExactLargestPlacementWrongFalsely : Prop := fnExactLargestPlacementRow.holds Try.pinned (OpenSpec.ofChange fnExactLargestPlacementWrong)

/-- 'laws.FnExactAllLargest': WHATEVER THE INPUT: true; the input reads as it did. -/
def fnExactAllLargestSpec : ChangeSpec := { name := "fnExactAllLargest", fn := fun _ => fun
  | [d] => { results := [.lit (.bool true)], args := [d] }
  | _ => none }
def fnExactAllLargestRow : OpenClaim := { program := "ytdimbnkgomfojab", sum := "1553f25f560673e504ed5ddc99cd8b9435bf5045b3e39ebc387d7ff162611bfa", func := "loop.example/g01125/laws.FnExactAllLargest", spec := "fnExactAllLargest", unfollowed := true, recurses := true, apart := false }
def FnExactAllLargestSaid : Prop := fnExactAllLargestRow.holds Try.pinned (OpenSpec.ofChange fnExactAllLargestSpec)

/-- ITS FALSE NEIGHBOUR: 'it returns false'. Refute it at one input. -/
def fnExactAllLargestWrong : ChangeSpec := { name := "fnExactAllLargest", fn := fun _ => fun
  | [d] => { results := [.lit (.bool false)], args := [d] }
  | _ => none }
def FnExactAllLargestWrongFalsely : Prop := fnExactAllLargestRow.holds Try.pinned (OpenSpec.ofChange fnExactAllLargestWrong)

/-- 'laws.FnExactIsCover': WHATEVER THE INPUT: true; the input reads as it did. -/
def fnExactIsCoverSpec : ChangeSpec := { name := "fnExactIsCover", fn := fun _ => fun
  | [d1, d2] => { results := [.lit (.bool true)], args := [d1, d2] }
  | _ => none }
def fnExactIsCoverRow : OpenClaim := { program := "ytdimbnkgomfojab", sum := "1553f25f560673e504ed5ddc99cd8b9435bf5045b3e39ebc387d7ff162611bfa", func := "loop.example/g01125/laws.FnExactIsCover", spec := "fnExactIsCover", apart := false }
def FnExactIsCoverSaid : Prop := fnExactIsCoverRow.holds Try.pinned (OpenSpec.ofChange fnExactIsCoverSpec)

/-- ITS FALSE NEIGHBOUR: 'it returns false'. Refute it at one input. -/
def fnExactIsCoverWrong : ChangeSpec := { name := "fnExactIsCover", fn := fun _ => fun
  | [d1, d2] => { results := [.lit (.bool false)], args := [d1, d2] }
  | _ => none }
def FnExactIsCoverWrongFalsely : Prop := fnExactIsCoverRow.holds Try.pinned (OpenSpec.ofChange fnExactIsCoverWrong)

/-- 'laws.FnExactLeastCover': WHATEVER THE INPUT: true; the input reads as it did. -/
def fnExactLeastCoverSpec : ChangeSpec := { name := "fnExactLeastCover", fn := fun _ => fun
  | [d] => { results := [.lit (.bool true)], args := [d] }
  | _ => none }
def fnExactLeastCoverRow : OpenClaim := { program := "ytdimbnkgomfojab", sum := "1553f25f560673e504ed5ddc99cd8b9435bf5045b3e39ebc387d7ff162611bfa", func := "loop.example/g01125/laws.FnExactLeastCover", spec := "fnExactLeastCover", unfollowed := true, recurses := true, apart := false }
def FnExactLeastCoverSaid : Prop := fnExactLeastCoverRow.holds Try.pinned (OpenSpec.ofChange fnExactLeastCoverSpec)

/-- ITS FALSE NEIGHBOUR: 'it returns false'. Refute it at one input. -/
def fnExactLeastCoverWrong : ChangeSpec := { name := "fnExactLeastCover", fn := fun _ => fun
  | [d] => { results := [.lit (.bool false)], args := [d] }
  | _ => none }
def FnExactLeastCoverWrongFalsely : Prop := fnExactLeastCoverRow.holds Try.pinned (OpenSpec.ofChange fnExactLeastCoverWrong)

/-- 'laws.FnExactAllCovers': WHATEVER THE INPUT: true; the input reads as it did. -/
def fnExactAllCoversSpec : ChangeSpec := { name := "fnExactAllCovers", fn := fun _ => fun
  | [d] => { results := [.lit (.bool true)], args := [d] }
  | _ => none }
def fnExactAllCoversRow : OpenClaim := { program := "ytdimbnkgomfojab", sum := "1553f25f560673e504ed5ddc99cd8b9435bf5045b3e39ebc387d7ff162611bfa", func := "loop.example/g01125/laws.FnExactAllCovers", spec := "fnExactAllCovers", unfollowed := true, recurses := true, apart := false }
def FnExactAllCoversSaid : Prop := fnExactAllCoversRow.holds Try.pinned (OpenSpec.ofChange fnExactAllCoversSpec)

/-- ITS FALSE NEIGHBOUR: 'it returns false'. Refute it at one input. -/
def fnExactAllCoversWrong : ChangeSpec := { name := "fnExactAllCovers", fn := fun _ => fun
  | [d] => { results := [.lit (.bool false)], args := [d] }
  | _ => none }
def FnExactAllCoversWrongFalsely : Prop := fnExactAllCoversRow.holds Try.pinned (OpenSpec.ofChange fnExactAllCoversWrong)

/-- 'laws.FnExactColumnsOf': WHATEVER THE INPUT: true; the input reads as it did. -/
def fnExactColumnsOfSpec : ChangeSpec := { name := "fnExactColumnsOf", fn := fun _ => fun
  | [d1, d2] => { results := [.lit (.bool true)], args := [d1, d2] }
  | _ => none }
def fnExactColumnsOfRow : OpenClaim := { program := "ytdimbnkgomfojab", sum := "1553f25f560673e504ed5ddc99cd8b9435bf5045b3e39ebc387d7ff162611bfa", func := "loop.example/g01125/laws.FnExactColumnsOf", spec := "fnExactColumnsOf", apart := false }
def FnExactColumnsOfSaid : Prop := fnExactColumnsOfRow.holds Try.pinned (OpenSpec.ofChange fnExactColumnsOfSpec)

/-- ITS FALSE NEIGHBOUR: 'it returns false'. Refute it at one input. -/
def fnExactColumnsOfWrong : ChangeSpec := { name := "fnExactColumnsOf", fn := fun _ => fun
  | [d1, d2] => { results := [.lit (.bool false)], args := [d1, d2] }
  | _ => none }
def FnExactColumnsOfWrongFalsely : Prop := fnExactColumnsOfRow.holds Try.pinned (OpenSpec.ofChange fnExactColumnsOfWrong)

/-- 'laws.FnExactRefusingRows': WHATEVER THE INPUT: true; the input reads as it did. -/
def fnExactRefusingRowsSpec : ChangeSpec := { name := "fnExactRefusingRows", fn := fun _ => fun
  | [d] => { results := [.lit (.bool true)], args := [d] }
  | _ => none }
def fnExactRefusingRowsRow : OpenClaim := { program := "ytdimbnkgomfojab", sum := "1553f25f560673e504ed5ddc99cd8b9435bf5045b3e39ebc387d7ff162611bfa", func := "loop.example/g01125/laws.FnExactRefusingRows", spec := "fnExactRefusingRows", unfollowed := true, recurses := true, apart := false }
def FnExactRefusingRowsSaid : Prop := fnExactRefusingRowsRow.holds Try.pinned (OpenSpec.ofChange fnExactRefusingRowsSpec)

/-- ITS FALSE NEIGHBOUR: 'it returns false'. Refute it at one input. -/
def fnExactRefusingRowsWrong : ChangeSpec := { name := "fnExactRefusingRows", fn := fun _ => fun
  | [d] => { results := [.lit (.bool false)], args := [d] }
  | _ => none }
def FnExactRefusingRowsWrongFalsely : Prop := fnExactRefusingRowsRow.holds Try.pinned (OpenSpec.ofChange fnExactRefusingRowsWrong)

/-- 'laws.FnExactLackOf': WHATEVER THE INPUT: true; the input reads as it did. -/
def fnExactLackOfSpec : ChangeSpec := { name := "fnExactLackOf", fn := fun _ => fun
  | [d] => { results := [.lit (.bool true)], args := [d] }
  | _ => none }
def fnExactLackOfRow : OpenClaim := { program := "ytdimbnkgomfojab", sum := "1553f25f560673e504ed5ddc99cd8b9435bf5045b3e39ebc387d7ff162611bfa", func := "loop.example/g01125/laws.FnExactLackOf", spec := "fnExactLackOf", unfollowed := true, recurses := true, apart := false }
def FnExactLackOfSaid : Prop := fnExactLackOfRow.holds Try.pinned (OpenSpec.ofChange fnExactLackOfSpec)

/-- ITS FALSE NEIGHBOUR: 'it returns false'. Refute it at one input. -/
def fnExactLackOfWrong : ChangeSpec := { name := "fnExactLackOf", fn := fun _ => fun
  | [d] => { results := [.lit (.bool false)], args := [d] }
  | _ => none }
def FnExactLackOfWrongFalsely : Prop := fnExactLackOfRow.holds Try.pinned (OpenSpec.ofChange fnExactLackOfWrong)

/-- 'laws.FnExactLongerWay': WHATEVER THE INPUT: true; the input reads as it did. -/
def fnExactLongerWaySpec : ChangeSpec := { name := "fnExactLongerWay", fn := fun _ => fun
  | [d1, d2] => { results := [.lit (.bool true)], args := [d1, d2] }
  | _ => none }
def fnExactLongerWayRow : OpenClaim := { program := "ytdimbnkgomfojab", sum := "1553f25f560673e504ed5ddc99cd8b9435bf5045b3e39ebc387d7ff162611bfa", func := "loop.example/g01125/laws.FnExactLongerWay", spec := "fnExactLongerWay", apart := false }
def FnExactLongerWaySaid : Prop := fnExactLongerWayRow.holds Try.pinned (OpenSpec.ofChange fnExactLongerWaySpec)

/-- ITS FALSE NEIGHBOUR: 'it returns false'. Refute it at one input. -/
def fnExactLongerWayWrong : ChangeSpec := { name := "fnExactLongerWay", fn := fun _ => fun
  | [d1, d2] => { results := [.lit (.bool false)], args := [d1, d2] }
  | _ => none }
def FnExactLongerWayWrongFalsely : Prop := fnExactLongerWayRow.holds Try.pinned (OpenSpec.ofChange fnExactLongerWayWrong)

/-- 'laws.FnExactFollowWay': WHATEVER THE INPUT: true; the input reads as it did. -/
def fnExactFollowWaySpec : ChangeSpec := { name := "fnExactFollowWay", fn := fun _ => fun
  | [d1, d2, d3] => { results := [.lit (.bool true)], args := [d1, d2, d3] }
  | _ => none }
def fnExactFollowWayRow : OpenClaim := { program := "ytdimbnkgomfojab", sum := "1553f25f560673e504ed5ddc99cd8b9435bf5045b3e39ebc387d7ff162611bfa", func := "loop.example/g01125/laws.FnExactFollowWay", spec := "fnExactFollowWay", unfollowed := true, recurses := true, apart := false }
def FnExactFollowWaySaid : Prop := fnExactFollowWayRow.holds Try.pinned (OpenSpec.ofChange fnExactFollowWaySpec)

/-- ITS FALSE NEIGHBOUR: 'it returns false'. Refute it at one input. -/
def fnExactFollowWayWrong : ChangeSpec := { name := "fnExactFollowWay", fn := fun _ => fun
  | [d1, d2, d3] => { results := [.lit (.bool false)], args := [d1, d2, d3] }
  | _ => none }
def FnExactFollowWayWrongFalsely : Prop := fnExactFollowWayRow.holds Try.pinned (OpenSpec.ofChange fnExactFollowWayWrong)

/-- 'laws.FnExactNeededCells': WHATEVER THE INPUT: true; the input reads as it did. -/
def fnExactNeededCellsSpec : ChangeSpec := { name := "fnExactNeededCells", fn := fun _ => fun
  | [d] => { results := [.lit (.bool true)], args := [d] }
  | _ => none }
def fnExactNeededCellsRow : OpenClaim := { program := "ytdimbnkgomfojab", sum := "1553f25f560673e504ed5ddc99cd8b9435bf5045b3e39ebc387d7ff162611bfa", func := "loop.example/g01125/laws.FnExactNeededCells", spec := "fnExactNeededCells", unfollowed := true, recurses := true, apart := false }
def FnExactNeededCellsSaid : Prop := fnExactNeededCellsRow.holds Try.pinned (OpenSpec.ofChange fnExactNeededCellsSpec)

/-- ITS FALSE NEIGHBOUR: 'it returns false'. Refute it at one input. -/
def fnExactNeededCellsWrong : ChangeSpec := { name := "fnExactNeededCells", fn := fun _ => fun
  | [d] => { results := [.lit (.bool false)], args := [d] }
  | _ => none }
def FnExactNeededCellsWrongFalsely : Prop := fnExactNeededCellsRow.holds Try.pinned (OpenSpec.ofChange fnExactNeededCellsWrong)

/-- 'laws.FnExactUselessCells': WHATEVER THE INPUT: true; the input reads as it did. -/
def fnExactUselessCellsSpec : ChangeSpec := { name := "fnExactUselessCells", fn := fun _ => fun
  | [d] => { results := [.lit (.bool true)], args := [d] }
  | _ => none }
def fnExactUselessCellsRow : OpenClaim := { program := "ytdimbnkgomfojab", sum := "1553f25f560673e504ed5ddc99cd8b9435bf5045b3e39ebc387d7ff162611bfa", func := "loop.example/g01125/laws.FnExactUselessCells", spec := "fnExactUselessCells", unfollowed := true, recurses := true, apart := false }
def FnExactUselessCellsSaid : Prop := fnExactUselessCellsRow.holds Try.pinned (OpenSpec.ofChange fnExactUselessCellsSpec)

/-- ITS FALSE NEIGHBOUR: 'it returns false'. Refute it at one input. -/
def fnExactUselessCellsWrong : ChangeSpec := { name := "fnExactUselessCells", fn := fun _ => fun
  | [d] => { results := [.lit (.bool false)], args := [d] }
  | _ => none }
def FnExactUselessCellsWrongFalsely : Prop := fnExactUselessCellsRow.holds Try.pinned (OpenSpec.ofChange fnExactUselessCellsWrong)

/- THE SECOND FORM. 'bulk': how many values and letters a reading holds, each counted each time it is reached (what is shared counts as often as it is met; a slice's spare places count too). A statement '..UptoSaid' is the law's where the arguments, and the package variables that the reading takes, are together of bulk at most 1048576: NARROWER than '..Said'. Prove '..Said' where nothing that the law and all that it calls make is longer than what came in: it says more and counts as full. Else prove '..UptoSaid'. A law counts once. -/
mutual
def uptoBulk {H : Type} : DataW H → Nat
  | .lit (.string bytes) => bytes.length + 1
  | .lit _ => 1
  | .nil => 1
  | .ptr d => uptoBulk d + 1
  | .slice elems spare => uptoBulkAll elems + uptoBulkAll spare + 1
  | .agg parts => uptoBulkAll parts + 1
  | .iface _ d => uptoBulk d + 1
  | .map entries => uptoBulkEntries entries + 1
  | .held _ => 1
def uptoBulkAll {H : Type} : List (DataW H) → Nat
  | [] => 0
  | d :: r => uptoBulk d + uptoBulkAll r
def uptoBulkEntries {H : Type} : List (Lit × DataW H) → Nat
  | [] => 0
  | x :: r => uptoBulkEntry x + uptoBulkEntries r
def uptoBulkEntry {H : Type} : Lit × DataW H → Nat
  | (.string bytes, d) => bytes.length + uptoBulk d + 1
  | (_, d) => uptoBulk d + 1
 end
def uptoSmall : (H : Type) → List (DataW H) → Bool := fun _ ds => decide (uptoBulkAll ds ≤ 1048576)
def OpenSpec.upto (s : _root_.Go.ChangeSpec) : _root_.Go.OpenSpec := { _root_.Go.OpenSpec.ofChange s with cond := some uptoSmall }

/-- 'laws.FnExactLargestPlacement', WHERE WHAT IT READS IS OF BULK AT MOST 1048576: true; the input reads as it did. -/
def fnExactLargestPlacementUptoRow : OpenClaim := { program := "ytdimbnkgomfojab", sum := "1553f25f560673e504ed5ddc99cd8b9435bf5045b3e39ebc387d7ff162611bfa", func := "loop.example/g01125/laws.FnExactLargestPlacement", spec := "fnExactLargestPlacement", unfollowed := true, recurses := true, apart := false, narrowed := true }
def FnExactLargestPlacementUptoSaid : Prop := fnExactLargestPlacementUptoRow.holds Try.pinned (OpenSpec.upto fnExactLargestPlacementSpec)

/-- 'laws.FnExactAllLargest', WHERE WHAT IT READS IS OF BULK AT MOST 1048576: true; the input reads as it did. -/
def fnExactAllLargestUptoRow : OpenClaim := { program := "ytdimbnkgomfojab", sum := "1553f25f560673e504ed5ddc99cd8b9435bf5045b3e39ebc387d7ff162611bfa", func := "loop.example/g01125/laws.FnExactAllLargest", spec := "fnExactAllLargest", unfollowed := true, recurses := true, apart := false, narrowed := true }
def FnExactAllLargestUptoSaid : Prop := fnExactAllLargestUptoRow.holds Try.pinned (OpenSpec.upto fnExactAllLargestSpec)

/-- 'laws.FnExactIsCover', WHERE WHAT IT READS IS OF BULK AT MOST 1048576: true; the input reads as it did. -/
def fnExactIsCoverUptoRow : OpenClaim := { program := "ytdimbnkgomfojab", sum := "1553f25f560673e504ed5ddc99cd8b9435bf5045b3e39ebc387d7ff162611bfa", func := "loop.example/g01125/laws.FnExactIsCover", spec := "fnExactIsCover", apart := false, narrowed := true }
def FnExactIsCoverUptoSaid : Prop := fnExactIsCoverUptoRow.holds Try.pinned (OpenSpec.upto fnExactIsCoverSpec)

/-- 'laws.FnExactLeastCover', WHERE WHAT IT READS IS OF BULK AT MOST 1048576: true; the input reads as it did. -/
def fnExactLeastCoverUptoRow : OpenClaim := { program := "ytdimbnkgomfojab", sum := "1553f25f560673e504ed5ddc99cd8b9435bf5045b3e39ebc387d7ff162611bfa", func := "loop.example/g01125/laws.FnExactLeastCover", spec := "fnExactLeastCover", unfollowed := true, recurses := true, apart := false, narrowed := true }
def FnExactLeastCoverUptoSaid : Prop := fnExactLeastCoverUptoRow.holds Try.pinned (OpenSpec.upto fnExactLeastCoverSpec)

/-- 'laws.FnExactAllCovers', WHERE WHAT IT READS IS OF BULK AT MOST 1048576: true; the input reads as it did. -/
def fnExactAllCoversUptoRow : OpenClaim := { program := "ytdimbnkgomfojab", sum := "1553f25f560673e504ed5ddc99cd8b9435bf5045b3e39ebc387d7ff162611bfa", func := "loop.example/g01125/laws.FnExactAllCovers", spec := "fnExactAllCovers", unfollowed := true, recurses := true, apart := false, narrowed := true }
def FnExactAllCoversUptoSaid : Prop := fnExactAllCoversUptoRow.holds Try.pinned (OpenSpec.upto fnExactAllCoversSpec)

/-- 'laws.FnExactColumnsOf', WHERE WHAT IT READS IS OF BULK AT MOST 1048576: true; the input reads as it did. -/
def fnExactColumnsOfUptoRow : OpenClaim := { program := "ytdimbnkgomfojab", sum := "1553f25f560673e504ed5ddc99cd8b9435bf5045b3e39ebc387d7ff162611bfa", func := "loop.example/g01125/laws.FnExactColumnsOf", spec := "fnExactColumnsOf", apart := false, narrowed := true }
def FnExactColumnsOfUptoSaid : Prop := fnExactColumnsOfUptoRow.holds Try.pinned (OpenSpec.upto fnExactColumnsOfSpec)

/-- 'laws.FnExactRefusingRows', WHERE WHAT IT READS IS OF BULK AT MOST 1048576: true; the input reads as it did. -/
def fnExactRefusingRowsUptoRow : OpenClaim := { program := "ytdimbnkgomfojab", sum := "1553f25f560673e504ed5ddc99cd8b9435bf5045b3e39ebc387d7ff162611bfa", func := "loop.example/g01125/laws.FnExactRefusingRows", spec := "fnExactRefusingRows", unfollowed := true, recurses := true, apart := false, narrowed := true }
def FnExactRefusingRowsUptoSaid : Prop := fnExactRefusingRowsUptoRow.holds Try.pinned (OpenSpec.upto fnExactRefusingRowsSpec)

/-- 'laws.FnExactLackOf', WHERE WHAT IT READS IS OF BULK AT MOST 1048576: true; the input reads as it did. -/
def fnExactLackOfUptoRow : OpenClaim := { program := "ytdimbnkgomfojab", sum := "1553f25f560673e504ed5ddc99cd8b9435bf5045b3e39ebc387d7ff162611bfa", func := "loop.example/g01125/laws.FnExactLackOf", spec := "fnExactLackOf", unfollowed := true, recurses := true, apart := false, narrowed := true }
def FnExactLackOfUptoSaid : Prop := fnExactLackOfUptoRow.holds Try.pinned (OpenSpec.upto fnExactLackOfSpec)

/-- 'laws.FnExactLongerWay', WHERE WHAT IT READS IS OF BULK AT MOST 1048576: true; the input reads as it did. -/
def fnExactLongerWayUptoRow : OpenClaim := { program := "ytdimbnkgomfojab", sum := "1553f25f560673e504ed5ddc99cd8b9435bf5045b3e39ebc387d7ff162611bfa", func := "loop.example/g01125/laws.FnExactLongerWay", spec := "fnExactLongerWay", apart := false, narrowed := true }
def FnExactLongerWayUptoSaid : Prop := fnExactLongerWayUptoRow.holds Try.pinned (OpenSpec.upto fnExactLongerWaySpec)

/-- 'laws.FnExactFollowWay', WHERE WHAT IT READS IS OF BULK AT MOST 1048576: true; the input reads as it did. -/
def fnExactFollowWayUptoRow : OpenClaim := { program := "ytdimbnkgomfojab", sum := "1553f25f560673e504ed5ddc99cd8b9435bf5045b3e39ebc387d7ff162611bfa", func := "loop.example/g01125/laws.FnExactFollowWay", spec := "fnExactFollowWay", unfollowed := true, recurses := true, apart := false, narrowed := true }
def FnExactFollowWayUptoSaid : Prop := fnExactFollowWayUptoRow.holds Try.pinned (OpenSpec.upto fnExactFollowWaySpec)

/-- 'laws.FnExactNeededCells', WHERE WHAT IT READS IS OF BULK AT MOST 1048576: true; the input reads as it did. -/
def fnExactNeededCellsUptoRow : OpenClaim := { program := "ytdimbnkgomfojab", sum := "1553f25f560673e504ed5ddc99cd8b9435bf5045b3e39ebc387d7ff162611bfa", func := "loop.example/g01125/laws.FnExactNeededCells", spec := "fnExactNeededCells", unfollowed := true, recurses := true, apart := false, narrowed := true }
def FnExactNeededCellsUptoSaid : Prop := fnExactNeededCellsUptoRow.holds Try.pinned (OpenSpec.upto fnExactNeededCellsSpec)

/-- 'laws.FnExactUselessCells', WHERE WHAT IT READS IS OF BULK AT MOST 1048576: true; the input reads as it did. -/
def fnExactUselessCellsUptoRow : OpenClaim := { program := "ytdimbnkgomfojab", sum := "1553f25f560673e504ed5ddc99cd8b9435bf5045b3e39ebc387d7ff162611bfa", func := "loop.example/g01125/laws.FnExactUselessCells", spec := "fnExactUselessCells", unfollowed := true, recurses := true, apart := false, narrowed := true }
def FnExactUselessCellsUptoSaid : Prop := fnExactUselessCellsUptoRow.holds Try.pinned (OpenSpec.upto fnExactUselessCellsSpec)

end Rows
end Go.Proofs.Ytdimbnkgomfojab
