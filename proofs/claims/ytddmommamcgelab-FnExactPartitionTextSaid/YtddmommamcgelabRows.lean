/-
  No cell of these rows narrows 'for every input' (looked for: loops, veiled, ifaces, maps, wideKeys, modest, calm, conditions, laid).
  DERIVED. THE GIVEN ROWS OF THIS SEAT. 10 by the template 'for every input the law returns true; each argument reads behind the call as it read before'; 0 by the template 'total and deterministic' (their statements: YtddmommamcgelabTotals.lean).
  GIVEN WITH THE SEED: the statements are not yours to turn. If you find one false, say at which input.
  Laid BY PROGRAM, IN A SANDBOX (cutbox-rows.mjs): the forced cells as the released guide's own fill.sh prints them over the translation 53962826746b421b… (all of the seat's roots in one cut). By AI agents, Wed Nov 11 2026. No macro, syntax, notation, axiom, sorry.
-/
import Derived.Test.YtddmommamcgelabChecked
import GoSem.Claim
import GoSem.ClaimJoined
import GoSem.ClaimMapViews
import Derived.JoinedTies
import Derived.KernelRfl
namespace Go.Proofs.Ytddmommamcgelab
/- THE CELL 'sum', in the pinned program and in every row, IS THE sha256 OF THE DUMP (.gsa) THAT YtddmommamcgelabProg.lean LOADS. Nothing in Lean hashes anything: it is a label: what it is worth is what the hold of that sum in a sandbox is worth. -/
noncomputable def Try.pinned : Pinned := { name := "ytddmommamcgelab", sum := "53962826746b421bbe74379c9021bc3feacaea7b3e559cd69fd7324007de484d", checked := Try.checked }
namespace Rows
def none {H : Type} : Left H := { results := [], args := [] }

/-- 'laws.FnExactPartitionOf': WHATEVER THE INPUT: true; the input reads as it did. -/
def fnExactPartitionOfSpec : ChangeSpec := { name := "fnExactPartitionOf", fn := fun _ => fun
  | [d] => { results := [.lit (.bool true)], args := [d] }
  | _ => none }
def fnExactPartitionOfRow : OpenClaim := { program := "ytddmommamcgelab", sum := "53962826746b421bbe74379c9021bc3feacaea7b3e559cd69fd7324007de484d", func := "loop.example/g01125/laws.FnExactPartitionOf", spec := "fnExactPartitionOf", unfollowed := true, recurses := true, apart := false }
def FnExactPartitionOfSaid : Prop := fnExactPartitionOfRow.holds Try.pinned (OpenSpec.ofChange fnExactPartitionOfSpec)

/-- ITS FALSE NEIGHBOUR: 'it returns false'. Refute it at one input. -/
def fnExactPartitionOfWrong : ChangeSpec := { name := "fnExactPartitionOf", fn := fun _ => fun
  | [d] => { results := [.lit (.bool false)], args := [d] }
  | _ => none }
def FnExactPartitionOfWrongFalsely : Prop := fnExactPartitionOfRow.holds Try.pinned (OpenSpec.ofChange fnExactPartitionOfWrong)

/-- 'laws.FnExactRooksOfPartition': WHATEVER THE INPUT: true; the input reads as it did. -/
def fnExactRooksOfPartitionSpec : ChangeSpec := { name := "fnExactRooksOfPartition", fn := fun _ => fun
  | [d] => { results := [.lit (.bool true)], args := [d] }
  | _ => none }
def fnExactRooksOfPartitionRow : OpenClaim := { program := "ytddmommamcgelab", sum := "53962826746b421bbe74379c9021bc3feacaea7b3e559cd69fd7324007de484d", func := "loop.example/g01125/laws.FnExactRooksOfPartition", spec := "fnExactRooksOfPartition", unfollowed := true, recurses := true, apart := false }
def FnExactRooksOfPartitionSaid : Prop := fnExactRooksOfPartitionRow.holds Try.pinned (OpenSpec.ofChange fnExactRooksOfPartitionSpec)

/-- ITS FALSE NEIGHBOUR: 'it returns false'. Refute it at one input. -/
def fnExactRooksOfPartitionWrong : ChangeSpec := { name := "fnExactRooksOfPartition", fn := fun _ => fun
  | [d] => { results := [.lit (.bool false)], args := [d] }
  | _ => none }
def FnExactRooksOfPartitionWrongFalsely : Prop := fnExactRooksOfPartitionRow.holds Try.pinned (OpenSpec.ofChange fnExactRooksOfPartitionWrong)

/-- 'laws.FnExactCyclesOfFiles': WHATEVER THE INPUT: true; the input reads as it did. -/
def fnExactCyclesOfFilesSpec : ChangeSpec := { name := "fnExactCyclesOfFiles", fn := fun _ => fun
  | [d] => { results := [.lit (.bool true)], args := [d] }
  | _ => none }
def fnExactCyclesOfFilesRow : OpenClaim := { program := "ytddmommamcgelab", sum := "53962826746b421bbe74379c9021bc3feacaea7b3e559cd69fd7324007de484d", func := "loop.example/g01125/laws.FnExactCyclesOfFiles", spec := "fnExactCyclesOfFiles", unfollowed := true, recurses := true, apart := false }
def FnExactCyclesOfFilesSaid : Prop := fnExactCyclesOfFilesRow.holds Try.pinned (OpenSpec.ofChange fnExactCyclesOfFilesSpec)

/-- ITS FALSE NEIGHBOUR: 'it returns false'. Refute it at one input. -/
def fnExactCyclesOfFilesWrong : ChangeSpec := { name := "fnExactCyclesOfFiles", fn := fun _ => fun
  | [d] => { results := [.lit (.bool false)], args := [d] }
  | _ => none }
def FnExactCyclesOfFilesWrongFalsely : Prop := fnExactCyclesOfFilesRow.holds Try.pinned (OpenSpec.ofChange fnExactCyclesOfFilesWrong)

/-- 'laws.FnExactFilesOfCycles': WHATEVER THE INPUT: true; the input reads as it did. -/
def fnExactFilesOfCyclesSpec : ChangeSpec := { name := "fnExactFilesOfCycles", fn := fun _ => fun
  | [d] => { results := [.lit (.bool true)], args := [d] }
  | _ => none }
def fnExactFilesOfCyclesRow : OpenClaim := { program := "ytddmommamcgelab", sum := "53962826746b421bbe74379c9021bc3feacaea7b3e559cd69fd7324007de484d", func := "loop.example/g01125/laws.FnExactFilesOfCycles", spec := "fnExactFilesOfCycles", unfollowed := true, recurses := true, apart := false }
def FnExactFilesOfCyclesSaid : Prop := fnExactFilesOfCyclesRow.holds Try.pinned (OpenSpec.ofChange fnExactFilesOfCyclesSpec)

/-- ITS FALSE NEIGHBOUR: 'it returns false'. Refute it at one input. -/
def fnExactFilesOfCyclesWrong : ChangeSpec := { name := "fnExactFilesOfCycles", fn := fun _ => fun
  | [d] => { results := [.lit (.bool false)], args := [d] }
  | _ => none }
def FnExactFilesOfCyclesWrongFalsely : Prop := fnExactFilesOfCyclesRow.holds Try.pinned (OpenSpec.ofChange fnExactFilesOfCyclesWrong)

/-- 'laws.FnExactAllPartitions': WHATEVER THE INPUT: true; the input reads as it did. -/
def fnExactAllPartitionsSpec : ChangeSpec := { name := "fnExactAllPartitions", fn := fun _ => fun
  | [d1, d2] => { results := [.lit (.bool true)], args := [d1, d2] }
  | _ => none }
def fnExactAllPartitionsRow : OpenClaim := { program := "ytddmommamcgelab", sum := "53962826746b421bbe74379c9021bc3feacaea7b3e559cd69fd7324007de484d", func := "loop.example/g01125/laws.FnExactAllPartitions", spec := "fnExactAllPartitions", unfollowed := true, recurses := true, apart := false }
def FnExactAllPartitionsSaid : Prop := fnExactAllPartitionsRow.holds Try.pinned (OpenSpec.ofChange fnExactAllPartitionsSpec)

/-- ITS FALSE NEIGHBOUR: 'it returns false'. Refute it at one input. -/
def fnExactAllPartitionsWrong : ChangeSpec := { name := "fnExactAllPartitions", fn := fun _ => fun
  | [d1, d2] => { results := [.lit (.bool false)], args := [d1, d2] }
  | _ => none }
def FnExactAllPartitionsWrongFalsely : Prop := fnExactAllPartitionsRow.holds Try.pinned (OpenSpec.ofChange fnExactAllPartitionsWrong)

/-- 'laws.FnExactPartitionText': WHATEVER THE INPUT: true; the input reads as it did. -/
def fnExactPartitionTextSpec : ChangeSpec := { name := "fnExactPartitionText", fn := fun _ => fun
  | [d] => { results := [.lit (.bool true)], args := [d] }
  | _ => none }
def fnExactPartitionTextRow : OpenClaim := { program := "ytddmommamcgelab", sum := "53962826746b421bbe74379c9021bc3feacaea7b3e559cd69fd7324007de484d", func := "loop.example/g01125/laws.FnExactPartitionText", spec := "fnExactPartitionText", unfollowed := true, recurses := true, apart := false }
def FnExactPartitionTextSaid : Prop := fnExactPartitionTextRow.holds Try.pinned (OpenSpec.ofChange fnExactPartitionTextSpec)

/-- ITS FALSE NEIGHBOUR: 'it returns false'. Refute it at one input. -/
def fnExactPartitionTextWrong : ChangeSpec := { name := "fnExactPartitionText", fn := fun _ => fun
  | [d] => { results := [.lit (.bool false)], args := [d] }
  | _ => none }
def FnExactPartitionTextWrongFalsely : Prop := fnExactPartitionTextRow.holds Try.pinned (OpenSpec.ofChange fnExactPartitionTextWrong)

/-- 'laws.FnKindsOfNumbers': WHATEVER THE INPUT: true; the input reads as it did. -/
def fnKindsOfNumbersSpec : ChangeSpec := { name := "fnKindsOfNumbers", fn := fun _ => fun
  | [d1, d2] => { results := [.lit (.bool true)], args := [d1, d2] }
  | _ => none }
def fnKindsOfNumbersRow : OpenClaim := { program := "ytddmommamcgelab", sum := "53962826746b421bbe74379c9021bc3feacaea7b3e559cd69fd7324007de484d", func := "loop.example/g01125/laws.FnKindsOfNumbers", spec := "fnKindsOfNumbers", unfollowed := true, recurses := true, apart := false }
def FnKindsOfNumbersSaid : Prop := fnKindsOfNumbersRow.holds Try.pinned (OpenSpec.ofChange fnKindsOfNumbersSpec)

/-- ITS FALSE NEIGHBOUR: 'it returns false'. Refute it at one input. -/
def fnKindsOfNumbersWrong : ChangeSpec := { name := "fnKindsOfNumbers", fn := fun _ => fun
  | [d1, d2] => { results := [.lit (.bool false)], args := [d1, d2] }
  | _ => none }
def FnKindsOfNumbersWrongFalsely : Prop := fnKindsOfNumbersRow.holds Try.pinned (OpenSpec.ofChange fnKindsOfNumbersWrong)

/-- 'laws.FnExactLeastCover': WHATEVER THE INPUT: true; the input reads as it did. -/
def fnExactLeastCoverSpec : ChangeSpec := { name := "fnExactLeastCover", fn := fun _ => fun
  | [d] => { results := [.lit (.bool true)], args := [d] }
  | _ => none }
def fnExactLeastCoverRow : OpenClaim := { program := "ytddmommamcgelab", sum := "53962826746b421bbe74379c9021bc3feacaea7b3e559cd69fd7324007de484d", func := "loop.example/g01125/laws.FnExactLeastCover", spec := "fnExactLeastCover", unfollowed := true, recurses := true, apart := false }
def FnExactLeastCoverSaid : Prop := fnExactLeastCoverRow.holds Try.pinned (OpenSpec.ofChange fnExactLeastCoverSpec)

/-- ITS FALSE NEIGHBOUR: 'it returns false'. Refute it at one input. -/
def fnExactLeastCoverWrong : ChangeSpec := { name := "fnExactLeastCover", fn := fun _ => fun
  | [d] => { results := [.lit (.bool false)], args := [d] }
  | _ => none }
def FnExactLeastCoverWrongFalsely : Prop := fnExactLeastCoverRow.holds Try.pinned (OpenSpec.ofChange fnExactLeastCoverWrong)

/-- 'laws.FnExactAllCovers': WHATEVER THE INPUT: true; the input reads as it did. -/
def fnExactAllCoversSpec : ChangeSpec := { name := "fnExactAllCovers", fn := fun _ => fun
  | [d] => { results := [.lit (.bool true)], args := [d] }
  | _ => none }
def fnExactAllCoversRow : OpenClaim := { program := "ytddmommamcgelab", sum := "53962826746b421bbe74379c9021bc3feacaea7b3e559cd69fd7324007de484d", func := "loop.example/g01125/laws.FnExactAllCovers", spec := "fnExactAllCovers", unfollowed := true, recurses := true, apart := false }
def FnExactAllCoversSaid : Prop := fnExactAllCoversRow.holds Try.pinned (OpenSpec.ofChange fnExactAllCoversSpec)

/-- ITS FALSE NEIGHBOUR: 'it returns false'. Refute it at one input. -/
def fnExactAllCoversWrong : ChangeSpec := { name := "fnExactAllCovers", fn := fun _ => fun
  | [d] => { results := [.lit (.bool false)], args := [d] }
  | _ => none }
def FnExactAllCoversWrongFalsely : Prop := fnExactAllCoversRow.holds Try.pinned (OpenSpec.ofChange fnExactAllCoversWrong)

/-- 'laws.FnExactLongerWay': WHATEVER THE INPUT: true; the input reads as it did. -/
def fnExactLongerWaySpec : ChangeSpec := { name := "fnExactLongerWay", fn := fun _ => fun
  | [d1, d2] => { results := [.lit (.bool true)], args := [d1, d2] }
  | _ => none }
def fnExactLongerWayRow : OpenClaim := { program := "ytddmommamcgelab", sum := "53962826746b421bbe74379c9021bc3feacaea7b3e559cd69fd7324007de484d", func := "loop.example/g01125/laws.FnExactLongerWay", spec := "fnExactLongerWay", apart := false }
def FnExactLongerWaySaid : Prop := fnExactLongerWayRow.holds Try.pinned (OpenSpec.ofChange fnExactLongerWaySpec)

/-- ITS FALSE NEIGHBOUR: 'it returns false'. Refute it at one input. -/
def fnExactLongerWayWrong : ChangeSpec := { name := "fnExactLongerWay", fn := fun _ => fun
  | [d1, d2] => { results := [.lit (.bool false)], args := [d1, d2] }
  | _ => none }
def FnExactLongerWayWrongFalsely : Prop := fnExactLongerWayRow.holds Try.pinned (OpenSpec.ofChange fnExactLongerWayWrong)

/- THE SECOND FORM. 'bulk': how many values and letters a reading holds, each counted each time it is reached (what is shared counts as often as it is met; a slice's spare places count too). A statement '..UptoSaid' is the law's where the arguments, and the package variables that the reading takes, are together of bulk at most 1048576: NARROWER than '..Said'. Prove '..Said' where nothing that the law and all that it calls make is longer than what came in: it says more and counts as full. Else prove '..UptoSaid'. A law counts once. -/
mutual
def uptoBulk {H : Type} : DataW H → Nat
  | .lit (.string bytes) => bytes.length + 1
  | .lit _ => 1
  | .nil => 1
  | .ptr d => uptoBulk d + 1
  | .slice elems spare => uptoBulkAll elems + uptoBulkAll spare + 1
  | .agg parts => uptoBulkAll parts + 1
  | .iface _ d => uptoBulk d + 1
  | .map entries => uptoBulkEntries entries + 1
  | .held _ => 1
def uptoBulkAll {H : Type} : List (DataW H) → Nat
  | [] => 0
  | d :: r => uptoBulk d + uptoBulkAll r
def uptoBulkEntries {H : Type} : List (Lit × DataW H) → Nat
  | [] => 0
  | x :: r => uptoBulkEntry x + uptoBulkEntries r
def uptoBulkEntry {H : Type} : Lit × DataW H → Nat
  | (.string bytes, d) => bytes.length + uptoBulk d + 1
  | (_, d) => uptoBulk d + 1
 end
def uptoSmall : (H : Type) → List (DataW H) → Bool := fun _ ds => decide (uptoBulkAll ds ≤ 1048576)
def OpenSpec.upto (s : _root_.Go.ChangeSpec) : _root_.Go.OpenSpec := { _root_.Go.OpenSpec.ofChange s with cond := some uptoSmall }

/-- 'laws.FnExactPartitionOf', WHERE WHAT IT READS IS OF BULK AT MOST 1048576: true; the input reads as it did. -/
def fnExactPartitionOfUptoRow : OpenClaim := { program := "ytddmommamcgelab", sum := "53962826746b421bbe74379c9021bc3feacaea7b3e559cd69fd7324007de484d", func := "loop.example/g01125/laws.FnExactPartitionOf", spec := "fnExactPartitionOf", unfollowed := true, recurses := true, apart := false, narrowed := true }
def FnExactPartitionOfUptoSaid : Prop := fnExactPartitionOfUptoRow.holds Try.pinned (OpenSpec.upto fnExactPartitionOfSpec)

/-- 'laws.FnExactRooksOfPartition', WHERE WHAT IT READS IS OF BULK AT MOST 1048576: true; the input reads as it did. -/
def fnExactRooksOfPartitionUptoRow : OpenClaim := { program := "ytddmommamcgelab", sum := "53962826746b421bbe74379c9021bc3feacaea7b3e559cd69fd7324007de484d", func := "loop.example/g01125/laws.FnExactRooksOfPartition", spec := "fnExactRooksOfPartition", unfollowed := true, recurses := true, apart := false, narrowed := true }
def FnExactRooksOfPartitionUptoSaid : Prop := fnExactRooksOfPartitionUptoRow.holds Try.pinned (OpenSpec.upto fnExactRooksOfPartitionSpec)

/-- 'laws.FnExactCyclesOfFiles', WHERE WHAT IT READS IS OF BULK AT MOST 1048576: true; the input reads as it did. -/
def fnExactCyclesOfFilesUptoRow : OpenClaim := { program := "ytddmommamcgelab", sum := "53962826746b421bbe74379c9021bc3feacaea7b3e559cd69fd7324007de484d", func := "loop.example/g01125/laws.FnExactCyclesOfFiles", spec := "fnExactCyclesOfFiles", unfollowed := true, recurses := true, apart := false, narrowed := true }
def FnExactCyclesOfFilesUptoSaid : Prop := fnExactCyclesOfFilesUptoRow.holds Try.pinned (OpenSpec.upto fnExactCyclesOfFilesSpec)

/-- 'laws.FnExactFilesOfCycles', WHERE WHAT IT READS IS OF BULK AT MOST 1048576: true; the input reads as it did. -/
def fnExactFilesOfCyclesUptoRow : OpenClaim := { program := "ytddmommamcgelab", sum := "53962826746b421bbe74379c9021bc3feacaea7b3e559cd69fd7324007de484d", func := "loop.example/g01125/laws.FnExactFilesOfCycles", spec := "fnExactFilesOfCycles", unfollowed := true, recurses := true, apart := false, narrowed := true }
def FnExactFilesOfCyclesUptoSaid : Prop := fnExactFilesOfCyclesUptoRow.holds Try.pinned (OpenSpec.upto fnExactFilesOfCyclesSpec)

/-- 'laws.FnExactAllPartitions', WHERE WHAT IT READS IS OF BULK AT MOST 1048576: true; the input reads as it did. -/
def fnExactAllPartitionsUptoRow : OpenClaim := { program := "ytddmommamcgelab", sum := "53962826746b421bbe74379c9021bc3feacaea7b3e559cd69fd7324007de484d", func := "loop.example/g01125/laws.FnExactAllPartitions", spec := "fnExactAllPartitions", unfollowed := true, recurses := true, apart := false, narrowed := true }
def FnExactAllPartitionsUptoSaid : Prop := fnExactAllPartitionsUptoRow.holds Try.pinned (OpenSpec.upto fnExactAllPartitionsSpec)

/-- 'laws.FnExactPartitionText', WHERE WHAT IT READS IS OF BULK AT MOST 1048576: true; the input reads as it did. -/
def fnExactPartitionTextUptoRow : OpenClaim := { program := "ytddmommamcgelab", sum := "53962826746b421bbe74379c9021bc3feacaea7b3e559cd69fd7324007de484d", func := "loop.example/g01125/laws.FnExactPartitionText", spec := "fnExactPartitionText", unfollowed := true, recurses := true, apart := false, narrowed := true }
def FnExactPartitionTextUptoSaid : Prop := fnExactPartitionTextUptoRow.holds Try.pinned (OpenSpec.upto fnExactPartitionTextSpec)

/-- 'laws.FnKindsOfNumbers', WHERE WHAT IT READS IS OF BULK AT MOST 1048576: true; the input reads as it did. -/
def fnKindsOfNumbersUptoRow : OpenClaim := { program := "ytddmommamcgelab", sum := "53962826746b421bbe74379c9021bc3feacaea7b3e559cd69fd7324007de484d", func := "loop.example/g01125/laws.FnKindsOfNumbers", spec := "fnKindsOfNumbers", unfollowed := true, recurses := true, apart := false, narrowed := true }
def FnKindsOfNumbersUptoSaid : Prop := fnKindsOfNumbersUptoRow.holds Try.pinned (OpenSpec.upto fnKindsOfNumbersSpec)

/-- 'laws.FnExactLeastCover', WHERE WHAT IT READS IS OF BULK AT MOST 1048576: true; the input reads as it did. -/
def fnExactLeastCoverUptoRow : OpenClaim := { program := "ytddmommamcgelab", sum := "53962826746b421bbe74379c9021bc3feacaea7b3e559cd69fd7324007de484d", func := "loop.example/g01125/laws.FnExactLeastCover", spec := "fnExactLeastCover", unfollowed := true, recurses := true, apart := false, narrowed := true }
def FnExactLeastCoverUptoSaid : Prop := fnExactLeastCoverUptoRow.holds Try.pinned (OpenSpec.upto fnExactLeastCoverSpec)

/-- 'laws.FnExactAllCovers', WHERE WHAT IT READS IS OF BULK AT MOST 1048576: true; the input reads as it did. -/
def fnExactAllCoversUptoRow : OpenClaim := { program := "ytddmommamcgelab", sum := "53962826746b421bbe74379c9021bc3feacaea7b3e559cd69fd7324007de484d", func := "loop.example/g01125/laws.FnExactAllCovers", spec := "fnExactAllCovers", unfollowed := true, recurses := true, apart := false, narrowed := true }
def FnExactAllCoversUptoSaid : Prop := fnExactAllCoversUptoRow.holds Try.pinned (OpenSpec.upto fnExactAllCoversSpec)

/-- 'laws.FnExactLongerWay', WHERE WHAT IT READS IS OF BULK AT MOST 1048576: true; the input reads as it did. -/
def fnExactLongerWayUptoRow : OpenClaim := { program := "ytddmommamcgelab", sum := "53962826746b421bbe74379c9021bc3feacaea7b3e559cd69fd7324007de484d", func := "loop.example/g01125/laws.FnExactLongerWay", spec := "fnExactLongerWay", apart := false, narrowed := true }
def FnExactLongerWayUptoSaid : Prop := fnExactLongerWayUptoRow.holds Try.pinned (OpenSpec.upto fnExactLongerWaySpec)

end Rows
end Go.Proofs.Ytddmommamcgelab
