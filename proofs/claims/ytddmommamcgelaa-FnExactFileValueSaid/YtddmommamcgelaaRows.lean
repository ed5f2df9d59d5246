/-
  No cell of these rows narrows 'for every input' (looked for: loops, veiled, ifaces, maps, wideKeys, modest, calm, conditions, laid).
  DERIVED. THE GIVEN ROWS OF THIS SEAT. 12 by the template 'for every input the law returns true; each argument reads behind the call as it read before'; 0 by the template 'total and deterministic' (their statements: YtddmommamcgelaaTotals.lean).
  GIVEN WITH THE SEED: the statements are not yours to turn. If you find one false, say at which input.
  Laid BY PROGRAM, IN A SANDBOX (cutbox-rows.mjs): the forced cells as the released guide's own fill.sh prints them over the translation adbb6d8d07523e7e… (all of the seat's roots in one cut). By AI agents, Wed Nov 11 2026. No macro, syntax, notation, axiom, sorry.
-/
import Derived.Test.YtddmommamcgelaaChecked
import GoSem.Claim
import GoSem.ClaimJoined
import GoSem.ClaimMapViews
import Derived.JoinedTies
import Derived.KernelRfl
namespace Go.Proofs.Ytddmommamcgelaa
/- THE CELL 'sum', in the pinned program and in every row, IS THE sha256 OF THE DUMP (.gsa) THAT YtddmommamcgelaaProg.lean LOADS. Nothing in Lean hashes anything: it is a label: what it is worth is what the hold of that sum in a sandbox is worth. -/
noncomputable def Try.pinned : Pinned := { name := "ytddmommamcgelaa", sum := "adbb6d8d07523e7ee8604aeba5e19c9d04f45e925167255b9adf91da3f702ab7", checked := Try.checked }
namespace Rows
def none {H : Type} : Left H := { results := [], args := [] }

/-- 'laws.FnExactCountCouples': WHATEVER THE INPUT: true; the input reads as it did. -/
def fnExactCountCouplesSpec : ChangeSpec := { name := "fnExactCountCouples", fn := fun _ => fun
  | [d] => { results := [.lit (.bool true)], args := [d] }
  | _ => none }
def fnExactCountCouplesRow : OpenClaim := { program := "ytddmommamcgelaa", sum := "adbb6d8d07523e7ee8604aeba5e19c9d04f45e925167255b9adf91da3f702ab7", func := "loop.example/g01125/laws.FnExactCountCouples", spec := "fnExactCountCouples", unfollowed := true, recurses := true, apart := false }
def FnExactCountCouplesSaid : Prop := fnExactCountCouplesRow.holds Try.pinned (OpenSpec.ofChange fnExactCountCouplesSpec)

/-- ITS FALSE NEIGHBOUR: 'it returns false'. Refute it at one input. -/
def fnExactCountCouplesWrong : ChangeSpec := { name := "fnExactCountCouples", fn := fun _ => fun
  | [d] => { results := [.lit (.bool false)], args := [d] }
  | _ => none }
def FnExactCountCouplesWrongFalsely : Prop := fnExactCountCouplesRow.holds Try.pinned (OpenSpec.ofChange fnExactCountCouplesWrong)

/-- 'laws.FnExactEulerNumbers': WHATEVER THE INPUT: true; the input reads as it did. -/
def fnExactEulerNumbersSpec : ChangeSpec := { name := "fnExactEulerNumbers", fn := fun _ => fun
  | [d] => { results := [.lit (.bool true)], args := [d] }
  | _ => none }
def fnExactEulerNumbersRow : OpenClaim := { program := "ytddmommamcgelaa", sum := "adbb6d8d07523e7ee8604aeba5e19c9d04f45e925167255b9adf91da3f702ab7", func := "loop.example/g01125/laws.FnExactEulerNumbers", spec := "fnExactEulerNumbers", unfollowed := true, recurses := true, apart := false }
def FnExactEulerNumbersSaid : Prop := fnExactEulerNumbersRow.holds Try.pinned (OpenSpec.ofChange fnExactEulerNumbersSpec)

/-- ITS FALSE NEIGHBOUR: 'it returns false'. Refute it at one input. -/
def fnExactEulerNumbersWrong : ChangeSpec := { name := "fnExactEulerNumbers", fn := fun _ => fun
  | [d] => { results := [.lit (.bool false)], args := [d] }
  | _ => none }
def FnExactEulerNumbersWrongFalsely : Prop := fnExactEulerNumbersRow.holds Try.pinned (OpenSpec.ofChange fnExactEulerNumbersWrong)

/-- 'laws.FnExactDerangementsWith': WHATEVER THE INPUT: true; the input reads as it did. -/
def fnExactDerangementsWithSpec : ChangeSpec := { name := "fnExactDerangementsWith", fn := fun _ => fun
  | [d1, d2] => { results := [.lit (.bool true)], args := [d1, d2] }
  | _ => none }
def fnExactDerangementsWithRow : OpenClaim := { program := "ytddmommamcgelaa", sum := "adbb6d8d07523e7ee8604aeba5e19c9d04f45e925167255b9adf91da3f702ab7", func := "loop.example/g01125/laws.FnExactDerangementsWith", spec := "fnExactDerangementsWith", unfollowed := true, recurses := true, apart := false }
def FnExactDerangementsWithSaid : Prop := fnExactDerangementsWithRow.holds Try.pinned (OpenSpec.ofChange fnExactDerangementsWithSpec)

/-- ITS FALSE NEIGHBOUR: 'it returns false'. Refute it at one input. -/
def fnExactDerangementsWithWrong : ChangeSpec := { name := "fnExactDerangementsWith", fn := fun _ => fun
  | [d1, d2] => { results := [.lit (.bool false)], args := [d1, d2] }
  | _ => none }
def FnExactDerangementsWithWrongFalsely : Prop := fnExactDerangementsWithRow.holds Try.pinned (OpenSpec.ofChange fnExactDerangementsWithWrong)

/-- 'laws.FnExactDerangements': WHATEVER THE INPUT: true; the input reads as it did. -/
def fnExactDerangementsSpec : ChangeSpec := { name := "fnExactDerangements", fn := fun _ => fun
  | [d] => { results := [.lit (.bool true)], args := [d] }
  | _ => none }
def fnExactDerangementsRow : OpenClaim := { program := "ytddmommamcgelaa", sum := "adbb6d8d07523e7ee8604aeba5e19c9d04f45e925167255b9adf91da3f702ab7", func := "loop.example/g01125/laws.FnExactDerangements", spec := "fnExactDerangements", unfollowed := true, recurses := true, apart := false }
def FnExactDerangementsSaid : Prop := fnExactDerangementsRow.holds Try.pinned (OpenSpec.ofChange fnExactDerangementsSpec)

/-- ITS FALSE NEIGHBOUR: 'it returns false'. Refute it at one input. -/
def fnExactDerangementsWrong : ChangeSpec := { name := "fnExactDerangements", fn := fun _ => fun
  | [d] => { results := [.lit (.bool false)], args := [d] }
  | _ => none }
def FnExactDerangementsWrongFalsely : Prop := fnExactDerangementsRow.holds Try.pinned (OpenSpec.ofChange fnExactDerangementsWrong)

/-- 'laws.FnExactArrowBoard': WHATEVER THE INPUT: true; the input reads as it did. -/
def fnExactArrowBoardSpec : ChangeSpec := { name := "fnExactArrowBoard", fn := fun _ => fun
  | [d] => { results := [.lit (.bool true)], args := [d] }
  | _ => none }
def fnExactArrowBoardRow : OpenClaim := { program := "ytddmommamcgelaa", sum := "adbb6d8d07523e7ee8604aeba5e19c9d04f45e925167255b9adf91da3f702ab7", func := "loop.example/g01125/laws.FnExactArrowBoard", spec := "fnExactArrowBoard", unfollowed := true, recurses := true, apart := false }
def FnExactArrowBoardSaid : Prop := fnExactArrowBoardRow.holds Try.pinned (OpenSpec.ofChange fnExactArrowBoardSpec)

/-- ITS FALSE NEIGHBOUR: 'it returns false'. Refute it at one input. -/
def fnExactArrowBoardWrong : ChangeSpec := { name := "fnExactArrowBoard", fn := fun _ => fun
  | [d] => { results := [.lit (.bool false)], args := [d] }
  | _ => none }
def FnExactArrowBoardWrongFalsely : Prop := fnExactArrowBoardRow.holds Try.pinned (OpenSpec.ofChange fnExactArrowBoardWrong)

/-- 'laws.FnExactStirlingSecond': WHATEVER THE INPUT: true; the input reads as it did. -/
def fnExactStirlingSecondSpec : ChangeSpec := { name := "fnExactStirlingSecond", fn := fun _ => fun
  | [d1, d2] => { results := [.lit (.bool true)], args := [d1, d2] }
  | _ => none }
def fnExactStirlingSecondRow : OpenClaim := { program := "ytddmommamcgelaa", sum := "adbb6d8d07523e7ee8604aeba5e19c9d04f45e925167255b9adf91da3f702ab7", func := "loop.example/g01125/laws.FnExactStirlingSecond", spec := "fnExactStirlingSecond", unfollowed := true, recurses := true, apart := false }
def FnExactStirlingSecondSaid : Prop := fnExactStirlingSecondRow.holds Try.pinned (OpenSpec.ofChange fnExactStirlingSecondSpec)

/-- ITS FALSE NEIGHBOUR: 'it returns false'. Refute it at one input. -/
def fnExactStirlingSecondWrong : ChangeSpec := { name := "fnExactStirlingSecond", fn := fun _ => fun
  | [d1, d2] => { results := [.lit (.bool false)], args := [d1, d2] }
  | _ => none }
def FnExactStirlingSecondWrongFalsely : Prop := fnExactStirlingSecondRow.holds Try.pinned (OpenSpec.ofChange fnExactStirlingSecondWrong)

/-- 'laws.FnExactStirlingFirst': WHATEVER THE INPUT: true; the input reads as it did. -/
def fnExactStirlingFirstSpec : ChangeSpec := { name := "fnExactStirlingFirst", fn := fun _ => fun
  | [d1, d2] => { results := [.lit (.bool true)], args := [d1, d2] }
  | _ => none }
def fnExactStirlingFirstRow : OpenClaim := { program := "ytddmommamcgelaa", sum := "adbb6d8d07523e7ee8604aeba5e19c9d04f45e925167255b9adf91da3f702ab7", func := "loop.example/g01125/laws.FnExactStirlingFirst", spec := "fnExactStirlingFirst", apart := false }
def FnExactStirlingFirstSaid : Prop := fnExactStirlingFirstRow.holds Try.pinned (OpenSpec.ofChange fnExactStirlingFirstSpec)

/-- ITS FALSE NEIGHBOUR: 'it returns false'. Refute it at one input. -/
def fnExactStirlingFirstWrong : ChangeSpec := { name := "fnExactStirlingFirst", fn := fun _ => fun
  | [d1, d2] => { results := [.lit (.bool false)], args := [d1, d2] }
  | _ => none }
def FnExactStirlingFirstWrongFalsely : Prop := fnExactStirlingFirstRow.holds Try.pinned (OpenSpec.ofChange fnExactStirlingFirstWrong)

/-- 'laws.FnExactLahNumber': WHATEVER THE INPUT: true; the input reads as it did. -/
def fnExactLahNumberSpec : ChangeSpec := { name := "fnExactLahNumber", fn := fun _ => fun
  | [d1, d2] => { results := [.lit (.bool true)], args := [d1, d2] }
  | _ => none }
def fnExactLahNumberRow : OpenClaim := { program := "ytddmommamcgelaa", sum := "adbb6d8d07523e7ee8604aeba5e19c9d04f45e925167255b9adf91da3f702ab7", func := "loop.example/g01125/laws.FnExactLahNumber", spec := "fnExactLahNumber", unfollowed := true, recurses := true, apart := false }
def FnExactLahNumberSaid : Prop := fnExactLahNumberRow.holds Try.pinned (OpenSpec.ofChange fnExactLahNumberSpec)

/-- ITS FALSE NEIGHBOUR: 'it returns false'. Refute it at one input. -/
def fnExactLahNumberWrong : ChangeSpec := { name := "fnExactLahNumber", fn := fun _ => fun
  | [d1, d2] => { results := [.lit (.bool false)], args := [d1, d2] }
  | _ => none }
def FnExactLahNumberWrongFalsely : Prop := fnExactLahNumberRow.holds Try.pinned (OpenSpec.ofChange fnExactLahNumberWrong)

/-- 'laws.FnExactCountPartitions': WHATEVER THE INPUT: true; the input reads as it did. -/
def fnExactCountPartitionsSpec : ChangeSpec := { name := "fnExactCountPartitions", fn := fun _ => fun
  | [d] => { results := [.lit (.bool true)], args := [d] }
  | _ => none }
def fnExactCountPartitionsRow : OpenClaim := { program := "ytddmommamcgelaa", sum := "adbb6d8d07523e7ee8604aeba5e19c9d04f45e925167255b9adf91da3f702ab7", func := "loop.example/g01125/laws.FnExactCountPartitions", spec := "fnExactCountPartitions", unfollowed := true, recurses := true, apart := false }
def FnExactCountPartitionsSaid : Prop := fnExactCountPartitionsRow.holds Try.pinned (OpenSpec.ofChange fnExactCountPartitionsSpec)

/-- ITS FALSE NEIGHBOUR: 'it returns false'. Refute it at one input. -/
def fnExactCountPartitionsWrong : ChangeSpec := { name := "fnExactCountPartitions", fn := fun _ => fun
  | [d] => { results := [.lit (.bool false)], args := [d] }
  | _ => none }
def FnExactCountPartitionsWrongFalsely : Prop := fnExactCountPartitionsRow.holds Try.pinned (OpenSpec.ofChange fnExactCountPartitionsWrong)

/-- 'laws.FnExactIsFilePlacement': WHATEVER THE INPUT: true; the input reads as it did. -/
def fnExactIsFilePlacementSpec : ChangeSpec := { name := "fnExactIsFilePlacement", fn := fun _ => fun
  | [d1, d2] => { results := [.lit (.bool true)], args := [d1, d2] }
  | _ => none }
def fnExactIsFilePlacementRow : OpenClaim := { program := "ytddmommamcgelaa", sum := "adbb6d8d07523e7ee8604aeba5e19c9d04f45e925167255b9adf91da3f702ab7", func := "loop.example/g01125/laws.FnExactIsFilePlacement", spec := "fnExactIsFilePlacement", apart := false }
def FnExactIsFilePlacementSaid : Prop := fnExactIsFilePlacementRow.holds Try.pinned (OpenSpec.ofChange fnExactIsFilePlacementSpec)

/-- ITS FALSE NEIGHBOUR: 'it returns false'. Refute it at one input. -/
def fnExactIsFilePlacementWrong : ChangeSpec := { name := "fnExactIsFilePlacement", fn := fun _ => fun
  | [d1, d2] => { results := [.lit (.bool false)], args := [d1, d2] }
  | _ => none }
def FnExactIsFilePlacementWrongFalsely : Prop := fnExactIsFilePlacementRow.holds Try.pinned (OpenSpec.ofChange fnExactIsFilePlacementWrong)

/-- 'laws.FnExactFileNumbers': WHATEVER THE INPUT: true; the input reads as it did. -/
def fnExactFileNumbersSpec : ChangeSpec := { name := "fnExactFileNumbers", fn := fun _ => fun
  | [d] => { results := [.lit (.bool true)], args := [d] }
  | _ => none }
def fnExactFileNumbersRow : OpenClaim := { program := "ytddmommamcgelaa", sum := "adbb6d8d07523e7ee8604aeba5e19c9d04f45e925167255b9adf91da3f702ab7", func := "loop.example/g01125/laws.FnExactFileNumbers", spec := "fnExactFileNumbers", unfollowed := true, recurses := true, apart := false }
def FnExactFileNumbersSaid : Prop := fnExactFileNumbersRow.holds Try.pinned (OpenSpec.ofChange fnExactFileNumbersSpec)

/-- ITS FALSE NEIGHBOUR: 'it returns false'. Refute it at one input. -/
def fnExactFileNumbersWrong : ChangeSpec := { name := "fnExactFileNumbers", fn := fun _ => fun
  | [d] => { results := [.lit (.bool false)], args := [d] }
  | _ => none }
def FnExactFileNumbersWrongFalsely : Prop := fnExactFileNumbersRow.holds Try.pinned (OpenSpec.ofChange fnExactFileNumbersWrong)

/-- 'laws.FnExactFileValue': WHATEVER THE INPUT: true; the input reads as it did. -/
def fnExactFileValueSpec : ChangeSpec := { name := "fnExactFileValue", fn := fun _ => fun
  | [d1, d2] => { results := [.lit (.bool true)], args := [d1, d2] }
  | _ => none }
def fnExactFileValueRow : OpenClaim := { program := "ytddmommamcgelaa", sum := "adbb6d8d07523e7ee8604aeba5e19c9d04f45e925167255b9adf91da3f702ab7", func := "loop.example/g01125/laws.FnExactFileValue", spec := "fnExactFileValue", unfollowed := true, recurses := true, apart := false }
def FnExactFileValueSaid : Prop := fnExactFileValueRow.holds Try.pinned (OpenSpec.ofChange fnExactFileValueSpec)

/-- ITS FALSE NEIGHBOUR: 'it returns false'. Refute it at one input. -/
def fnExactFileValueWrong : ChangeSpec := { name := "fnExactFileValue", fn := fun _ => fun
  | [d1, d2] => { results := [.lit (.bool false)], args := [d1, d2] }
  | _ => none }
def FnExactFileValueWrongFalsely : Prop := fnExactFileValueRow.holds Try.pinned (OpenSpec.ofChange fnExactFileValueWrong)

/- THE SECOND FORM. 'bulk': how many values and letters a reading holds, each counted each time it is reached (what is shared counts as often as it is met; a slice's spare places count too). A statement '..UptoSaid' is the law's where the arguments, and the package variables that the reading takes, are together of bulk at most 1048576: NARROWER than '..Said'. Prove '..Said' where nothing that the law and all that it calls make is longer than what came in: it says more and counts as full. Else prove '..UptoSaid'. A law counts once. -/
mutual
def uptoBulk {H : Type} : DataW H → Nat
  | .lit (.string bytes) => bytes.length + 1
  | .lit _ => 1
  | .nil => 1
  | .ptr d => uptoBulk d + 1
  | .slice elems spare => uptoBulkAll elems + uptoBulkAll spare + 1
  | .agg parts => uptoBulkAll parts + 1
  | .iface _ d => uptoBulk d + 1
  | .map entries => uptoBulkEntries entries + 1
  | .held _ => 1
def uptoBulkAll {H : Type} : List (DataW H) → Nat
  | [] => 0
  | d :: r => uptoBulk d + uptoBulkAll r
def uptoBulkEntries {H : Type} : List (Lit × DataW H) → Nat
  | [] => 0
  | x :: r => uptoBulkEntry x + uptoBulkEntries r
def uptoBulkEntry {H : Type} : Lit × DataW H → Nat
  | (.string bytes, d) => bytes.length + uptoBulk d + 1
  | (_, d) => uptoBulk d + 1
 end
def uptoSmall : (H : Type) → List (DataW H) → Bool := fun _ ds => decide (uptoBulkAll ds ≤ 1048576)
def OpenSpec.upto (s : _root_.Go.ChangeSpec) : _root_.Go.OpenSpec := { _root_.Go.OpenSpec.ofChange s with cond := some uptoSmall }

/-- 'laws.FnExactCountCouples', WHERE WHAT IT READS IS OF BULK AT MOST 1048576: true; the input reads as it did. -/
def fnExactCountCouplesUptoRow : OpenClaim := { program := "ytddmommamcgelaa", sum := "adbb6d8d07523e7ee8604aeba5e19c9d04f45e925167255b9adf91da3f702ab7", func := "loop.example/g01125/laws.FnExactCountCouples", spec := "fnExactCountCouples", unfollowed := true, recurses := true, apart := false, narrowed := true }
def FnExactCountCouplesUptoSaid : Prop := fnExactCountCouplesUptoRow.holds Try.pinned (OpenSpec.upto fnExactCountCouplesSpec)

/-- 'laws.FnExactEulerNumbers', WHERE WHAT IT READS IS OF BULK AT MOST 1048576: true; the input reads as it did. -/
def fnExactEulerNumbersUptoRow : OpenClaim := { program := "ytddmommamcgelaa", sum := "adbb6d8d07523e7ee8604aeba5e19c9d04f45e925167255b9adf91da3f702ab7", func := "loop.example/g01125/laws.FnExactEulerNumbers", spec := "fnExactEulerNumbers", unfollowed := true, recurses := true, apart := false, narrowed := true }
def FnExactEulerNumbersUptoSaid : Prop := fnExactEulerNumbersUptoRow.holds Try.pinned (OpenSpec.upto fnExactEulerNumbersSpec)

/-- 'laws.FnExactDerangementsWith', WHERE WHAT IT READS IS OF BULK AT MOST 1048576: true; the input reads as it did. -/
def fnExactDerangementsWithUptoRow : OpenClaim := { program := "ytddmommamcgelaa", sum := "adbb6d8d07523e7ee8604aeba5e19c9d04f45e925167255b9adf91da3f702ab7", func := "loop.example/g01125/laws.FnExactDerangementsWith", spec := "fnExactDerangementsWith", unfollowed := true, recurses := true, apart := false, narrowed := true }
def FnExactDerangementsWithUptoSaid : Prop := fnExactDerangementsWithUptoRow.holds Try.pinned (OpenSpec.upto fnExactDerangementsWithSpec)

/-- 'laws.FnExactDerangements', WHERE WHAT IT READS IS OF BULK AT MOST 1048576: true; the input reads as it did. -/
def fnExactDerangementsUptoRow : OpenClaim := { program := "ytddmommamcgelaa", sum := "adbb6d8d07523e7ee8604aeba5e19c9d04f45e925167255b9adf91da3f702ab7", func := "loop.example/g01125/laws.FnExactDerangements", spec := "fnExactDerangements", unfollowed := true, recurses := true, apart := false, narrowed := true }
def FnExactDerangementsUptoSaid : Prop := fnExactDerangementsUptoRow.holds Try.pinned (OpenSpec.upto fnExactDerangementsSpec)

/-- 'laws.FnExactArrowBoard', WHERE WHAT IT READS IS OF BULK AT MOST 1048576: true; the input reads as it did. -/
def fnExactArrowBoardUptoRow : OpenClaim := { program := "ytddmommamcgelaa", sum := "adbb6d8d07523e7ee8604aeba5e19c9d04f45e925167255b9adf91da3f702ab7", func := "loop.example/g01125/laws.FnExactArrowBoard", spec := "fnExactArrowBoard", unfollowed := true, recurses := true, apart := false, narrowed := true }
def FnExactArrowBoardUptoSaid : Prop := fnExactArrowBoardUptoRow.holds Try.pinned (OpenSpec.upto fnExactArrowBoardSpec)

/-- 'laws.FnExactStirlingSecond', WHERE WHAT IT READS IS OF BULK AT MOST 1048576: true; the input reads as it did. -/
def fnExactStirlingSecondUptoRow : OpenClaim := { program := "ytddmommamcgelaa", sum := "adbb6d8d07523e7ee8604aeba5e19c9d04f45e925167255b9adf91da3f702ab7", func := "loop.example/g01125/laws.FnExactStirlingSecond", spec := "fnExactStirlingSecond", unfollowed := true, recurses := true, apart := false, narrowed := true }
def FnExactStirlingSecondUptoSaid : Prop := fnExactStirlingSecondUptoRow.holds Try.pinned (OpenSpec.upto fnExactStirlingSecondSpec)

/-- 'laws.FnExactStirlingFirst', WHERE WHAT IT READS IS OF BULK AT MOST 1048576: true; the input reads as it did. -/
def fnExactStirlingFirstUptoRow : OpenClaim := { program := "ytddmommamcgelaa", sum := "adbb6d8d07523e7ee8604aeba5e19c9d04f45e925167255b9adf91da3f702ab7", func := "loop.example/g01125/laws.FnExactStirlingFirst", spec := "fnExactStirlingFirst", apart := false, narrowed := true }
def FnExactStirlingFirstUptoSaid : Prop := fnExactStirlingFirstUptoRow.holds Try.pinned (OpenSpec.upto fnExactStirlingFirstSpec)

/-- 'laws.FnExactLahNumber', WHERE WHAT IT READS IS OF BULK AT MOST 1048576: true; the input reads as it did. -/
def fnExactLahNumberUptoRow : OpenClaim := { program := "ytddmommamcgelaa", sum := "adbb6d8d07523e7ee8604aeba5e19c9d04f45e925167255b9adf91da3f702ab7", func := "loop.example/g01125/laws.FnExactLahNumber", spec := "fnExactLahNumber", unfollowed := true, recurses := true, apart := false, narrowed := true }
def FnExactLahNumberUptoSaid : Prop := fnExactLahNumberUptoRow.holds Try.pinned (OpenSpec.upto fnExactLahNumberSpec)

/-- 'laws.FnExactCountPartitions', WHERE WHAT IT READS IS OF BULK AT MOST 1048576: true; the input reads as it did. -/
def fnExactCountPartitionsUptoRow : OpenClaim := { program := "ytddmommamcgelaa", sum := "adbb6d8d07523e7ee8604aeba5e19c9d04f45e925167255b9adf91da3f702ab7", func := "loop.example/g01125/laws.FnExactCountPartitions", spec := "fnExactCountPartitions", unfollowed := true, recurses := true, apart := false, narrowed := true }
def FnExactCountPartitionsUptoSaid : Prop := fnExactCountPartitionsUptoRow.holds Try.pinned (OpenSpec.upto fnExactCountPartitionsSpec)

/-- 'laws.FnExactIsFilePlacement', WHERE WHAT IT READS IS OF BULK AT MOST 1048576: true; the input reads as it did. -/
def fnExactIsFilePlacementUptoRow : OpenClaim := { program := "ytddmommamcgelaa", sum := "adbb6d8d07523e7ee8604aeba5e19c9d04f45e925167255b9adf91da3f702ab7", func := "loop.example/g01125/laws.FnExactIsFilePlacement", spec := "fnExactIsFilePlacement", apart := false, narrowed := true }
def FnExactIsFilePlacementUptoSaid : Prop := fnExactIsFilePlacementUptoRow.holds Try.pinned (OpenSpec.upto fnExactIsFilePlacementSpec)

/-- 'laws.FnExactFileNumbers', WHERE WHAT IT READS IS OF BULK AT MOST 1048576: true; the input reads as it did. -/
def fnExactFileNumbersUptoRow : OpenClaim := { program := "ytddmommamcgelaa", sum := "adbb6d8d07523e7ee8604aeba5e19c9d04f45e925167255b9adf91da3f702ab7", func := "loop.example/g01125/laws.FnExactFileNumbers", spec := "fnExactFileNumbers", unfollowed := true, recurses := true, apart := false, narrowed := true }
def FnExactFileNumbersUptoSaid : Prop := fnExactFileNumbersUptoRow.holds Try.pinned (OpenSpec.upto fnExactFileNumbersSpec)

/-- 'laws.FnExactFileValue', WHERE WHAT IT READS IS OF BULK AT MOST 1048576: true; the input reads as it did. -/
def fnExactFileValueUptoRow : OpenClaim := { program := "ytddmommamcgelaa", sum := "adbb6d8d07523e7ee8604aeba5e19c9d04f45e925167255b9adf91da3f702ab7", func := "loop.example/g01125/laws.FnExactFileValue", spec := "fnExactFileValue", unfollowed := true, recurses := true, apart := false, narrowed := true }
def FnExactFileValueUptoSaid : Prop := fnExactFileValueUptoRow.holds Try.pinned (OpenSpec.upto fnExactFileValueSpec)

end Rows
end Go.Proofs.Ytddmommamcgelaa
