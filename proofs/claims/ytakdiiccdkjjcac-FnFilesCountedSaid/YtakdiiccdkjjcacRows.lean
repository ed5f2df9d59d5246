/-
  No cell of these rows narrows 'for every input' (looked for: loops, veiled, ifaces, maps, wideKeys, modest, calm, conditions, laid).
  DERIVED. THE GIVEN ROWS OF THIS SEAT. 5 by the template 'for every input the law returns true; each argument reads behind the call as it read before'; 0 by the template 'total and deterministic' (their statements: YtakdiiccdkjjcacTotals.lean).
  GIVEN WITH THE SEED: the statements are not yours to turn. If you find one false, say at which input.
  Laid BY PROGRAM, IN A SANDBOX (cutbox-rows.mjs): the forced cells as the released guide's own fill.sh prints them over the translation 2f7c516896d7d71b… (all of the seat's roots in one cut). By AI agents, Wed Nov 11 2026. No macro, syntax, notation, axiom, sorry.
-/
import Derived.Test.YtakdiiccdkjjcacChecked
import GoSem.Claim
import GoSem.ClaimJoined
import GoSem.ClaimMapViews
import Derived.JoinedTies
import Derived.KernelRfl
namespace Go.Proofs.Ytakdiiccdkjjcac
/- THE CELL 'sum', in the pinned program and in every row, IS THE sha256 OF THE DUMP (.gsa) THAT YtakdiiccdkjjcacProg.lean LOADS. Nothing in Lean hashes anything: it is a label: what it is worth is what the hold of that sum in a sandbox is worth. -/
noncomputable def Try.pinned : Pinned := { name := "ytakdiiccdkjjcac", sum := "2f7c516896d7d71bd8cf488d492b765c942c98841cf518aee98209715ba03a69", checked := Try.checked }
namespace Rows
def none {H : Type} : Left H := { results := [], args := [] }

/-- 'laws.FnExactFileNumbers': WHATEVER THE INPUT: true; the input reads as it did. -/
def fnExactFileNumbersSpec : ChangeSpec := { name := "fnExactFileNumbers", fn := fun _ => fun
  | [d] => { results := [.lit (.bool true)], args := [d] }
  | _ => none }
def fnExactFileNumbersRow : OpenClaim := { program := "ytakdiiccdkjjcac", sum := "2f7c516896d7d71bd8cf488d492b765c942c98841cf518aee98209715ba03a69", func := "loop.example/g01125/laws.FnExactFileNumbers", spec := "fnExactFileNumbers", unfollowed := true, recurses := true, apart := false }
def FnExactFileNumbersSaid : Prop := fnExactFileNumbersRow.holds Try.pinned (OpenSpec.ofChange fnExactFileNumbersSpec)

/-- ITS FALSE NEIGHBOUR: 'it returns false'. Refute it at one input. -/
def fnExactFileNumbersWrong : ChangeSpec := { name := "fnExactFileNumbers", fn := fun _ => fun
  | [d] => { results := [.lit (.bool false)], args := [d] }
  | _ => none }
def FnExactFileNumbersWrongFalsely : Prop := fnExactFileNumbersRow.holds Try.pinned (OpenSpec.ofChange fnExactFileNumbersWrong)

/-- 'laws.FnExactFileValue': WHATEVER THE INPUT: true; the input reads as it did. -/
def fnExactFileValueSpec : ChangeSpec := { name := "fnExactFileValue", fn := fun _ => fun
  | [d1, d2] => { results := [.lit (.bool true)], args := [d1, d2] }
  | _ => none }
def fnExactFileValueRow : OpenClaim := { program := "ytakdiiccdkjjcac", sum := "2f7c516896d7d71bd8cf488d492b765c942c98841cf518aee98209715ba03a69", func := "loop.example/g01125/laws.FnExactFileValue", spec := "fnExactFileValue", unfollowed := true, recurses := true, apart := false }
def FnExactFileValueSaid : Prop := fnExactFileValueRow.holds Try.pinned (OpenSpec.ofChange fnExactFileValueSpec)

/-- ITS FALSE NEIGHBOUR: 'it returns false'. Refute it at one input. -/
def fnExactFileValueWrong : ChangeSpec := { name := "fnExactFileValue", fn := fun _ => fun
  | [d1, d2] => { results := [.lit (.bool false)], args := [d1, d2] }
  | _ => none }
def FnExactFileValueWrongFalsely : Prop := fnExactFileValueRow.holds Try.pinned (OpenSpec.ofChange fnExactFileValueWrong)

/-- 'laws.FnFilesCounted': WHATEVER THE INPUT: true; the input reads as it did. -/
def fnFilesCountedSpec : ChangeSpec := { name := "fnFilesCounted", fn := fun _ => fun
  | [d1, d2] => { results := [.lit (.bool true)], args := [d1, d2] }
  | _ => none }
def fnFilesCountedRow : OpenClaim := { program := "ytakdiiccdkjjcac", sum := "2f7c516896d7d71bd8cf488d492b765c942c98841cf518aee98209715ba03a69", func := "loop.example/g01125/laws.FnFilesCounted", spec := "fnFilesCounted", unfollowed := true, recurses := true, apart := false }
def FnFilesCountedSaid : Prop := fnFilesCountedRow.holds Try.pinned (OpenSpec.ofChange fnFilesCountedSpec)

/-- ITS FALSE NEIGHBOUR: 'it returns false'. Refute it at one input. -/
def fnFilesCountedWrong : ChangeSpec := { name := "fnFilesCounted", fn := fun _ => fun
  | [d1, d2] => { results := [.lit (.bool false)], args := [d1, d2] }
  | _ => none }
def FnFilesCountedWrongFalsely : Prop := fnFilesCountedRow.holds Try.pinned (OpenSpec.ofChange fnFilesCountedWrong)

/-- 'laws.FnPiecesQuiet': WHATEVER THE INPUT: true; the input reads as it did. -/
def fnPiecesQuietSpec : ChangeSpec := { name := "fnPiecesQuiet", fn := fun _ => fun
  | [d1, d2] => { results := [.lit (.bool true)], args := [d1, d2] }
  | _ => none }
def fnPiecesQuietRow : OpenClaim := { program := "ytakdiiccdkjjcac", sum := "2f7c516896d7d71bd8cf488d492b765c942c98841cf518aee98209715ba03a69", func := "loop.example/g01125/laws.FnPiecesQuiet", spec := "fnPiecesQuiet", unfollowed := true, recurses := true, apart := false }
def FnPiecesQuietSaid : Prop := fnPiecesQuietRow.holds Try.pinned (OpenSpec.ofChange fnPiecesQuietSpec)

/-- ITS FALSE NEIGHBOUR: 'it returns false'. Refute it at one input. -/
def fnPiecesQuietWrong : ChangeSpec := { name := "fnPiecesQuiet", fn := fun _ => fun
  | [d1, d2] => { results := [.lit (.bool false)], args := [d1, d2] }
  | _ => none }
def FnPiecesQuietWrongFalsely : Prop := fnPiecesQuietRow.holds Try.pinned (OpenSpec.ofChange fnPiecesQuietWrong)

/-- 'laws.FnKingsCounted': WHATEVER THE INPUT: true; the input reads as it did. -/
def fnKingsCountedSpec : ChangeSpec := { name := "fnKingsCounted", fn := fun _ => fun
  | [d1, d2] => { results := [.lit (.bool true)], args := [d1, d2] }
  | _ => none }
def fnKingsCountedRow : OpenClaim := { program := "ytakdiiccdkjjcac", sum := "2f7c516896d7d71bd8cf488d492b765c942c98841cf518aee98209715ba03a69", func := "loop.example/g01125/laws.FnKingsCounted", spec := "fnKingsCounted", unfollowed := true, recurses := true, apart := false }
def FnKingsCountedSaid : Prop := fnKingsCountedRow.holds Try.pinned (OpenSpec.ofChange fnKingsCountedSpec)

/-- ITS FALSE NEIGHBOUR: 'it returns false'. Refute it at one input. -/
def fnKingsCountedWrong : ChangeSpec := { name := "fnKingsCounted", fn := fun _ => fun
  | [d1, d2] => { results := [.lit (.bool false)], args := [d1, d2] }
  | _ => none }
def FnKingsCountedWrongFalsely : Prop := fnKingsCountedRow.holds Try.pinned (OpenSpec.ofChange fnKingsCountedWrong)

/- THE SECOND FORM. 'bulk': how many values and letters a reading holds, each counted each time it is reached (what is shared counts as often as it is met; a slice's spare places count too). A statement '..UptoSaid' is the law's where the arguments, and the package variables that the reading takes, are together of bulk at most 1048576: NARROWER than '..Said'. Prove '..Said' where nothing that the law and all that it calls make is longer than what came in: it says more and counts as full. Else prove '..UptoSaid'. A law counts once. -/
mutual
def uptoBulk {H : Type} : DataW H → Nat
  | .lit (.string bytes) => bytes.length + 1
  | .lit _ => 1
  | .nil => 1
  | .ptr d => uptoBulk d + 1
  | .slice elems spare => uptoBulkAll elems + uptoBulkAll spare + 1
  | .agg parts => uptoBulkAll parts + 1
  | .iface _ d => uptoBulk d + 1
  | .map entries => uptoBulkEntries entries + 1
  | .held _ => 1
def uptoBulkAll {H : Type} : List (DataW H) → Nat
  | [] => 0
  | d :: r => uptoBulk d + uptoBulkAll r
def uptoBulkEntries {H : Type} : List (Lit × DataW H) → Nat
  | [] => 0
  | x :: r => uptoBulkEntry x + uptoBulkEntries r
def uptoBulkEntry {H : Type} : Lit × DataW H → Nat
  | (.string bytes, d) => bytes.length + uptoBulk d + 1
  | (_, d) => uptoBulk d + 1
 end
def uptoSmall : (H : Type) → List (DataW H) → Bool := fun _ ds => decide (uptoBulkAll ds ≤ 1048576)
def OpenSpec.upto (s : _root_.Go.ChangeSpec) : _root_.Go.OpenSpec := { _root_.Go.OpenSpec.ofChange s with cond := some uptoSmall }

/-- 'laws.FnExactFileNumbers', WHERE WHAT IT READS IS OF BULK AT MOST 1048576: true; the input reads as it did. -/
def fnExactFileNumbersUptoRow : OpenClaim := { program := "ytakdiiccdkjjcac", sum := "2f7c516896d7d71bd8cf488d492b765c942c98841cf518aee98209715ba03a69", func := "loop.example/g01125/laws.FnExactFileNumbers", spec := "fnExactFileNumbers", unfollowed := true, recurses := true, apart := false, narrowed := true }
def FnExactFileNumbersUptoSaid : Prop := fnExactFileNumbersUptoRow.holds Try.pinned (OpenSpec.upto fnExactFileNumbersSpec)

/-- 'laws.FnExactFileValue', WHERE WHAT IT READS IS OF BULK AT MOST 1048576: true; the input reads as it did. -/
def fnExactFileValueUptoRow : OpenClaim := { program := "ytakdiiccdkjjcac", sum := "2f7c516896d7d71bd8cf488d492b765c942c98841cf518aee98209715ba03a69", func := "loop.example/g01125/laws.FnExactFileValue", spec := "fnExactFileValue", unfollowed := true, recurses := true, apart := false, narrowed := true }
def FnExactFileValueUptoSaid : Prop := fnExactFileValueUptoRow.holds Try.pinned (OpenSpec.upto fnExactFileValueSpec)

/-- 'laws.FnFilesCounted', WHERE WHAT IT READS IS OF BULK AT MOST 1048576: true; the input reads as it did. -/
def fnFilesCountedUptoRow : OpenClaim := { program := "ytakdiiccdkjjcac", sum := "2f7c516896d7d71bd8cf488d492b765c942c98841cf518aee98209715ba03a69", func := "loop.example/g01125/laws.FnFilesCounted", spec := "fnFilesCounted", unfollowed := true, recurses := true, apart := false, narrowed := true }
def FnFilesCountedUptoSaid : Prop := fnFilesCountedUptoRow.holds Try.pinned (OpenSpec.upto fnFilesCountedSpec)

/-- 'laws.FnPiecesQuiet', WHERE WHAT IT READS IS OF BULK AT MOST 1048576: true; the input reads as it did. -/
def fnPiecesQuietUptoRow : OpenClaim := { program := "ytakdiiccdkjjcac", sum := "2f7c516896d7d71bd8cf488d492b765c942c98841cf518aee98209715ba03a69", func := "loop.example/g01125/laws.FnPiecesQuiet", spec := "fnPiecesQuiet", unfollowed := true, recurses := true, apart := false, narrowed := true }
def FnPiecesQuietUptoSaid : Prop := fnPiecesQuietUptoRow.holds Try.pinned (OpenSpec.upto fnPiecesQuietSpec)

/-- 'laws.FnKingsCounted', WHERE WHAT IT READS IS OF BULK AT MOST 1048576: true; the input reads as it did. -/
def fnKingsCountedUptoRow : OpenClaim := { program := "ytakdiiccdkjjcac", sum := "2f7c516896d7d71bd8cf488d492b765c942c98841cf518aee98209715ba03a69", func := "loop.example/g01125/laws.FnKingsCounted", spec := "fnKingsCounted", unfollowed := true, recurses := true, apart := false, narrowed := true }
def FnKingsCountedUptoSaid : Prop := fnKingsCountedUptoRow.holds Try.pinned (OpenSpec.upto fnKingsCountedSpec)

end Rows
end Go.Proofs.Ytakdiiccdkjjcac
