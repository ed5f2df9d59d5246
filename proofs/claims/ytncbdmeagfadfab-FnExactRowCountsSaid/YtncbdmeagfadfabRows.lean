/-
  No cell of these rows narrows 'for every input' (looked for: loops, veiled, ifaces, maps, wideKeys, modest, calm, conditions, laid).
  DERIVED. THE GIVEN ROWS OF THIS SEAT. 7 by the template 'for every input the law returns true; each argument reads behind the call as it read before'; 0 by the template 'total and deterministic' (their statements: YtncbdmeagfadfabTotals.lean).
  GIVEN WITH THE SEED: the statements are not yours to turn. If you find one false, say at which input.
  Laid BY PROGRAM, IN A SANDBOX (cutbox-rows.mjs): the forced cells as the released guide's own fill.sh prints them over the translation 4e38b95e6b8dda61… (all of the seat's roots in one cut). By AI agents, Wed Nov 11 2026. No macro, syntax, notation, axiom, sorry.
-/
import Derived.Test.YtncbdmeagfadfabChecked
import GoSem.Claim
import GoSem.ClaimJoined
import GoSem.ClaimMapViews
import Derived.JoinedTies
import Derived.KernelRfl
namespace Go.Proofs.Ytncbdmeagfadfab
/- THE CELL 'sum', in the pinned program and in every row, IS THE sha256 OF THE DUMP (.gsa) THAT YtncbdmeagfadfabProg.lean LOADS. Nothing in Lean hashes anything: it is a label: what it is worth is what the hold of that sum in a sandbox is worth. -/
noncomputable def Try.pinned : Pinned := { name := "ytncbdmeagfadfab", sum := "4e38b95e6b8dda6186fd3d1496b417c387b5a14479a168b442c84d2a1e158ab2", checked := Try.checked }
namespace Rows
def none {H : Type} : Left H := { results := [], args := [] }

/-- 'laws.FnExactUnionOf': WHATEVER THE INPUT: true; the input reads as it did. -/
def fnExactUnionOfSpec : ChangeSpec := { name := "fnExactUnionOf", fn := fun _ => fun
  | [d1, d2] => { results := [.lit (.bool true)], args := [d1, d2] }
  | _ => none }
def fnExactUnionOfRow : OpenClaim := { program := "ytncbdmeagfadfab", sum := "4e38b95e6b8dda6186fd3d1496b417c387b5a14479a168b442c84d2a1e158ab2", func := "loop.example/g01125/laws.FnExactUnionOf", spec := "fnExactUnionOf", apart := false }
def FnExactUnionOfSaid : Prop := fnExactUnionOfRow.holds Try.pinned (OpenSpec.ofChange fnExactUnionOfSpec)

/-- ITS FALSE NEIGHBOUR: 'it returns false'. Refute it at one input. -/
def fnExactUnionOfWrong : ChangeSpec := { name := "fnExactUnionOf", fn := fun _ => fun
  | [d1, d2] => { results := [.lit (.bool false)], args := [d1, d2] }
  | _ => none }
def FnExactUnionOfWrongFalsely : Prop := fnExactUnionOfRow.holds Try.pinned (OpenSpec.ofChange fnExactUnionOfWrong)

/-- 'laws.FnExactMeetOf': WHATEVER THE INPUT: true; the input reads as it did. -/
def fnExactMeetOfSpec : ChangeSpec := { name := "fnExactMeetOf", fn := fun _ => fun
  | [d1, d2] => { results := [.lit (.bool true)], args := [d1, d2] }
  | _ => none }
def fnExactMeetOfRow : OpenClaim := { program := "ytncbdmeagfadfab", sum := "4e38b95e6b8dda6186fd3d1496b417c387b5a14479a168b442c84d2a1e158ab2", func := "loop.example/g01125/laws.FnExactMeetOf", spec := "fnExactMeetOf", apart := false }
def FnExactMeetOfSaid : Prop := fnExactMeetOfRow.holds Try.pinned (OpenSpec.ofChange fnExactMeetOfSpec)

/-- ITS FALSE NEIGHBOUR: 'it returns false'. Refute it at one input. -/
def fnExactMeetOfWrong : ChangeSpec := { name := "fnExactMeetOf", fn := fun _ => fun
  | [d1, d2] => { results := [.lit (.bool false)], args := [d1, d2] }
  | _ => none }
def FnExactMeetOfWrongFalsely : Prop := fnExactMeetOfRow.holds Try.pinned (OpenSpec.ofChange fnExactMeetOfWrong)

/-- 'laws.FnExactIsPartOf': WHATEVER THE INPUT: true; the input reads as it did. -/
def fnExactIsPartOfSpec : ChangeSpec := { name := "fnExactIsPartOf", fn := fun _ => fun
  | [d1, d2] => { results := [.lit (.bool true)], args := [d1, d2] }
  | _ => none }
def fnExactIsPartOfRow : OpenClaim := { program := "ytncbdmeagfadfab", sum := "4e38b95e6b8dda6186fd3d1496b417c387b5a14479a168b442c84d2a1e158ab2", func := "loop.example/g01125/laws.FnExactIsPartOf", spec := "fnExactIsPartOf", apart := false }
def FnExactIsPartOfSaid : Prop := fnExactIsPartOfRow.holds Try.pinned (OpenSpec.ofChange fnExactIsPartOfSpec)

/-- ITS FALSE NEIGHBOUR: 'it returns false'. Refute it at one input. -/
def fnExactIsPartOfWrong : ChangeSpec := { name := "fnExactIsPartOf", fn := fun _ => fun
  | [d1, d2] => { results := [.lit (.bool false)], args := [d1, d2] }
  | _ => none }
def FnExactIsPartOfWrongFalsely : Prop := fnExactIsPartOfRow.holds Try.pinned (OpenSpec.ofChange fnExactIsPartOfWrong)

/-- 'laws.FnExactStackBoards': WHATEVER THE INPUT: true; the input reads as it did. -/
def fnExactStackBoardsSpec : ChangeSpec := { name := "fnExactStackBoards", fn := fun _ => fun
  | [d1, d2] => { results := [.lit (.bool true)], args := [d1, d2] }
  | _ => none }
def fnExactStackBoardsRow : OpenClaim := { program := "ytncbdmeagfadfab", sum := "4e38b95e6b8dda6186fd3d1496b417c387b5a14479a168b442c84d2a1e158ab2", func := "loop.example/g01125/laws.FnExactStackBoards", spec := "fnExactStackBoards", apart := false }
def FnExactStackBoardsSaid : Prop := fnExactStackBoardsRow.holds Try.pinned (OpenSpec.ofChange fnExactStackBoardsSpec)

/-- ITS FALSE NEIGHBOUR: 'it returns false'. Refute it at one input. -/
def fnExactStackBoardsWrong : ChangeSpec := { name := "fnExactStackBoards", fn := fun _ => fun
  | [d1, d2] => { results := [.lit (.bool false)], args := [d1, d2] }
  | _ => none }
def FnExactStackBoardsWrongFalsely : Prop := fnExactStackBoardsRow.holds Try.pinned (OpenSpec.ofChange fnExactStackBoardsWrong)

/-- 'laws.FnExactRowCounts': WHATEVER THE INPUT: true; the input reads as it did. -/
def fnExactRowCountsSpec : ChangeSpec := { name := "fnExactRowCounts", fn := fun _ => fun
  | [d] => { results := [.lit (.bool true)], args := [d] }
  | _ => none }
def fnExactRowCountsRow : OpenClaim := { program := "ytncbdmeagfadfab", sum := "4e38b95e6b8dda6186fd3d1496b417c387b5a14479a168b442c84d2a1e158ab2", func := "loop.example/g01125/laws.FnExactRowCounts", spec := "fnExactRowCounts", apart := false }
def FnExactRowCountsSaid : Prop := fnExactRowCountsRow.holds Try.pinned (OpenSpec.ofChange fnExactRowCountsSpec)

/-- ITS FALSE NEIGHBOUR: 'it returns false'. Refute it at one input. -/
def fnExactRowCountsWrong : ChangeSpec := { name := "fnExactRowCounts", fn := fun _ => fun
  | [d] => { results := [.lit (.bool false)], args := [d] }
  | _ => none }
def FnExactRowCountsWrongFalsely : Prop := fnExactRowCountsRow.holds Try.pinned (OpenSpec.ofChange fnExactRowCountsWrong)

/-- 'laws.FnExactBoardText': WHATEVER THE INPUT: true; the input reads as it did. -/
def fnExactBoardTextSpec : ChangeSpec := { name := "fnExactBoardText", fn := fun _ => fun
  | [d] => { results := [.lit (.bool true)], args := [d] }
  | _ => none }
def fnExactBoardTextRow : OpenClaim := { program := "ytncbdmeagfadfab", sum := "4e38b95e6b8dda6186fd3d1496b417c387b5a14479a168b442c84d2a1e158ab2", func := "loop.example/g01125/laws.FnExactBoardText", spec := "fnExactBoardText", recurses := true, apart := false }
def FnExactBoardTextSaid : Prop := fnExactBoardTextRow.holds Try.pinned (OpenSpec.ofChange fnExactBoardTextSpec)

/-- ITS FALSE NEIGHBOUR: 'it returns false'. Refute it at one input. -/
def fnExactBoardTextWrong : ChangeSpec := { name := "fnExactBoardText", fn := fun _ => fun
  | [d] => { results := [.lit (.bool false)], args := [d] }
  | _ => none }
def FnExactBoardTextWrongFalsely : Prop := fnExactBoardTextRow.holds Try.pinned (OpenSpec.ofChange fnExactBoardTextWrong)

/-- 'laws.FnBoardsJoined': WHATEVER THE INPUT: true; the input reads as it did. -/
def fnBoardsJoinedSpec : ChangeSpec := { name := "fnBoardsJoined", fn := fun _ => fun
  | [d1, d2] => { results := [.lit (.bool true)], args := [d1, d2] }
  | _ => none }
def fnBoardsJoinedRow : OpenClaim := { program := "ytncbdmeagfadfab", sum := "4e38b95e6b8dda6186fd3d1496b417c387b5a14479a168b442c84d2a1e158ab2", func := "loop.example/g01125/laws.FnBoardsJoined", spec := "fnBoardsJoined", unfollowed := true, recurses := true, apart := false }
def FnBoardsJoinedSaid : Prop := fnBoardsJoinedRow.holds Try.pinned (OpenSpec.ofChange fnBoardsJoinedSpec)

/-- ITS FALSE NEIGHBOUR: 'it returns false'. Refute it at one input. -/
def fnBoardsJoinedWrong : ChangeSpec := { name := "fnBoardsJoined", fn := fun _ => fun
  | [d1, d2] => { results := [.lit (.bool false)], args := [d1, d2] }
  | _ => none }
def FnBoardsJoinedWrongFalsely : Prop := fnBoardsJoinedRow.holds Try.pinned (OpenSpec.ofChange fnBoardsJoinedWrong)

/- THE SECOND FORM. 'bulk': how many values and letters a reading holds, each counted each time it is reached (what is shared counts as often as it is met; a slice's spare places count too). A statement '..UptoSaid' is the law's where the arguments, and the package variables that the reading takes, are together of bulk at most 1048576: NARROWER than '..Said'. Prove '..Said' where nothing that the law and all that it calls make is longer than what came in: it says more and counts as full. Else prove '..UptoSaid'. A law counts once. -/
mutual
def uptoBulk {H : Type} : DataW H → Nat
  | .lit (.string bytes) => bytes.length + 1
  | .lit _ => 1
  | .nil => 1
  | .ptr d => uptoBulk d + 1
  | .slice elems spare => uptoBulkAll elems + uptoBulkAll spare + 1
  | .agg parts => uptoBulkAll parts + 1
  | .iface _ d => uptoBulk d + 1
  | .map entries => uptoBulkEntries entries + 1
  | .held _ => 1
def uptoBulkAll {H : Type} : List (DataW H) → Nat
  | [] => 0
  | d :: r => uptoBulk d + uptoBulkAll r
def uptoBulkEntries {H : Type} : List (Lit × DataW H) → Nat
  | [] => 0
  | x :: r => uptoBulkEntry x + uptoBulkEntries r
def uptoBulkEntry {H : Type} : Lit × DataW H → Nat
  | (.string bytes, d) => bytes.length + uptoBulk d + 1
  | (_, d) => uptoBulk d + 1
 end
def uptoSmall : (H : Type) → List (DataW H) → Bool := fun _ ds => decide (uptoBulkAll ds ≤ 1048576)
def OpenSpec.upto (s : _root_.Go.ChangeSpec) : _root_.Go.OpenSpec := { _root_.Go.OpenSpec.ofChange s with cond := some uptoSmall }

/-- 'laws.FnExactUnionOf', WHERE WHAT IT READS IS OF BULK AT MOST 1048576: true; the input reads as it did. -/
def fnExactUnionOfUptoRow : OpenClaim := { program := "ytncbdmeagfadfab", sum := "4e38b95e6b8dda6186fd3d1496b417c387b5a14479a168b442c84d2a1e158ab2", func := "loop.example/g01125/laws.FnExactUnionOf", spec := "fnExactUnionOf", apart := false, narrowed := true }
def FnExactUnionOfUptoSaid : Prop := fnExactUnionOfUptoRow.holds Try.pinned (OpenSpec.upto fnExactUnionOfSpec)

/-- 'laws.FnExactMeetOf', WHERE WHAT IT READS IS OF BULK AT MOST 1048576: true; the input reads as it did. -/
def fnExactMeetOfUptoRow : OpenClaim := { program := "ytncbdmeagfadfab", sum := "4e38b95e6b8dda6186fd3d1496b417c387b5a14479a168b442c84d2a1e158ab2", func := "loop.example/g01125/laws.FnExactMeetOf", spec := "fnExactMeetOf", apart := false, narrowed := true }
def FnExactMeetOfUptoSaid : Prop := fnExactMeetOfUptoRow.holds Try.pinned (OpenSpec.upto fnExactMeetOfSpec)

/-- 'laws.FnExactIsPartOf', WHERE WHAT IT READS IS OF BULK AT MOST 1048576: true; the input reads as it did. -/
def fnExactIsPartOfUptoRow : OpenClaim := { program := "ytncbdmeagfadfab", sum := "4e38b95e6b8dda6186fd3d1496b417c387b5a14479a168b442c84d2a1e158ab2", func := "loop.example/g01125/laws.FnExactIsPartOf", spec := "fnExactIsPartOf", apart := false, narrowed := true }
def FnExactIsPartOfUptoSaid : Prop := fnExactIsPartOfUptoRow.holds Try.pinned (OpenSpec.upto fnExactIsPartOfSpec)

/-- 'laws.FnExactStackBoards', WHERE WHAT IT READS IS OF BULK AT MOST 1048576: true; the input reads as it did. -/
def fnExactStackBoardsUptoRow : OpenClaim := { program := "ytncbdmeagfadfab", sum := "4e38b95e6b8dda6186fd3d1496b417c387b5a14479a168b442c84d2a1e158ab2", func := "loop.example/g01125/laws.FnExactStackBoards", spec := "fnExactStackBoards", apart := false, narrowed := true }
def FnExactStackBoardsUptoSaid : Prop := fnExactStackBoardsUptoRow.holds Try.pinned (OpenSpec.upto fnExactStackBoardsSpec)

/-- 'laws.FnExactRowCounts', WHERE WHAT IT READS IS OF BULK AT MOST 1048576: true; the input reads as it did. -/
def fnExactRowCountsUptoRow : OpenClaim := { program := "ytncbdmeagfadfab", sum := "4e38b95e6b8dda6186fd3d1496b417c387b5a14479a168b442c84d2a1e158ab2", func := "loop.example/g01125/laws.FnExactRowCounts", spec := "fnExactRowCounts", apart := false, narrowed := true }
def FnExactRowCountsUptoSaid : Prop := fnExactRowCountsUptoRow.holds Try.pinned (OpenSpec.upto fnExactRowCountsSpec)

/-- 'laws.FnExactBoardText', WHERE WHAT IT READS IS OF BULK AT MOST 1048576: true; the input reads as it did. -/
def fnExactBoardTextUptoRow : OpenClaim := { program := "ytncbdmeagfadfab", sum := "4e38b95e6b8dda6186fd3d1496b417c387b5a14479a168b442c84d2a1e158ab2", func := "loop.example/g01125/laws.FnExactBoardText", spec := "fnExactBoardText", recurses := true, apart := false, narrowed := true }
def FnExactBoardTextUptoSaid : Prop := fnExactBoardTextUptoRow.holds Try.pinned (OpenSpec.upto fnExactBoardTextSpec)

/-- 'laws.FnBoardsJoined', WHERE WHAT IT READS IS OF BULK AT MOST 1048576: true; the input reads as it did. -/
def fnBoardsJoinedUptoRow : OpenClaim := { program := "ytncbdmeagfadfab", sum := "4e38b95e6b8dda6186fd3d1496b417c387b5a14479a168b442c84d2a1e158ab2", func := "loop.example/g01125/laws.FnBoardsJoined", spec := "fnBoardsJoined", unfollowed := true, recurses := true, apart := false, narrowed := true }
def FnBoardsJoinedUptoSaid : Prop := fnBoardsJoinedUptoRow.holds Try.pinned (OpenSpec.upto fnBoardsJoinedSpec)

end Rows
end Go.Proofs.Ytncbdmeagfadfab
