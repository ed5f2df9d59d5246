/-
  No cell of these rows narrows 'for every input' (looked for: loops, veiled, ifaces, maps, wideKeys, modest, calm, conditions, laid).
  DERIVED. THE GIVEN ROWS OF THIS SEAT. 10 by the template 'for every input the law returns true; each argument reads behind the call as it read before'; 0 by the template 'total and deterministic' (their statements: YtlkmbnekaeabaabTotals.lean).
  GIVEN WITH THE SEED: the statements are not yours to turn. If you find one false, say at which input.
  Laid BY PROGRAM, IN A SANDBOX (cutbox-rows.mjs): the forced cells as the released guide's own fill.sh prints them over the translation 0edda59c92440147… (all of the seat's roots in one cut). By AI agents, Wed Nov 11 2026. No macro, syntax, notation, axiom, sorry.
-/
import Derived.Test.YtlkmbnekaeabaabChecked
import GoSem.Claim
import GoSem.ClaimJoined
import GoSem.ClaimMapViews
import Derived.JoinedTies
import Derived.KernelRfl
namespace Go.Proofs.Ytlkmbnekaeabaab
/- THE CELL 'sum', in the pinned program and in every row, IS THE sha256 OF THE DUMP (.gsa) THAT YtlkmbnekaeabaabProg.lean LOADS. Nothing in Lean hashes anything: it is a label: what it is worth is what the hold of that sum in a sandbox is worth. -/
noncomputable def Try.pinned : Pinned := { name := "ytlkmbnekaeabaab", sum := "0edda59c924401478fa4cffeb1dc2a6a248e4956cc0e8f709f05e7a6ed85e0c5", checked := Try.checked }
namespace Rows
def none {H : Type} : Left H := { results := [], args := [] }

/-- 'laws.FnExactNumbersOfComplement': WHATEVER THE INPUT: true; the input reads as it did. -/
def fnExactNumbersOfComplementSpec : ChangeSpec := { name := "fnExactNumbersOfComplement", fn := fun _ => fun
  | [d] => { results := [.lit (.bool true)], args := [d] }
  | _ => none }
def fnExactNumbersOfComplementRow : OpenClaim := { program := "ytlkmbnekaeabaab", sum := "0edda59c924401478fa4cffeb1dc2a6a248e4956cc0e8f709f05e7a6ed85e0c5", func := "loop.example/g01125/laws.FnExactNumbersOfComplement", spec := "fnExactNumbersOfComplement", unfollowed := true, recurses := true, apart := false }
def FnExactNumbersOfComplementSaid : Prop := fnExactNumbersOfComplementRow.holds Try.pinned (OpenSpec.ofChange fnExactNumbersOfComplementSpec)

/-- ITS FALSE NEIGHBOUR: 'it returns false'. Refute it at one input. -/
def fnExactNumbersOfComplementWrong : ChangeSpec := { name := "fnExactNumbersOfComplement", fn := fun _ => fun
  | [d] => { results := [.lit (.bool false)], args := [d] }
  | _ => none }
def FnExactNumbersOfComplementWrongFalsely : Prop := fnExactNumbersOfComplementRow.holds Try.pinned (OpenSpec.ofChange fnExactNumbersOfComplementWrong)

/-- 'laws.FnExactAreAlike': WHATEVER THE INPUT: true; the input reads as it did. -/
def fnExactAreAlikeSpec : ChangeSpec := { name := "fnExactAreAlike", fn := fun _ => fun
  | [d1, d2] => { results := [.lit (.bool true)], args := [d1, d2] }
  | _ => none }
def fnExactAreAlikeRow : OpenClaim := { program := "ytlkmbnekaeabaab", sum := "0edda59c924401478fa4cffeb1dc2a6a248e4956cc0e8f709f05e7a6ed85e0c5", func := "loop.example/g01125/laws.FnExactAreAlike", spec := "fnExactAreAlike", recurses := true, apart := false }
def FnExactAreAlikeSaid : Prop := fnExactAreAlikeRow.holds Try.pinned (OpenSpec.ofChange fnExactAreAlikeSpec)

/-- ITS FALSE NEIGHBOUR: 'it returns false'. Refute it at one input. -/
def fnExactAreAlikeWrong : ChangeSpec := { name := "fnExactAreAlike", fn := fun _ => fun
  | [d1, d2] => { results := [.lit (.bool false)], args := [d1, d2] }
  | _ => none }
def FnExactAreAlikeWrongFalsely : Prop := fnExactAreAlikeRow.holds Try.pinned (OpenSpec.ofChange fnExactAreAlikeWrong)

/-- 'laws.FnExactNumbersByCell': WHATEVER THE INPUT: true; the input reads as it did. -/
def fnExactNumbersByCellSpec : ChangeSpec := { name := "fnExactNumbersByCell", fn := fun _ => fun
  | [d1, d2, d3] => { results := [.lit (.bool true)], args := [d1, d2, d3] }
  | _ => none }
def fnExactNumbersByCellRow : OpenClaim := { program := "ytlkmbnekaeabaab", sum := "0edda59c924401478fa4cffeb1dc2a6a248e4956cc0e8f709f05e7a6ed85e0c5", func := "loop.example/g01125/laws.FnExactNumbersByCell", spec := "fnExactNumbersByCell", unfollowed := true, recurses := true, apart := false }
def FnExactNumbersByCellSaid : Prop := fnExactNumbersByCellRow.holds Try.pinned (OpenSpec.ofChange fnExactNumbersByCellSpec)

/-- ITS FALSE NEIGHBOUR: 'it returns false'. Refute it at one input. -/
def fnExactNumbersByCellWrong : ChangeSpec := { name := "fnExactNumbersByCell", fn := fun _ => fun
  | [d1, d2, d3] => { results := [.lit (.bool false)], args := [d1, d2, d3] }
  | _ => none }
def FnExactNumbersByCellWrongFalsely : Prop := fnExactNumbersByCellRow.holds Try.pinned (OpenSpec.ofChange fnExactNumbersByCellWrong)

/-- 'laws.FnExactCountWithCell': WHATEVER THE INPUT: true; the input reads as it did. -/
def fnExactCountWithCellSpec : ChangeSpec := { name := "fnExactCountWithCell", fn := fun _ => fun
  | [d1, d2, d3, d4] => { results := [.lit (.bool true)], args := [d1, d2, d3, d4] }
  | _ => none }
def fnExactCountWithCellRow : OpenClaim := { program := "ytlkmbnekaeabaab", sum := "0edda59c924401478fa4cffeb1dc2a6a248e4956cc0e8f709f05e7a6ed85e0c5", func := "loop.example/g01125/laws.FnExactCountWithCell", spec := "fnExactCountWithCell", unfollowed := true, recurses := true, apart := false }
def FnExactCountWithCellSaid : Prop := fnExactCountWithCellRow.holds Try.pinned (OpenSpec.ofChange fnExactCountWithCellSpec)

/-- ITS FALSE NEIGHBOUR: 'it returns false'. Refute it at one input. -/
def fnExactCountWithCellWrong : ChangeSpec := { name := "fnExactCountWithCell", fn := fun _ => fun
  | [d1, d2, d3, d4] => { results := [.lit (.bool false)], args := [d1, d2, d3, d4] }
  | _ => none }
def FnExactCountWithCellWrongFalsely : Prop := fnExactCountWithCellRow.holds Try.pinned (OpenSpec.ofChange fnExactCountWithCellWrong)

/-- 'laws.FnExactTurnPlacement': WHATEVER THE INPUT: true; the input reads as it did. -/
def fnExactTurnPlacementSpec : ChangeSpec := { name := "fnExactTurnPlacement", fn := fun _ => fun
  | [d1, d2] => { results := [.lit (.bool true)], args := [d1, d2] }
  | _ => none }
def fnExactTurnPlacementRow : OpenClaim := { program := "ytlkmbnekaeabaab", sum := "0edda59c924401478fa4cffeb1dc2a6a248e4956cc0e8f709f05e7a6ed85e0c5", func := "loop.example/g01125/laws.FnExactTurnPlacement", spec := "fnExactTurnPlacement", apart := false }
def FnExactTurnPlacementSaid : Prop := fnExactTurnPlacementRow.holds Try.pinned (OpenSpec.ofChange fnExactTurnPlacementSpec)

/-- ITS FALSE NEIGHBOUR: 'it returns false'. Refute it at one input. -/
def fnExactTurnPlacementWrong : ChangeSpec := { name := "fnExactTurnPlacement", fn := fun _ => fun
  | [d1, d2] => { results := [.lit (.bool false)], args := [d1, d2] }
  | _ => none }
def FnExactTurnPlacementWrongFalsely : Prop := fnExactTurnPlacementRow.holds Try.pinned (OpenSpec.ofChange fnExactTurnPlacementWrong)

/-- 'laws.FnBoardsJoined': WHATEVER THE INPUT: true; the input reads as it did. -/
def fnBoardsJoinedSpec : ChangeSpec := { name := "fnBoardsJoined", fn := fun _ => fun
  | [d1, d2] => { results := [.lit (.bool true)], args := [d1, d2] }
  | _ => none }
def fnBoardsJoinedRow : OpenClaim := { program := "ytlkmbnekaeabaab", sum := "0edda59c924401478fa4cffeb1dc2a6a248e4956cc0e8f709f05e7a6ed85e0c5", func := "loop.example/g01125/laws.FnBoardsJoined", spec := "fnBoardsJoined", unfollowed := true, recurses := true, apart := false }
def FnBoardsJoinedSaid : Prop := fnBoardsJoinedRow.holds Try.pinned (OpenSpec.ofChange fnBoardsJoinedSpec)

/-- ITS FALSE NEIGHBOUR: 'it returns false'. Refute it at one input. -/
def fnBoardsJoinedWrong : ChangeSpec := { name := "fnBoardsJoined", fn := fun _ => fun
  | [d1, d2] => { results := [.lit (.bool false)], args := [d1, d2] }
  | _ => none }
def FnBoardsJoinedWrongFalsely : Prop := fnBoardsJoinedRow.holds Try.pinned (OpenSpec.ofChange fnBoardsJoinedWrong)

/-- 'laws.FnPlacementsListed': WHATEVER THE INPUT: true; the input reads as it did. -/
def fnPlacementsListedSpec : ChangeSpec := { name := "fnPlacementsListed", fn := fun _ => fun
  | [d1, d2] => { results := [.lit (.bool true)], args := [d1, d2] }
  | _ => none }
def fnPlacementsListedRow : OpenClaim := { program := "ytlkmbnekaeabaab", sum := "0edda59c924401478fa4cffeb1dc2a6a248e4956cc0e8f709f05e7a6ed85e0c5", func := "loop.example/g01125/laws.FnPlacementsListed", spec := "fnPlacementsListed", unfollowed := true, recurses := true, apart := false }
def FnPlacementsListedSaid : Prop := fnPlacementsListedRow.holds Try.pinned (OpenSpec.ofChange fnPlacementsListedSpec)

/-- ITS FALSE NEIGHBOUR: 'it returns false'. Refute it at one input. -/
def fnPlacementsListedWrong : ChangeSpec := { name := "fnPlacementsListed", fn := fun _ => fun
  | [d1, d2] => { results := [.lit (.bool false)], args := [d1, d2] }
  | _ => none }
def FnPlacementsListedWrongFalsely : Prop := fnPlacementsListedRow.holds Try.pinned (OpenSpec.ofChange fnPlacementsListedWrong)

/-- 'laws.FnRookNumbersAddUp': WHATEVER THE INPUT: true; the input reads as it did. -/
def fnRookNumbersAddUpSpec : ChangeSpec := { name := "fnRookNumbersAddUp", fn := fun _ => fun
  | [d1, d2] => { results := [.lit (.bool true)], args := [d1, d2] }
  | _ => none }
def fnRookNumbersAddUpRow : OpenClaim := { program := "ytlkmbnekaeabaab", sum := "0edda59c924401478fa4cffeb1dc2a6a248e4956cc0e8f709f05e7a6ed85e0c5", func := "loop.example/g01125/laws.FnRookNumbersAddUp", spec := "fnRookNumbersAddUp", unfollowed := true, recurses := true, apart := false }
def FnRookNumbersAddUpSaid : Prop := fnRookNumbersAddUpRow.holds Try.pinned (OpenSpec.ofChange fnRookNumbersAddUpSpec)

/-- ITS FALSE NEIGHBOUR: 'it returns false'. Refute it at one input. -/
def fnRookNumbersAddUpWrong : ChangeSpec := { name := "fnRookNumbersAddUp", fn := fun _ => fun
  | [d1, d2] => { results := [.lit (.bool false)], args := [d1, d2] }
  | _ => none }
def FnRookNumbersAddUpWrongFalsely : Prop := fnRookNumbersAddUpRow.holds Try.pinned (OpenSpec.ofChange fnRookNumbersAddUpWrong)

/-- 'laws.FnRookNumbersMultiply': WHATEVER THE INPUT: true; the input reads as it did. -/
def fnRookNumbersMultiplySpec : ChangeSpec := { name := "fnRookNumbersMultiply", fn := fun _ => fun
  | [d1, d2] => { results := [.lit (.bool true)], args := [d1, d2] }
  | _ => none }
def fnRookNumbersMultiplyRow : OpenClaim := { program := "ytlkmbnekaeabaab", sum := "0edda59c924401478fa4cffeb1dc2a6a248e4956cc0e8f709f05e7a6ed85e0c5", func := "loop.example/g01125/laws.FnRookNumbersMultiply", spec := "fnRookNumbersMultiply", unfollowed := true, recurses := true, apart := false }
def FnRookNumbersMultiplySaid : Prop := fnRookNumbersMultiplyRow.holds Try.pinned (OpenSpec.ofChange fnRookNumbersMultiplySpec)

/-- ITS FALSE NEIGHBOUR: 'it returns false'. Refute it at one input. -/
def fnRookNumbersMultiplyWrong : ChangeSpec := { name := "fnRookNumbersMultiply", fn := fun _ => fun
  | [d1, d2] => { results := [.lit (.bool false)], args := [d1, d2] }
  | _ => none }
def FnRookNumbersMultiplyWrongFalsely : Prop := fnRookNumbersMultiplyRow.holds Try.pinned (OpenSpec.ofChange fnRookNumbersMultiplyWrong)

/-- 'laws.FnPolynomialsOfRooks': WHATEVER THE INPUT: true; the input reads as it did. -/
def fnPolynomialsOfRooksSpec : ChangeSpec := { name := "fnPolynomialsOfRooks", fn := fun _ => fun
  | [d1, d2] => { results := [.lit (.bool true)], args := [d1, d2] }
  | _ => none }
def fnPolynomialsOfRooksRow : OpenClaim := { program := "ytlkmbnekaeabaab", sum := "0edda59c924401478fa4cffeb1dc2a6a248e4956cc0e8f709f05e7a6ed85e0c5", func := "loop.example/g01125/laws.FnPolynomialsOfRooks", spec := "fnPolynomialsOfRooks", unfollowed := true, recurses := true, apart := false }
def FnPolynomialsOfRooksSaid : Prop := fnPolynomialsOfRooksRow.holds Try.pinned (OpenSpec.ofChange fnPolynomialsOfRooksSpec)

/-- ITS FALSE NEIGHBOUR: 'it returns false'. Refute it at one input. -/
def fnPolynomialsOfRooksWrong : ChangeSpec := { name := "fnPolynomialsOfRooks", fn := fun _ => fun
  | [d1, d2] => { results := [.lit (.bool false)], args := [d1, d2] }
  | _ => none }
def FnPolynomialsOfRooksWrongFalsely : Prop := fnPolynomialsOfRooksRow.holds Try.pinned (OpenSpec.ofChange fnPolynomialsOfRooksWrong)

/- THE SECOND FORM. 'bulk': how many values and letters a reading holds, each counted each time it is reached (what is shared counts as often as it is met; a slice's spare places count too). A statement '..UptoSaid' is the law's where the arguments, and the package variables that the reading takes, are together of bulk at most 1048576: NARROWER than '..Said'. Prove '..Said' where nothing that the law and all that it calls make is longer than what came in: it says more and counts as full. Else prove '..UptoSaid'. A law counts once. -/
mutual
def uptoBulk {H : Type} : DataW H → Nat
  | .lit (.string bytes) => bytes.length + 1
  | .lit _ => 1
  | .nil => 1
  | .ptr d => uptoBulk d + 1
  | .slice elems spare => uptoBulkAll elems + uptoBulkAll spare + 1
  | .agg parts => uptoBulkAll parts + 1
  | .iface _ d => uptoBulk d + 1
  | .map entries => uptoBulkEntries entries + 1
  | .held _ => 1
def uptoBulkAll {H : Type} : List (DataW H) → Nat
  | [] => 0
  | d :: r => uptoBulk d + uptoBulkAll r
def uptoBulkEntries {H : Type} : List (Lit × DataW H) → Nat
  | [] => 0
  | x :: r => uptoBulkEntry x + uptoBulkEntries r
def uptoBulkEntry {H : Type} : Lit × DataW H → Nat
  | (.string bytes, d) => bytes.length + uptoBulk d + 1
  | (_, d) => uptoBulk d + 1
 end
def uptoSmall : (H : Type) → List (DataW H) → Bool := fun _ ds => decide (uptoBulkAll ds ≤ 1048576)
def OpenSpec.upto (s : _root_.Go.ChangeSpec) : _root_.Go.OpenSpec := { _root_.Go.OpenSpec.ofChange s with cond := some uptoSmall }

/-- 'laws.FnExactNumbersOfComplement', WHERE WHAT IT READS IS OF BULK AT MOST 1048576: true; the input reads as it did. -/
def fnExactNumbersOfComplementUptoRow : OpenClaim := { program := "ytlkmbnekaeabaab", sum := "0edda59c924401478fa4cffeb1dc2a6a248e4956cc0e8f709f05e7a6ed85e0c5", func := "loop.example/g01125/laws.FnExactNumbersOfComplement", spec := "fnExactNumbersOfComplement", unfollowed := true, recurses := true, apart := false, narrowed := true }
def FnExactNumbersOfComplementUptoSaid : Prop := fnExactNumbersOfComplementUptoRow.holds Try.pinned (OpenSpec.upto fnExactNumbersOfComplementSpec)

/-- 'laws.FnExactAreAlike', WHERE WHAT IT READS IS OF BULK AT MOST 1048576: true; the input reads as it did. -/
def fnExactAreAlikeUptoRow : OpenClaim := { program := "ytlkmbnekaeabaab", sum := "0edda59c924401478fa4cffeb1dc2a6a248e4956cc0e8f709f05e7a6ed85e0c5", func := "loop.example/g01125/laws.FnExactAreAlike", spec := "fnExactAreAlike", recurses := true, apart := false, narrowed := true }
def FnExactAreAlikeUptoSaid : Prop := fnExactAreAlikeUptoRow.holds Try.pinned (OpenSpec.upto fnExactAreAlikeSpec)

/-- 'laws.FnExactNumbersByCell', WHERE WHAT IT READS IS OF BULK AT MOST 1048576: true; the input reads as it did. -/
def fnExactNumbersByCellUptoRow : OpenClaim := { program := "ytlkmbnekaeabaab", sum := "0edda59c924401478fa4cffeb1dc2a6a248e4956cc0e8f709f05e7a6ed85e0c5", func := "loop.example/g01125/laws.FnExactNumbersByCell", spec := "fnExactNumbersByCell", unfollowed := true, recurses := true, apart := false, narrowed := true }
def FnExactNumbersByCellUptoSaid : Prop := fnExactNumbersByCellUptoRow.holds Try.pinned (OpenSpec.upto fnExactNumbersByCellSpec)

/-- 'laws.FnExactCountWithCell', WHERE WHAT IT READS IS OF BULK AT MOST 1048576: true; the input reads as it did. -/
def fnExactCountWithCellUptoRow : OpenClaim := { program := "ytlkmbnekaeabaab", sum := "0edda59c924401478fa4cffeb1dc2a6a248e4956cc0e8f709f05e7a6ed85e0c5", func := "loop.example/g01125/laws.FnExactCountWithCell", spec := "fnExactCountWithCell", unfollowed := true, recurses := true, apart := false, narrowed := true }
def FnExactCountWithCellUptoSaid : Prop := fnExactCountWithCellUptoRow.holds Try.pinned (OpenSpec.upto fnExactCountWithCellSpec)

/-- 'laws.FnExactTurnPlacement', WHERE WHAT IT READS IS OF BULK AT MOST 1048576: true; the input reads as it did. -/
def fnExactTurnPlacementUptoRow : OpenClaim := { program := "ytlkmbnekaeabaab", sum := "0edda59c924401478fa4cffeb1dc2a6a248e4956cc0e8f709f05e7a6ed85e0c5", func := "loop.example/g01125/laws.FnExactTurnPlacement", spec := "fnExactTurnPlacement", apart := false, narrowed := true }
def FnExactTurnPlacementUptoSaid : Prop := fnExactTurnPlacementUptoRow.holds Try.pinned (OpenSpec.upto fnExactTurnPlacementSpec)

/-- 'laws.FnBoardsJoined', WHERE WHAT IT READS IS OF BULK AT MOST 1048576: true; the input reads as it did. -/
def fnBoardsJoinedUptoRow : OpenClaim := { program := "ytlkmbnekaeabaab", sum := "0edda59c924401478fa4cffeb1dc2a6a248e4956cc0e8f709f05e7a6ed85e0c5", func := "loop.example/g01125/laws.FnBoardsJoined", spec := "fnBoardsJoined", unfollowed := true, recurses := true, apart := false, narrowed := true }
def FnBoardsJoinedUptoSaid : Prop := fnBoardsJoinedUptoRow.holds Try.pinned (OpenSpec.upto fnBoardsJoinedSpec)

/-- 'laws.FnPlacementsListed', WHERE WHAT IT READS IS OF BULK AT MOST 1048576: true; the input reads as it did. -/
def fnPlacementsListedUptoRow : OpenClaim := { program := "ytlkmbnekaeabaab", sum := "0edda59c924401478fa4cffeb1dc2a6a248e4956cc0e8f709f05e7a6ed85e0c5", func := "loop.example/g01125/laws.FnPlacementsListed", spec := "fnPlacementsListed", unfollowed := true, recurses := true, apart := false, narrowed := true }
def FnPlacementsListedUptoSaid : Prop := fnPlacementsListedUptoRow.holds Try.pinned (OpenSpec.upto fnPlacementsListedSpec)

/-- 'laws.FnRookNumbersAddUp', WHERE WHAT IT READS IS OF BULK AT MOST 1048576: true; the input reads as it did. -/
def fnRookNumbersAddUpUptoRow : OpenClaim := { program := "ytlkmbnekaeabaab", sum := "0edda59c924401478fa4cffeb1dc2a6a248e4956cc0e8f709f05e7a6ed85e0c5", func := "loop.example/g01125/laws.FnRookNumbersAddUp", spec := "fnRookNumbersAddUp", unfollowed := true, recurses := true, apart := false, narrowed := true }
def FnRookNumbersAddUpUptoSaid : Prop := fnRookNumbersAddUpUptoRow.holds Try.pinned (OpenSpec.upto fnRookNumbersAddUpSpec)

/-- 'laws.FnRookNumbersMultiply', WHERE WHAT IT READS IS OF BULK AT MOST 1048576: true; the input reads as it did. -/
def fnRookNumbersMultiplyUptoRow : OpenClaim := { program := "ytlkmbnekaeabaab", sum := "0edda59c924401478fa4cffeb1dc2a6a248e4956cc0e8f709f05e7a6ed85e0c5", func := "loop.example/g01125/laws.FnRookNumbersMultiply", spec := "fnRookNumbersMultiply", unfollowed := true, recurses := true, apart := false, narrowed := true }
def FnRookNumbersMultiplyUptoSaid : Prop := fnRookNumbersMultiplyUptoRow.holds Try.pinned (OpenSpec.upto fnRookNumbersMultiplySpec)

/-- 'laws.FnPolynomialsOfRooks', WHERE WHAT IT READS IS OF BULK AT MOST 1048576: true; the input reads as it did. -/
def fnPolynomialsOfRooksUptoRow : OpenClaim := { program := "ytlkmbnekaeabaab", sum := "0edda59c924401478fa4cffeb1dc2a6a248e4956cc0e8f709f05e7a6ed85e0c5", func := "loop.example/g01125/laws.FnPolynomialsOfRooks", spec := "fnPolynomialsOfRooks", unfollowed := true, recurses := true, apart := false, narrowed := true }
def FnPolynomialsOfRooksUptoSaid : Prop := fnPolynomialsOfRooksUptoRow.holds Try.pinned (OpenSpec.upto fnPolynomialsOfRooksSpec)

end Rows
end Go.Proofs.Ytlkmbnekaeabaab
