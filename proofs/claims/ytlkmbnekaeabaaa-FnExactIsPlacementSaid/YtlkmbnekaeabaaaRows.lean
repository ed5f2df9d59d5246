/-
  No cell of these rows narrows 'for every input' (looked for: loops, veiled, ifaces, maps, wideKeys, modest, calm, conditions, laid).
  DERIVED. THE GIVEN ROWS OF THIS SEAT. 11 by the template 'for every input the law returns true; each argument reads behind the call as it read before'; 0 by the template 'total and deterministic' (their statements: YtlkmbnekaeabaaaTotals.lean).
  GIVEN WITH THE SEED: the statements are not yours to turn. If you find one false, say at which input.
  Laid BY PROGRAM, IN A SANDBOX (cutbox-rows.mjs): the forced cells as the released guide's own fill.sh prints them over the translation 77317808bbd1dd13… (all of the seat's roots in one cut). By AI agents, Wed Nov 11 2026. No macro, syntax, notation, axiom, sorry.
-/
import Derived.Test.YtlkmbnekaeabaaaChecked
import GoSem.Claim
import GoSem.ClaimJoined
import GoSem.ClaimMapViews
import Derived.JoinedTies
import Derived.KernelRfl
namespace Go.Proofs.Ytlkmbnekaeabaaa
/- THE CELL 'sum', in the pinned program and in every row, IS THE sha256 OF THE DUMP (.gsa) THAT YtlkmbnekaeabaaaProg.lean LOADS. Nothing in Lean hashes anything: it is a label: what it is worth is what the hold of that sum in a sandbox is worth. -/
noncomputable def Try.pinned : Pinned := { name := "ytlkmbnekaeabaaa", sum := "77317808bbd1dd132f69542e2b55a743bd189be8af7f973996435069521ed3f4", checked := Try.checked }
namespace Rows
def none {H : Type} : Left H := { results := [], args := [] }

/-- 'laws.FnExactIsPlacement': WHATEVER THE INPUT: true; the input reads as it did. -/
def fnExactIsPlacementSpec : ChangeSpec := { name := "fnExactIsPlacement", fn := fun _ => fun
  | [d1, d2] => { results := [.lit (.bool true)], args := [d1, d2] }
  | _ => none }
def fnExactIsPlacementRow : OpenClaim := { program := "ytlkmbnekaeabaaa", sum := "77317808bbd1dd132f69542e2b55a743bd189be8af7f973996435069521ed3f4", func := "loop.example/g01125/laws.FnExactIsPlacement", spec := "fnExactIsPlacement", apart := false }
def FnExactIsPlacementSaid : Prop := fnExactIsPlacementRow.holds Try.pinned (OpenSpec.ofChange fnExactIsPlacementSpec)

/-- ITS FALSE NEIGHBOUR: 'it returns false'. Refute it at one input. -/
def fnExactIsPlacementWrong : ChangeSpec := { name := "fnExactIsPlacement", fn := fun _ => fun
  | [d1, d2] => { results := [.lit (.bool false)], args := [d1, d2] }
  | _ => none }
def FnExactIsPlacementWrongFalsely : Prop := fnExactIsPlacementRow.holds Try.pinned (OpenSpec.ofChange fnExactIsPlacementWrong)

/-- 'laws.FnExactCountRooks': WHATEVER THE INPUT: true; the input reads as it did. -/
def fnExactCountRooksSpec : ChangeSpec := { name := "fnExactCountRooks", fn := fun _ => fun
  | [d] => { results := [.lit (.bool true)], args := [d] }
  | _ => none }
def fnExactCountRooksRow : OpenClaim := { program := "ytlkmbnekaeabaaa", sum := "77317808bbd1dd132f69542e2b55a743bd189be8af7f973996435069521ed3f4", func := "loop.example/g01125/laws.FnExactCountRooks", spec := "fnExactCountRooks", unfollowed := true, recurses := true, apart := false }
def FnExactCountRooksSaid : Prop := fnExactCountRooksRow.holds Try.pinned (OpenSpec.ofChange fnExactCountRooksSpec)

/-- ITS FALSE NEIGHBOUR: 'it returns false'. Refute it at one input. -/
def fnExactCountRooksWrong : ChangeSpec := { name := "fnExactCountRooks", fn := fun _ => fun
  | [d] => { results := [.lit (.bool false)], args := [d] }
  | _ => none }
def FnExactCountRooksWrongFalsely : Prop := fnExactCountRooksRow.holds Try.pinned (OpenSpec.ofChange fnExactCountRooksWrong)

/-- 'laws.FnExactRookNumbers': WHATEVER THE INPUT: true; the input reads as it did. -/
def fnExactRookNumbersSpec : ChangeSpec := { name := "fnExactRookNumbers", fn := fun _ => fun
  | [d] => { results := [.lit (.bool true)], args := [d] }
  | _ => none }
def fnExactRookNumbersRow : OpenClaim := { program := "ytlkmbnekaeabaaa", sum := "77317808bbd1dd132f69542e2b55a743bd189be8af7f973996435069521ed3f4", func := "loop.example/g01125/laws.FnExactRookNumbers", spec := "fnExactRookNumbers", recurses := true, apart := false }
def FnExactRookNumbersSaid : Prop := fnExactRookNumbersRow.holds Try.pinned (OpenSpec.ofChange fnExactRookNumbersSpec)

/-- ITS FALSE NEIGHBOUR: 'it returns false'. Refute it at one input. -/
def fnExactRookNumbersWrong : ChangeSpec := { name := "fnExactRookNumbers", fn := fun _ => fun
  | [d] => { results := [.lit (.bool false)], args := [d] }
  | _ => none }
def FnExactRookNumbersWrongFalsely : Prop := fnExactRookNumbersRow.holds Try.pinned (OpenSpec.ofChange fnExactRookNumbersWrong)

/-- 'laws.FnExactMostRooks': WHATEVER THE INPUT: true; the input reads as it did. -/
def fnExactMostRooksSpec : ChangeSpec := { name := "fnExactMostRooks", fn := fun _ => fun
  | [d] => { results := [.lit (.bool true)], args := [d] }
  | _ => none }
def fnExactMostRooksRow : OpenClaim := { program := "ytlkmbnekaeabaaa", sum := "77317808bbd1dd132f69542e2b55a743bd189be8af7f973996435069521ed3f4", func := "loop.example/g01125/laws.FnExactMostRooks", spec := "fnExactMostRooks", recurses := true, apart := false }
def FnExactMostRooksSaid : Prop := fnExactMostRooksRow.holds Try.pinned (OpenSpec.ofChange fnExactMostRooksSpec)

/-- ITS FALSE NEIGHBOUR: 'it returns false'. Refute it at one input. -/
def fnExactMostRooksWrong : ChangeSpec := { name := "fnExactMostRooks", fn := fun _ => fun
  | [d] => { results := [.lit (.bool false)], args := [d] }
  | _ => none }
def FnExactMostRooksWrongFalsely : Prop := fnExactMostRooksRow.holds Try.pinned (OpenSpec.ofChange fnExactMostRooksWrong)

/-- 'laws.FnExactPlacementsOf': WHATEVER THE INPUT: true; the input reads as it did. -/
def fnExactPlacementsOfSpec : ChangeSpec := { name := "fnExactPlacementsOf", fn := fun _ => fun
  | [d1, d2] => { results := [.lit (.bool true)], args := [d1, d2] }
  | _ => none }
def fnExactPlacementsOfRow : OpenClaim := { program := "ytlkmbnekaeabaaa", sum := "77317808bbd1dd132f69542e2b55a743bd189be8af7f973996435069521ed3f4", func := "loop.example/g01125/laws.FnExactPlacementsOf", spec := "fnExactPlacementsOf", unfollowed := true, recurses := true, apart := false }
def FnExactPlacementsOfSaid : Prop := fnExactPlacementsOfRow.holds Try.pinned (OpenSpec.ofChange fnExactPlacementsOfSpec)

/-- ITS FALSE NEIGHBOUR: 'it returns false'. Refute it at one input. -/
def fnExactPlacementsOfWrong : ChangeSpec := { name := "fnExactPlacementsOf", fn := fun _ => fun
  | [d1, d2] => { results := [.lit (.bool false)], args := [d1, d2] }
  | _ => none }
def FnExactPlacementsOfWrongFalsely : Prop := fnExactPlacementsOfRow.holds Try.pinned (OpenSpec.ofChange fnExactPlacementsOfWrong)

/-- 'laws.FnExactPlacementWith': WHATEVER THE INPUT: true; the input reads as it did. -/
def fnExactPlacementWithSpec : ChangeSpec := { name := "fnExactPlacementWith", fn := fun _ => fun
  | [d1, d2, d3] => { results := [.lit (.bool true)], args := [d1, d2, d3] }
  | _ => none }
def fnExactPlacementWithRow : OpenClaim := { program := "ytlkmbnekaeabaaa", sum := "77317808bbd1dd132f69542e2b55a743bd189be8af7f973996435069521ed3f4", func := "loop.example/g01125/laws.FnExactPlacementWith", spec := "fnExactPlacementWith", unfollowed := true, recurses := true, apart := false }
def FnExactPlacementWithSaid : Prop := fnExactPlacementWithRow.holds Try.pinned (OpenSpec.ofChange fnExactPlacementWithSpec)

/-- ITS FALSE NEIGHBOUR: 'it returns false'. Refute it at one input. -/
def fnExactPlacementWithWrong : ChangeSpec := { name := "fnExactPlacementWith", fn := fun _ => fun
  | [d1, d2, d3] => { results := [.lit (.bool false)], args := [d1, d2, d3] }
  | _ => none }
def FnExactPlacementWithWrongFalsely : Prop := fnExactPlacementWithRow.holds Try.pinned (OpenSpec.ofChange fnExactPlacementWithWrong)

/-- 'laws.FnExactRankPlacement': WHATEVER THE INPUT: true; the input reads as it did. -/
def fnExactRankPlacementSpec : ChangeSpec := { name := "fnExactRankPlacement", fn := fun _ => fun
  | [d1, d2] => { results := [.lit (.bool true)], args := [d1, d2] }
  | _ => none }
def fnExactRankPlacementRow : OpenClaim := { program := "ytlkmbnekaeabaaa", sum := "77317808bbd1dd132f69542e2b55a743bd189be8af7f973996435069521ed3f4", func := "loop.example/g01125/laws.FnExactRankPlacement", spec := "fnExactRankPlacement", unfollowed := true, recurses := true, apart := false }
def FnExactRankPlacementSaid : Prop := fnExactRankPlacementRow.holds Try.pinned (OpenSpec.ofChange fnExactRankPlacementSpec)

/-- ITS FALSE NEIGHBOUR: 'it returns false'. Refute it at one input. -/
def fnExactRankPlacementWrong : ChangeSpec := { name := "fnExactRankPlacement", fn := fun _ => fun
  | [d1, d2] => { results := [.lit (.bool false)], args := [d1, d2] }
  | _ => none }
def FnExactRankPlacementWrongFalsely : Prop := fnExactRankPlacementRow.holds Try.pinned (OpenSpec.ofChange fnExactRankPlacementWrong)

/-- 'laws.FnExactPermanentOf': WHATEVER THE INPUT: true; the input reads as it did. -/
def fnExactPermanentOfSpec : ChangeSpec := { name := "fnExactPermanentOf", fn := fun _ => fun
  | [d] => { results := [.lit (.bool true)], args := [d] }
  | _ => none }
def fnExactPermanentOfRow : OpenClaim := { program := "ytlkmbnekaeabaaa", sum := "77317808bbd1dd132f69542e2b55a743bd189be8af7f973996435069521ed3f4", func := "loop.example/g01125/laws.FnExactPermanentOf", spec := "fnExactPermanentOf", recurses := true, apart := false }
def FnExactPermanentOfSaid : Prop := fnExactPermanentOfRow.holds Try.pinned (OpenSpec.ofChange fnExactPermanentOfSpec)

/-- ITS FALSE NEIGHBOUR: 'it returns false'. Refute it at one input. -/
def fnExactPermanentOfWrong : ChangeSpec := { name := "fnExactPermanentOf", fn := fun _ => fun
  | [d] => { results := [.lit (.bool false)], args := [d] }
  | _ => none }
def FnExactPermanentOfWrongFalsely : Prop := fnExactPermanentOfRow.holds Try.pinned (OpenSpec.ofChange fnExactPermanentOfWrong)

/-- 'laws.FnExactRookPolynomialAt': WHATEVER THE INPUT: true; the input reads as it did. -/
def fnExactRookPolynomialAtSpec : ChangeSpec := { name := "fnExactRookPolynomialAt", fn := fun _ => fun
  | [d1, d2] => { results := [.lit (.bool true)], args := [d1, d2] }
  | _ => none }
def fnExactRookPolynomialAtRow : OpenClaim := { program := "ytlkmbnekaeabaaa", sum := "77317808bbd1dd132f69542e2b55a743bd189be8af7f973996435069521ed3f4", func := "loop.example/g01125/laws.FnExactRookPolynomialAt", spec := "fnExactRookPolynomialAt", unfollowed := true, recurses := true, apart := false }
def FnExactRookPolynomialAtSaid : Prop := fnExactRookPolynomialAtRow.holds Try.pinned (OpenSpec.ofChange fnExactRookPolynomialAtSpec)

/-- ITS FALSE NEIGHBOUR: 'it returns false'. Refute it at one input. -/
def fnExactRookPolynomialAtWrong : ChangeSpec := { name := "fnExactRookPolynomialAt", fn := fun _ => fun
  | [d1, d2] => { results := [.lit (.bool false)], args := [d1, d2] }
  | _ => none }
def FnExactRookPolynomialAtWrongFalsely : Prop := fnExactRookPolynomialAtRow.holds Try.pinned (OpenSpec.ofChange fnExactRookPolynomialAtWrong)

/-- 'laws.FnExactFactorialAt': WHATEVER THE INPUT: true; the input reads as it did. -/
def fnExactFactorialAtSpec : ChangeSpec := { name := "fnExactFactorialAt", fn := fun _ => fun
  | [d1, d2] => { results := [.lit (.bool true)], args := [d1, d2] }
  | _ => none }
def fnExactFactorialAtRow : OpenClaim := { program := "ytlkmbnekaeabaaa", sum := "77317808bbd1dd132f69542e2b55a743bd189be8af7f973996435069521ed3f4", func := "loop.example/g01125/laws.FnExactFactorialAt", spec := "fnExactFactorialAt", unfollowed := true, recurses := true, apart := false }
def FnExactFactorialAtSaid : Prop := fnExactFactorialAtRow.holds Try.pinned (OpenSpec.ofChange fnExactFactorialAtSpec)

/-- ITS FALSE NEIGHBOUR: 'it returns false'. Refute it at one input. -/
def fnExactFactorialAtWrong : ChangeSpec := { name := "fnExactFactorialAt", fn := fun _ => fun
  | [d1, d2] => { results := [.lit (.bool false)], args := [d1, d2] }
  | _ => none }
def FnExactFactorialAtWrongFalsely : Prop := fnExactFactorialAtRow.holds Try.pinned (OpenSpec.ofChange fnExactFactorialAtWrong)

/-- 'laws.FnExactMultiplyNumbers': WHATEVER THE INPUT: true; the input reads as it did. -/
def fnExactMultiplyNumbersSpec : ChangeSpec := { name := "fnExactMultiplyNumbers", fn := fun _ => fun
  | [d1, d2] => { results := [.lit (.bool true)], args := [d1, d2] }
  | _ => none }
def fnExactMultiplyNumbersRow : OpenClaim := { program := "ytlkmbnekaeabaaa", sum := "77317808bbd1dd132f69542e2b55a743bd189be8af7f973996435069521ed3f4", func := "loop.example/g01125/laws.FnExactMultiplyNumbers", spec := "fnExactMultiplyNumbers", apart := false }
def FnExactMultiplyNumbersSaid : Prop := fnExactMultiplyNumbersRow.holds Try.pinned (OpenSpec.ofChange fnExactMultiplyNumbersSpec)

/-- ITS FALSE NEIGHBOUR: 'it returns false'. Refute it at one input. -/
def fnExactMultiplyNumbersWrong : ChangeSpec := { name := "fnExactMultiplyNumbers", fn := fun _ => fun
  | [d1, d2] => { results := [.lit (.bool false)], args := [d1, d2] }
  | _ => none }
def FnExactMultiplyNumbersWrongFalsely : Prop := fnExactMultiplyNumbersRow.holds Try.pinned (OpenSpec.ofChange fnExactMultiplyNumbersWrong)

/- THE SECOND FORM. 'bulk': how many values and letters a reading holds, each counted each time it is reached (what is shared counts as often as it is met; a slice's spare places count too). A statement '..UptoSaid' is the law's where the arguments, and the package variables that the reading takes, are together of bulk at most 1048576: NARROWER than '..Said'. Prove '..Said' where nothing that the law and all that it calls make is longer than what came in: it says more and counts as full. Else prove '..UptoSaid'. A law counts once. -/
mutual
def uptoBulk {H : Type} : DataW H → Nat
  | .lit (.string bytes) => bytes.length + 1
  | .lit _ => 1
  | .nil => 1
  | .ptr d => uptoBulk d + 1
  | .slice elems spare => uptoBulkAll elems + uptoBulkAll spare + 1
  | .agg parts => uptoBulkAll parts + 1
  | .iface _ d => uptoBulk d + 1
  | .map entries => uptoBulkEntries entries + 1
  | .held _ => 1
def uptoBulkAll {H : Type} : List (DataW H) → Nat
  | [] => 0
  | d :: r => uptoBulk d + uptoBulkAll r
def uptoBulkEntries {H : Type} : List (Lit × DataW H) → Nat
  | [] => 0
  | x :: r => uptoBulkEntry x + uptoBulkEntries r
def uptoBulkEntry {H : Type} : Lit × DataW H → Nat
  | (.string bytes, d) => bytes.length + uptoBulk d + 1
  | (_, d) => uptoBulk d + 1
 end
def uptoSmall : (H : Type) → List (DataW H) → Bool := fun _ ds => decide (uptoBulkAll ds ≤ 1048576)
def OpenSpec.upto (s : _root_.Go.ChangeSpec) : _root_.Go.OpenSpec := { _root_.Go.OpenSpec.ofChange s with cond := some uptoSmall }

/-- 'laws.FnExactIsPlacement', WHERE WHAT IT READS IS OF BULK AT MOST 1048576: true; the input reads as it did. -/
def fnExactIsPlacementUptoRow : OpenClaim := { program := "ytlkmbnekaeabaaa", sum := "77317808bbd1dd132f69542e2b55a743bd189be8af7f973996435069521ed3f4", func := "loop.example/g01125/laws.FnExactIsPlacement", spec := "fnExactIsPlacement", apart := false, narrowed := true }
def FnExactIsPlacementUptoSaid : Prop := fnExactIsPlacementUptoRow.holds Try.pinned (OpenSpec.upto fnExactIsPlacementSpec)

/-- 'laws.FnExactCountRooks', WHERE WHAT IT READS IS OF BULK AT MOST 1048576: true; the input reads as it did. -/
def fnExactCountRooksUptoRow : OpenClaim := { program := "ytlkmbnekaeabaaa", sum := "77317808bbd1dd132f69542e2b55a743bd189be8af7f973996435069521ed3f4", func := "loop.example/g01125/laws.FnExactCountRooks", spec := "fnExactCountRooks", unfollowed := true, recurses := true, apart := false, narrowed := true }
def FnExactCountRooksUptoSaid : Prop := fnExactCountRooksUptoRow.holds Try.pinned (OpenSpec.upto fnExactCountRooksSpec)

/-- 'laws.FnExactRookNumbers', WHERE WHAT IT READS IS OF BULK AT MOST 1048576: true; the input reads as it did. -/
def fnExactRookNumbersUptoRow : OpenClaim := { program := "ytlkmbnekaeabaaa", sum := "77317808bbd1dd132f69542e2b55a743bd189be8af7f973996435069521ed3f4", func := "loop.example/g01125/laws.FnExactRookNumbers", spec := "fnExactRookNumbers", recurses := true, apart := false, narrowed := true }
def FnExactRookNumbersUptoSaid : Prop := fnExactRookNumbersUptoRow.holds Try.pinned (OpenSpec.upto fnExactRookNumbersSpec)

/-- 'laws.FnExactMostRooks', WHERE WHAT IT READS IS OF BULK AT MOST 1048576: true; the input reads as it did. -/
def fnExactMostRooksUptoRow : OpenClaim := { program := "ytlkmbnekaeabaaa", sum := "77317808bbd1dd132f69542e2b55a743bd189be8af7f973996435069521ed3f4", func := "loop.example/g01125/laws.FnExactMostRooks", spec := "fnExactMostRooks", recurses := true, apart := false, narrowed := true }
def FnExactMostRooksUptoSaid : Prop := fnExactMostRooksUptoRow.holds Try.pinned (OpenSpec.upto fnExactMostRooksSpec)

/-- 'laws.FnExactPlacementsOf', WHERE WHAT IT READS IS OF BULK AT MOST 1048576: true; the input reads as it did. -/
def fnExactPlacementsOfUptoRow : OpenClaim := { program := "ytlkmbnekaeabaaa", sum := "77317808bbd1dd132f69542e2b55a743bd189be8af7f973996435069521ed3f4", func := "loop.example/g01125/laws.FnExactPlacementsOf", spec := "fnExactPlacementsOf", unfollowed := true, recurses := true, apart := false, narrowed := true }
def FnExactPlacementsOfUptoSaid : Prop := fnExactPlacementsOfUptoRow.holds Try.pinned (OpenSpec.upto fnExactPlacementsOfSpec)

/-- 'laws.FnExactPlacementWith', WHERE WHAT IT READS IS OF BULK AT MOST 1048576: true; the input reads as it did. -/
def fnExactPlacementWithUptoRow : OpenClaim := { program := "ytlkmbnekaeabaaa", sum := "77317808bbd1dd132f69542e2b55a743bd189be8af7f973996435069521ed3f4", func := "loop.example/g01125/laws.FnExactPlacementWith", spec := "fnExactPlacementWith", unfollowed := true, recurses := true, apart := false, narrowed := true }
def FnExactPlacementWithUptoSaid : Prop := fnExactPlacementWithUptoRow.holds Try.pinned (OpenSpec.upto fnExactPlacementWithSpec)

/-- 'laws.FnExactRankPlacement', WHERE WHAT IT READS IS OF BULK AT MOST 1048576: true; the input reads as it did. -/
def fnExactRankPlacementUptoRow : OpenClaim := { program := "ytlkmbnekaeabaaa", sum := "77317808bbd1dd132f69542e2b55a743bd189be8af7f973996435069521ed3f4", func := "loop.example/g01125/laws.FnExactRankPlacement", spec := "fnExactRankPlacement", unfollowed := true, recurses := true, apart := false, narrowed := true }
def FnExactRankPlacementUptoSaid : Prop := fnExactRankPlacementUptoRow.holds Try.pinned (OpenSpec.upto fnExactRankPlacementSpec)

/-- 'laws.FnExactPermanentOf', WHERE WHAT IT READS IS OF BULK AT MOST 1048576: true; the input reads as it did. -/
def fnExactPermanentOfUptoRow : OpenClaim := { program := "ytlkmbnekaeabaaa", sum := "77317808bbd1dd132f69542e2b55a743bd189be8af7f973996435069521ed3f4", func := "loop.example/g01125/laws.FnExactPermanentOf", spec := "fnExactPermanentOf", recurses := true, apart := false, narrowed := true }
def FnExactPermanentOfUptoSaid : Prop := fnExactPermanentOfUptoRow.holds Try.pinned (OpenSpec.upto fnExactPermanentOfSpec)

/-- 'laws.FnExactRookPolynomialAt', WHERE WHAT IT READS IS OF BULK AT MOST 1048576: true; the input reads as it did. -/
def fnExactRookPolynomialAtUptoRow : OpenClaim := { program := "ytlkmbnekaeabaaa", sum := "77317808bbd1dd132f69542e2b55a743bd189be8af7f973996435069521ed3f4", func := "loop.example/g01125/laws.FnExactRookPolynomialAt", spec := "fnExactRookPolynomialAt", unfollowed := true, recurses := true, apart := false, narrowed := true }
def FnExactRookPolynomialAtUptoSaid : Prop := fnExactRookPolynomialAtUptoRow.holds Try.pinned (OpenSpec.upto fnExactRookPolynomialAtSpec)

/-- 'laws.FnExactFactorialAt', WHERE WHAT IT READS IS OF BULK AT MOST 1048576: true; the input reads as it did. -/
def fnExactFactorialAtUptoRow : OpenClaim := { program := "ytlkmbnekaeabaaa", sum := "77317808bbd1dd132f69542e2b55a743bd189be8af7f973996435069521ed3f4", func := "loop.example/g01125/laws.FnExactFactorialAt", spec := "fnExactFactorialAt", unfollowed := true, recurses := true, apart := false, narrowed := true }
def FnExactFactorialAtUptoSaid : Prop := fnExactFactorialAtUptoRow.holds Try.pinned (OpenSpec.upto fnExactFactorialAtSpec)

/-- 'laws.FnExactMultiplyNumbers', WHERE WHAT IT READS IS OF BULK AT MOST 1048576: true; the input reads as it did. -/
def fnExactMultiplyNumbersUptoRow : OpenClaim := { program := "ytlkmbnekaeabaaa", sum := "77317808bbd1dd132f69542e2b55a743bd189be8af7f973996435069521ed3f4", func := "loop.example/g01125/laws.FnExactMultiplyNumbers", spec := "fnExactMultiplyNumbers", apart := false, narrowed := true }
def FnExactMultiplyNumbersUptoSaid : Prop := fnExactMultiplyNumbersUptoRow.holds Try.pinned (OpenSpec.upto fnExactMultiplyNumbersSpec)

end Rows
end Go.Proofs.Ytlkmbnekaeabaaa
