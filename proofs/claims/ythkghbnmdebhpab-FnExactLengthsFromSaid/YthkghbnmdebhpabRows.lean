/-
  No cell of these rows narrows 'for every input' (looked for: loops, veiled, ifaces, maps, wideKeys, modest, calm, conditions, laid).
  DERIVED. THE GIVEN ROWS OF THIS SEAT. 8 by the template 'for every input the law returns true; each argument reads behind the call as it read before'; 0 by the template 'total and deterministic' (their statements: YthkghbnmdebhpabTotals.lean).
  GIVEN WITH THE SEED: the statements are not yours to turn. If you find one false, say at which input.
  Laid BY PROGRAM, IN A SANDBOX (cutbox-rows.mjs): the forced cells as the released guide's own fill.sh prints them over the translation aa0cd5458954a231… (all of the seat's roots in one cut). By AI agents, Wed Nov 11 2026. No macro, syntax, notation, axiom, sorry.
-/
import Derived.Test.YthkghbnmdebhpabChecked
import GoSem.Claim
import GoSem.ClaimJoined
import GoSem.ClaimMapViews
import Derived.JoinedTies
import Derived.KernelRfl
namespace Go.Proofs.Ythkghbnmdebhpab
/- THE CELL 'sum', in the pinned program and in every row, IS THE sha256 OF THE DUMP (.gsa) THAT YthkghbnmdebhpabProg.lean LOADS. Nothing in Lean hashes anything: it is a label: what it is worth is what the hold of that sum in a sandbox is worth. -/
noncomputable def Try.pinned : Pinned := { name := "ythkghbnmdebhpab", sum := "aa0cd5458954a2316ccc1d642fb1447bcc5ba828013a7c9397f4879d59903a02", checked := Try.checked }
namespace Rows
def none {H : Type} : Left H := { results := [], args := [] }

/-- 'laws.FnExactOrderRows': WHATEVER THE INPUT: true; the input reads as it did. -/
def fnExactOrderRowsSpec : ChangeSpec := { name := "fnExactOrderRows", fn := fun _ => fun
  | [d1, d2] => { results := [.lit (.bool true)], args := [d1, d2] }
  | _ => none }
def fnExactOrderRowsRow : OpenClaim := { program := "ythkghbnmdebhpab", sum := "aa0cd5458954a2316ccc1d642fb1447bcc5ba828013a7c9397f4879d59903a02", func := "loop.example/g01125/laws.FnExactOrderRows", spec := "fnExactOrderRows", plainKeys := false, apart := false }
def FnExactOrderRowsSaid : Prop := fnExactOrderRowsRow.holds Try.pinned (OpenSpec.ofChange fnExactOrderRowsSpec)

/-- ITS FALSE NEIGHBOUR: 'it returns false'. Refute it at one input. -/
def fnExactOrderRowsWrong : ChangeSpec := { name := "fnExactOrderRows", fn := fun _ => fun
  | [d1, d2] => { results := [.lit (.bool false)], args := [d1, d2] }
  | _ => none }
def FnExactOrderRowsWrongFalsely : Prop := fnExactOrderRowsRow.holds Try.pinned (OpenSpec.ofChange fnExactOrderRowsWrong)

/-- 'laws.FnExactStaircaseNumbers': WHATEVER THE INPUT: true; the input reads as it did. -/
def fnExactStaircaseNumbersSpec : ChangeSpec := { name := "fnExactStaircaseNumbers", fn := fun _ => fun
  | [d] => { results := [.lit (.bool true)], args := [d] }
  | _ => none }
def fnExactStaircaseNumbersRow : OpenClaim := { program := "ythkghbnmdebhpab", sum := "aa0cd5458954a2316ccc1d642fb1447bcc5ba828013a7c9397f4879d59903a02", func := "loop.example/g01125/laws.FnExactStaircaseNumbers", spec := "fnExactStaircaseNumbers", plainKeys := false, apart := false }
def FnExactStaircaseNumbersSaid : Prop := fnExactStaircaseNumbersRow.holds Try.pinned (OpenSpec.ofChange fnExactStaircaseNumbersSpec)

/-- ITS FALSE NEIGHBOUR: 'it returns false'. Refute it at one input. -/
def fnExactStaircaseNumbersWrong : ChangeSpec := { name := "fnExactStaircaseNumbers", fn := fun _ => fun
  | [d] => { results := [.lit (.bool false)], args := [d] }
  | _ => none }
def FnExactStaircaseNumbersWrongFalsely : Prop := fnExactStaircaseNumbersRow.holds Try.pinned (OpenSpec.ofChange fnExactStaircaseNumbersWrong)

/-- 'laws.FnExactClassOf': WHATEVER THE INPUT: true; the input reads as it did. -/
def fnExactClassOfSpec : ChangeSpec := { name := "fnExactClassOf", fn := fun _ => fun
  | [d] => { results := [.lit (.bool true)], args := [d] }
  | _ => none }
def fnExactClassOfRow : OpenClaim := { program := "ythkghbnmdebhpab", sum := "aa0cd5458954a2316ccc1d642fb1447bcc5ba828013a7c9397f4879d59903a02", func := "loop.example/g01125/laws.FnExactClassOf", spec := "fnExactClassOf", recurses := true, plainKeys := false, apart := false }
def FnExactClassOfSaid : Prop := fnExactClassOfRow.holds Try.pinned (OpenSpec.ofChange fnExactClassOfSpec)

/-- ITS FALSE NEIGHBOUR: 'it returns false'. Refute it at one input. -/
def fnExactClassOfWrong : ChangeSpec := { name := "fnExactClassOf", fn := fun _ => fun
  | [d] => { results := [.lit (.bool false)], args := [d] }
  | _ => none }
def FnExactClassOfWrongFalsely : Prop := fnExactClassOfRow.holds Try.pinned (OpenSpec.ofChange fnExactClassOfWrong)

/-- 'laws.FnExactCountClass': WHATEVER THE INPUT: true; the input reads as it did. -/
def fnExactCountClassSpec : ChangeSpec := { name := "fnExactCountClass", fn := fun _ => fun
  | [d] => { results := [.lit (.bool true)], args := [d] }
  | _ => none }
def fnExactCountClassRow : OpenClaim := { program := "ythkghbnmdebhpab", sum := "aa0cd5458954a2316ccc1d642fb1447bcc5ba828013a7c9397f4879d59903a02", func := "loop.example/g01125/laws.FnExactCountClass", spec := "fnExactCountClass", recurses := true, plainKeys := false, apart := false }
def FnExactCountClassSaid : Prop := fnExactCountClassRow.holds Try.pinned (OpenSpec.ofChange fnExactCountClassSpec)

/-- ITS FALSE NEIGHBOUR: 'it returns false'. Refute it at one input. -/
def fnExactCountClassWrong : ChangeSpec := { name := "fnExactCountClass", fn := fun _ => fun
  | [d] => { results := [.lit (.bool false)], args := [d] }
  | _ => none }
def FnExactCountClassWrongFalsely : Prop := fnExactCountClassRow.holds Try.pinned (OpenSpec.ofChange fnExactCountClassWrong)

/-- 'laws.FnExactLengthsFrom': WHATEVER THE INPUT: true; the input reads as it did. -/
def fnExactLengthsFromSpec : ChangeSpec := { name := "fnExactLengthsFrom", fn := fun _ => fun
  | [d] => { results := [.lit (.bool true)], args := [d] }
  | _ => none }
def fnExactLengthsFromRow : OpenClaim := { program := "ythkghbnmdebhpab", sum := "aa0cd5458954a2316ccc1d642fb1447bcc5ba828013a7c9397f4879d59903a02", func := "loop.example/g01125/laws.FnExactLengthsFrom", spec := "fnExactLengthsFrom", recurses := true, plainKeys := false, apart := false }
def FnExactLengthsFromSaid : Prop := fnExactLengthsFromRow.holds Try.pinned (OpenSpec.ofChange fnExactLengthsFromSpec)

/-- ITS FALSE NEIGHBOUR: 'it returns false'. Refute it at one input. -/
def fnExactLengthsFromWrong : ChangeSpec := { name := "fnExactLengthsFrom", fn := fun _ => fun
  | [d] => { results := [.lit (.bool false)], args := [d] }
  | _ => none }
def FnExactLengthsFromWrongFalsely : Prop := fnExactLengthsFromRow.holds Try.pinned (OpenSpec.ofChange fnExactLengthsFromWrong)

/-- 'laws.FnExactPlacementsOf': WHATEVER THE INPUT: true; the input reads as it did. -/
def fnExactPlacementsOfSpec : ChangeSpec := { name := "fnExactPlacementsOf", fn := fun _ => fun
  | [d1, d2] => { results := [.lit (.bool true)], args := [d1, d2] }
  | _ => none }
def fnExactPlacementsOfRow : OpenClaim := { program := "ythkghbnmdebhpab", sum := "aa0cd5458954a2316ccc1d642fb1447bcc5ba828013a7c9397f4879d59903a02", func := "loop.example/g01125/laws.FnExactPlacementsOf", spec := "fnExactPlacementsOf", unfollowed := true, recurses := true, plainKeys := false, apart := false }
def FnExactPlacementsOfSaid : Prop := fnExactPlacementsOfRow.holds Try.pinned (OpenSpec.ofChange fnExactPlacementsOfSpec)

/-- ITS FALSE NEIGHBOUR: 'it returns false'. Refute it at one input. -/
def fnExactPlacementsOfWrong : ChangeSpec := { name := "fnExactPlacementsOf", fn := fun _ => fun
  | [d1, d2] => { results := [.lit (.bool false)], args := [d1, d2] }
  | _ => none }
def FnExactPlacementsOfWrongFalsely : Prop := fnExactPlacementsOfRow.holds Try.pinned (OpenSpec.ofChange fnExactPlacementsOfWrong)

/-- 'laws.FnExactPlacementWith': WHATEVER THE INPUT: true; the input reads as it did. -/
def fnExactPlacementWithSpec : ChangeSpec := { name := "fnExactPlacementWith", fn := fun _ => fun
  | [d1, d2, d3] => { results := [.lit (.bool true)], args := [d1, d2, d3] }
  | _ => none }
def fnExactPlacementWithRow : OpenClaim := { program := "ythkghbnmdebhpab", sum := "aa0cd5458954a2316ccc1d642fb1447bcc5ba828013a7c9397f4879d59903a02", func := "loop.example/g01125/laws.FnExactPlacementWith", spec := "fnExactPlacementWith", unfollowed := true, recurses := true, plainKeys := false, apart := false }
def FnExactPlacementWithSaid : Prop := fnExactPlacementWithRow.holds Try.pinned (OpenSpec.ofChange fnExactPlacementWithSpec)

/-- ITS FALSE NEIGHBOUR: 'it returns false'. Refute it at one input. -/
def fnExactPlacementWithWrong : ChangeSpec := { name := "fnExactPlacementWith", fn := fun _ => fun
  | [d1, d2, d3] => { results := [.lit (.bool false)], args := [d1, d2, d3] }
  | _ => none }
def FnExactPlacementWithWrongFalsely : Prop := fnExactPlacementWithRow.holds Try.pinned (OpenSpec.ofChange fnExactPlacementWithWrong)

/-- 'laws.FnExactRankPlacement': WHATEVER THE INPUT: true; the input reads as it did. -/
def fnExactRankPlacementSpec : ChangeSpec := { name := "fnExactRankPlacement", fn := fun _ => fun
  | [d1, d2] => { results := [.lit (.bool true)], args := [d1, d2] }
  | _ => none }
def fnExactRankPlacementRow : OpenClaim := { program := "ythkghbnmdebhpab", sum := "aa0cd5458954a2316ccc1d642fb1447bcc5ba828013a7c9397f4879d59903a02", func := "loop.example/g01125/laws.FnExactRankPlacement", spec := "fnExactRankPlacement", unfollowed := true, recurses := true, plainKeys := false, apart := false }
def FnExactRankPlacementSaid : Prop := fnExactRankPlacementRow.holds Try.pinned (OpenSpec.ofChange fnExactRankPlacementSpec)

/-- ITS FALSE NEIGHBOUR: 'it returns false'. Refute it at one input. -/
def fnExactRankPlacementWrong : ChangeSpec := { name := "fnExactRankPlacement", fn := fun _ => fun
  | [d1, d2] => { results := [.lit (.bool false)], args := [d1, d2] }
  | _ => none }
def FnExactRankPlacementWrongFalsely : Prop := fnExactRankPlacementRow.holds Try.pinned (OpenSpec.ofChange fnExactRankPlacementWrong)

/- THE SECOND FORM. 'bulk': how many values and letters a reading holds, each counted each time it is reached (what is shared counts as often as it is met; a slice's spare places count too). A statement '..UptoSaid' is the law's where the arguments, and the package variables that the reading takes, are together of bulk at most 1048576: NARROWER than '..Said'. Prove '..Said' where nothing that the law and all that it calls make is longer than what came in: it says more and counts as full. Else prove '..UptoSaid'. A law counts once. -/
mutual
def uptoBulk {H : Type} : DataW H → Nat
  | .lit (.string bytes) => bytes.length + 1
  | .lit _ => 1
  | .nil => 1
  | .ptr d => uptoBulk d + 1
  | .slice elems spare => uptoBulkAll elems + uptoBulkAll spare + 1
  | .agg parts => uptoBulkAll parts + 1
  | .iface _ d => uptoBulk d + 1
  | .map entries => uptoBulkEntries entries + 1
  | .held _ => 1
def uptoBulkAll {H : Type} : List (DataW H) → Nat
  | [] => 0
  | d :: r => uptoBulk d + uptoBulkAll r
def uptoBulkEntries {H : Type} : List (Lit × DataW H) → Nat
  | [] => 0
  | x :: r => uptoBulkEntry x + uptoBulkEntries r
def uptoBulkEntry {H : Type} : Lit × DataW H → Nat
  | (.string bytes, d) => bytes.length + uptoBulk d + 1
  | (_, d) => uptoBulk d + 1
 end
def uptoSmall : (H : Type) → List (DataW H) → Bool := fun _ ds => decide (uptoBulkAll ds ≤ 1048576)
def OpenSpec.upto (s : _root_.Go.ChangeSpec) : _root_.Go.OpenSpec := { _root_.Go.OpenSpec.ofChange s with cond := some uptoSmall }

/-- 'laws.FnExactOrderRows', WHERE WHAT IT READS IS OF BULK AT MOST 1048576: true; the input reads as it did. -/
def fnExactOrderRowsUptoRow : OpenClaim := { program := "ythkghbnmdebhpab", sum := "aa0cd5458954a2316ccc1d642fb1447bcc5ba828013a7c9397f4879d59903a02", func := "loop.example/g01125/laws.FnExactOrderRows", spec := "fnExactOrderRows", plainKeys := false, apart := false, narrowed := true }
def FnExactOrderRowsUptoSaid : Prop := fnExactOrderRowsUptoRow.holds Try.pinned (OpenSpec.upto fnExactOrderRowsSpec)

/-- 'laws.FnExactStaircaseNumbers', WHERE WHAT IT READS IS OF BULK AT MOST 1048576: true; the input reads as it did. -/
def fnExactStaircaseNumbersUptoRow : OpenClaim := { program := "ythkghbnmdebhpab", sum := "aa0cd5458954a2316ccc1d642fb1447bcc5ba828013a7c9397f4879d59903a02", func := "loop.example/g01125/laws.FnExactStaircaseNumbers", spec := "fnExactStaircaseNumbers", plainKeys := false, apart := false, narrowed := true }
def FnExactStaircaseNumbersUptoSaid : Prop := fnExactStaircaseNumbersUptoRow.holds Try.pinned (OpenSpec.upto fnExactStaircaseNumbersSpec)

/-- 'laws.FnExactClassOf', WHERE WHAT IT READS IS OF BULK AT MOST 1048576: true; the input reads as it did. -/
def fnExactClassOfUptoRow : OpenClaim := { program := "ythkghbnmdebhpab", sum := "aa0cd5458954a2316ccc1d642fb1447bcc5ba828013a7c9397f4879d59903a02", func := "loop.example/g01125/laws.FnExactClassOf", spec := "fnExactClassOf", recurses := true, plainKeys := false, apart := false, narrowed := true }
def FnExactClassOfUptoSaid : Prop := fnExactClassOfUptoRow.holds Try.pinned (OpenSpec.upto fnExactClassOfSpec)

/-- 'laws.FnExactCountClass', WHERE WHAT IT READS IS OF BULK AT MOST 1048576: true; the input reads as it did. -/
def fnExactCountClassUptoRow : OpenClaim := { program := "ythkghbnmdebhpab", sum := "aa0cd5458954a2316ccc1d642fb1447bcc5ba828013a7c9397f4879d59903a02", func := "loop.example/g01125/laws.FnExactCountClass", spec := "fnExactCountClass", recurses := true, plainKeys := false, apart := false, narrowed := true }
def FnExactCountClassUptoSaid : Prop := fnExactCountClassUptoRow.holds Try.pinned (OpenSpec.upto fnExactCountClassSpec)

/-- 'laws.FnExactLengthsFrom', WHERE WHAT IT READS IS OF BULK AT MOST 1048576: true; the input reads as it did. -/
def fnExactLengthsFromUptoRow : OpenClaim := { program := "ythkghbnmdebhpab", sum := "aa0cd5458954a2316ccc1d642fb1447bcc5ba828013a7c9397f4879d59903a02", func := "loop.example/g01125/laws.FnExactLengthsFrom", spec := "fnExactLengthsFrom", recurses := true, plainKeys := false, apart := false, narrowed := true }
def FnExactLengthsFromUptoSaid : Prop := fnExactLengthsFromUptoRow.holds Try.pinned (OpenSpec.upto fnExactLengthsFromSpec)

/-- 'laws.FnExactPlacementsOf', WHERE WHAT IT READS IS OF BULK AT MOST 1048576: true; the input reads as it did. -/
def fnExactPlacementsOfUptoRow : OpenClaim := { program := "ythkghbnmdebhpab", sum := "aa0cd5458954a2316ccc1d642fb1447bcc5ba828013a7c9397f4879d59903a02", func := "loop.example/g01125/laws.FnExactPlacementsOf", spec := "fnExactPlacementsOf", unfollowed := true, recurses := true, plainKeys := false, apart := false, narrowed := true }
def FnExactPlacementsOfUptoSaid : Prop := fnExactPlacementsOfUptoRow.holds Try.pinned (OpenSpec.upto fnExactPlacementsOfSpec)

/-- 'laws.FnExactPlacementWith', WHERE WHAT IT READS IS OF BULK AT MOST 1048576: true; the input reads as it did. -/
def fnExactPlacementWithUptoRow : OpenClaim := { program := "ythkghbnmdebhpab", sum := "aa0cd5458954a2316ccc1d642fb1447bcc5ba828013a7c9397f4879d59903a02", func := "loop.example/g01125/laws.FnExactPlacementWith", spec := "fnExactPlacementWith", unfollowed := true, recurses := true, plainKeys := false, apart := false, narrowed := true }
def FnExactPlacementWithUptoSaid : Prop := fnExactPlacementWithUptoRow.holds Try.pinned (OpenSpec.upto fnExactPlacementWithSpec)

/-- 'laws.FnExactRankPlacement', WHERE WHAT IT READS IS OF BULK AT MOST 1048576: true; the input reads as it did. -/
def fnExactRankPlacementUptoRow : OpenClaim := { program := "ythkghbnmdebhpab", sum := "aa0cd5458954a2316ccc1d642fb1447bcc5ba828013a7c9397f4879d59903a02", func := "loop.example/g01125/laws.FnExactRankPlacement", spec := "fnExactRankPlacement", unfollowed := true, recurses := true, plainKeys := false, apart := false, narrowed := true }
def FnExactRankPlacementUptoSaid : Prop := fnExactRankPlacementUptoRow.holds Try.pinned (OpenSpec.upto fnExactRankPlacementSpec)

end Rows
end Go.Proofs.Ythkghbnmdebhpab
