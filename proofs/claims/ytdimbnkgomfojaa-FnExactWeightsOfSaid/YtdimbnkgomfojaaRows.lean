/-
  No cell of these rows narrows 'for every input' (looked for: loops, veiled, ifaces, maps, wideKeys, modest, calm, conditions, laid).
  DERIVED. THE GIVEN ROWS OF THIS SEAT. 11 by the template 'for every input the law returns true; each argument reads behind the call as it read before'; 0 by the template 'total and deterministic' (their statements: YtdimbnkgomfojaaTotals.lean).
  GIVEN WITH THE SEED: the statements are not yours to turn. If you find one false, say at which input.
  Laid BY PROGRAM, IN A SANDBOX (cutbox-rows.mjs): the forced cells as the released guide's own fill.sh prints them over the translation 5380b04a01d09da4… (all of the seat's roots in one cut). By AI agents, Wed Nov 11 2026. No macro, syntax, notation, axiom, sorry.
-/
import Derived.Test.YtdimbnkgomfojaaChecked
import GoSem.Claim
import GoSem.ClaimJoined
import GoSem.ClaimMapViews
import Derived.JoinedTies
import Derived.KernelRfl
namespace Go.Proofs.Ytdimbnkgomfojaa
/- THE CELL 'sum', in the pinned program and in every row, IS THE sha256 OF THE DUMP (.gsa) THAT YtdimbnkgomfojaaProg.lean LOADS. Nothing in Lean hashes anything: it is a label: what it is worth is what the hold of that sum in a sandbox is worth. -/
noncomputable def Try.pinned : Pinned := { name := "ytdimbnkgomfojaa", sum := "5380b04a01d09da427989b61fff7364e07f7cc2ae46a447b391c9cd03503809c", checked := Try.checked }
namespace Rows
def none {H : Type} : Left H := { results := [], args := [] }

/-- 'laws.FnExactCellsOf': WHATEVER THE INPUT: true; the input reads as it did. -/
def fnExactCellsOfSpec : ChangeSpec := { name := "fnExactCellsOf", fn := fun _ => fun
  | [d] => { results := [.lit (.bool true)], args := [d] }
  | _ => none }
def fnExactCellsOfRow : OpenClaim := { program := "ytdimbnkgomfojaa", sum := "5380b04a01d09da427989b61fff7364e07f7cc2ae46a447b391c9cd03503809c", func := "loop.example/g01125/laws.FnExactCellsOf", spec := "fnExactCellsOf", apart := false }
def FnExactCellsOfSaid : Prop := fnExactCellsOfRow.holds Try.pinned (OpenSpec.ofChange fnExactCellsOfSpec)

/-- ITS FALSE NEIGHBOUR: 'it returns false'. Refute it at one input. -/
def fnExactCellsOfWrong : ChangeSpec := { name := "fnExactCellsOf", fn := fun _ => fun
  | [d] => { results := [.lit (.bool false)], args := [d] }
  | _ => none }
def FnExactCellsOfWrongFalsely : Prop := fnExactCellsOfRow.holds Try.pinned (OpenSpec.ofChange fnExactCellsOfWrong)

/-- 'laws.FnExactMostRooks': WHATEVER THE INPUT: true; the input reads as it did. -/
def fnExactMostRooksSpec : ChangeSpec := { name := "fnExactMostRooks", fn := fun _ => fun
  | [d] => { results := [.lit (.bool true)], args := [d] }
  | _ => none }
def fnExactMostRooksRow : OpenClaim := { program := "ytdimbnkgomfojaa", sum := "5380b04a01d09da427989b61fff7364e07f7cc2ae46a447b391c9cd03503809c", func := "loop.example/g01125/laws.FnExactMostRooks", spec := "fnExactMostRooks", recurses := true, apart := false }
def FnExactMostRooksSaid : Prop := fnExactMostRooksRow.holds Try.pinned (OpenSpec.ofChange fnExactMostRooksSpec)

/-- ITS FALSE NEIGHBOUR: 'it returns false'. Refute it at one input. -/
def fnExactMostRooksWrong : ChangeSpec := { name := "fnExactMostRooks", fn := fun _ => fun
  | [d] => { results := [.lit (.bool false)], args := [d] }
  | _ => none }
def FnExactMostRooksWrongFalsely : Prop := fnExactMostRooksRow.holds Try.pinned (OpenSpec.ofChange fnExactMostRooksWrong)

/-- 'laws.FnExactPlacementsOf': WHATEVER THE INPUT: true; the input reads as it did. -/
def fnExactPlacementsOfSpec : ChangeSpec := { name := "fnExactPlacementsOf", fn := fun _ => fun
  | [d1, d2] => { results := [.lit (.bool true)], args := [d1, d2] }
  | _ => none }
def fnExactPlacementsOfRow : OpenClaim := { program := "ytdimbnkgomfojaa", sum := "5380b04a01d09da427989b61fff7364e07f7cc2ae46a447b391c9cd03503809c", func := "loop.example/g01125/laws.FnExactPlacementsOf", spec := "fnExactPlacementsOf", unfollowed := true, recurses := true, apart := false }
def FnExactPlacementsOfSaid : Prop := fnExactPlacementsOfRow.holds Try.pinned (OpenSpec.ofChange fnExactPlacementsOfSpec)

/-- ITS FALSE NEIGHBOUR: 'it returns false'. Refute it at one input. -/
def fnExactPlacementsOfWrong : ChangeSpec := { name := "fnExactPlacementsOf", fn := fun _ => fun
  | [d1, d2] => { results := [.lit (.bool false)], args := [d1, d2] }
  | _ => none }
def FnExactPlacementsOfWrongFalsely : Prop := fnExactPlacementsOfRow.holds Try.pinned (OpenSpec.ofChange fnExactPlacementsOfWrong)

/-- 'laws.FnExactPlacementWith': WHATEVER THE INPUT: true; the input reads as it did. -/
def fnExactPlacementWithSpec : ChangeSpec := { name := "fnExactPlacementWith", fn := fun _ => fun
  | [d1, d2, d3] => { results := [.lit (.bool true)], args := [d1, d2, d3] }
  | _ => none }
def fnExactPlacementWithRow : OpenClaim := { program := "ytdimbnkgomfojaa", sum := "5380b04a01d09da427989b61fff7364e07f7cc2ae46a447b391c9cd03503809c", func := "loop.example/g01125/laws.FnExactPlacementWith", spec := "fnExactPlacementWith", unfollowed := true, recurses := true, apart := false }
def FnExactPlacementWithSaid : Prop := fnExactPlacementWithRow.holds Try.pinned (OpenSpec.ofChange fnExactPlacementWithSpec)

/-- ITS FALSE NEIGHBOUR: 'it returns false'. Refute it at one input. -/
def fnExactPlacementWithWrong : ChangeSpec := { name := "fnExactPlacementWith", fn := fun _ => fun
  | [d1, d2, d3] => { results := [.lit (.bool false)], args := [d1, d2, d3] }
  | _ => none }
def FnExactPlacementWithWrongFalsely : Prop := fnExactPlacementWithRow.holds Try.pinned (OpenSpec.ofChange fnExactPlacementWithWrong)

/-- 'laws.FnExactRankPlacement': WHATEVER THE INPUT: true; the input reads as it did. -/
def fnExactRankPlacementSpec : ChangeSpec := { name := "fnExactRankPlacement", fn := fun _ => fun
  | [d1, d2] => { results := [.lit (.bool true)], args := [d1, d2] }
  | _ => none }
def fnExactRankPlacementRow : OpenClaim := { program := "ytdimbnkgomfojaa", sum := "5380b04a01d09da427989b61fff7364e07f7cc2ae46a447b391c9cd03503809c", func := "loop.example/g01125/laws.FnExactRankPlacement", spec := "fnExactRankPlacement", unfollowed := true, recurses := true, apart := false }
def FnExactRankPlacementSaid : Prop := fnExactRankPlacementRow.holds Try.pinned (OpenSpec.ofChange fnExactRankPlacementSpec)

/-- ITS FALSE NEIGHBOUR: 'it returns false'. Refute it at one input. -/
def fnExactRankPlacementWrong : ChangeSpec := { name := "fnExactRankPlacement", fn := fun _ => fun
  | [d1, d2] => { results := [.lit (.bool false)], args := [d1, d2] }
  | _ => none }
def FnExactRankPlacementWrongFalsely : Prop := fnExactRankPlacementRow.holds Try.pinned (OpenSpec.ofChange fnExactRankPlacementWrong)

/-- 'laws.FnExactCountWithCell': WHATEVER THE INPUT: true; the input reads as it did. -/
def fnExactCountWithCellSpec : ChangeSpec := { name := "fnExactCountWithCell", fn := fun _ => fun
  | [d1, d2, d3, d4] => { results := [.lit (.bool true)], args := [d1, d2, d3, d4] }
  | _ => none }
def fnExactCountWithCellRow : OpenClaim := { program := "ytdimbnkgomfojaa", sum := "5380b04a01d09da427989b61fff7364e07f7cc2ae46a447b391c9cd03503809c", func := "loop.example/g01125/laws.FnExactCountWithCell", spec := "fnExactCountWithCell", unfollowed := true, recurses := true, apart := false }
def FnExactCountWithCellSaid : Prop := fnExactCountWithCellRow.holds Try.pinned (OpenSpec.ofChange fnExactCountWithCellSpec)

/-- ITS FALSE NEIGHBOUR: 'it returns false'. Refute it at one input. -/
def fnExactCountWithCellWrong : ChangeSpec := { name := "fnExactCountWithCell", fn := fun _ => fun
  | [d1, d2, d3, d4] => { results := [.lit (.bool false)], args := [d1, d2, d3, d4] }
  | _ => none }
def FnExactCountWithCellWrongFalsely : Prop := fnExactCountWithCellRow.holds Try.pinned (OpenSpec.ofChange fnExactCountWithCellWrong)

/-- 'laws.FnExactTurnPlacement': WHATEVER THE INPUT: true; the input reads as it did. -/
def fnExactTurnPlacementSpec : ChangeSpec := { name := "fnExactTurnPlacement", fn := fun _ => fun
  | [d1, d2] => { results := [.lit (.bool true)], args := [d1, d2] }
  | _ => none }
def fnExactTurnPlacementRow : OpenClaim := { program := "ytdimbnkgomfojaa", sum := "5380b04a01d09da427989b61fff7364e07f7cc2ae46a447b391c9cd03503809c", func := "loop.example/g01125/laws.FnExactTurnPlacement", spec := "fnExactTurnPlacement", apart := false }
def FnExactTurnPlacementSaid : Prop := fnExactTurnPlacementRow.holds Try.pinned (OpenSpec.ofChange fnExactTurnPlacementSpec)

/-- ITS FALSE NEIGHBOUR: 'it returns false'. Refute it at one input. -/
def fnExactTurnPlacementWrong : ChangeSpec := { name := "fnExactTurnPlacement", fn := fun _ => fun
  | [d1, d2] => { results := [.lit (.bool false)], args := [d1, d2] }
  | _ => none }
def FnExactTurnPlacementWrongFalsely : Prop := fnExactTurnPlacementRow.holds Try.pinned (OpenSpec.ofChange fnExactTurnPlacementWrong)

/-- 'laws.FnExactOrderOf': WHATEVER THE INPUT: true; the input reads as it did. -/
def fnExactOrderOfSpec : ChangeSpec := { name := "fnExactOrderOf", fn := fun _ => fun
  | [d] => { results := [.lit (.bool true)], args := [d] }
  | _ => none }
def fnExactOrderOfRow : OpenClaim := { program := "ytdimbnkgomfojaa", sum := "5380b04a01d09da427989b61fff7364e07f7cc2ae46a447b391c9cd03503809c", func := "loop.example/g01125/laws.FnExactOrderOf", spec := "fnExactOrderOf", unfollowed := true, recurses := true, apart := false }
def FnExactOrderOfSaid : Prop := fnExactOrderOfRow.holds Try.pinned (OpenSpec.ofChange fnExactOrderOfSpec)

/-- ITS FALSE NEIGHBOUR: 'it returns false'. Refute it at one input. -/
def fnExactOrderOfWrong : ChangeSpec := { name := "fnExactOrderOf", fn := fun _ => fun
  | [d] => { results := [.lit (.bool false)], args := [d] }
  | _ => none }
def FnExactOrderOfWrongFalsely : Prop := fnExactOrderOfRow.holds Try.pinned (OpenSpec.ofChange fnExactOrderOfWrong)

/-- 'laws.FnExactPermutationsHitting': WHATEVER THE INPUT: true; the input reads as it did. -/
def fnExactPermutationsHittingSpec : ChangeSpec := { name := "fnExactPermutationsHitting", fn := fun _ => fun
  | [d1, d2] => { results := [.lit (.bool true)], args := [d1, d2] }
  | _ => none }
def fnExactPermutationsHittingRow : OpenClaim := { program := "ytdimbnkgomfojaa", sum := "5380b04a01d09da427989b61fff7364e07f7cc2ae46a447b391c9cd03503809c", func := "loop.example/g01125/laws.FnExactPermutationsHitting", spec := "fnExactPermutationsHitting", unfollowed := true, recurses := true, apart := false }
def FnExactPermutationsHittingSaid : Prop := fnExactPermutationsHittingRow.holds Try.pinned (OpenSpec.ofChange fnExactPermutationsHittingSpec)

/-- ITS FALSE NEIGHBOUR: 'it returns false'. Refute it at one input. -/
def fnExactPermutationsHittingWrong : ChangeSpec := { name := "fnExactPermutationsHitting", fn := fun _ => fun
  | [d1, d2] => { results := [.lit (.bool false)], args := [d1, d2] }
  | _ => none }
def FnExactPermutationsHittingWrongFalsely : Prop := fnExactPermutationsHittingRow.holds Try.pinned (OpenSpec.ofChange fnExactPermutationsHittingWrong)

/-- 'laws.FnExactFirstHitting': WHATEVER THE INPUT: true; the input reads as it did. -/
def fnExactFirstHittingSpec : ChangeSpec := { name := "fnExactFirstHitting", fn := fun _ => fun
  | [d1, d2] => { results := [.lit (.bool true)], args := [d1, d2] }
  | _ => none }
def fnExactFirstHittingRow : OpenClaim := { program := "ytdimbnkgomfojaa", sum := "5380b04a01d09da427989b61fff7364e07f7cc2ae46a447b391c9cd03503809c", func := "loop.example/g01125/laws.FnExactFirstHitting", spec := "fnExactFirstHitting", unfollowed := true, recurses := true, apart := false }
def FnExactFirstHittingSaid : Prop := fnExactFirstHittingRow.holds Try.pinned (OpenSpec.ofChange fnExactFirstHittingSpec)

/-- ITS FALSE NEIGHBOUR: 'it returns false'. Refute it at one input. -/
def fnExactFirstHittingWrong : ChangeSpec := { name := "fnExactFirstHitting", fn := fun _ => fun
  | [d1, d2] => { results := [.lit (.bool false)], args := [d1, d2] }
  | _ => none }
def FnExactFirstHittingWrongFalsely : Prop := fnExactFirstHittingRow.holds Try.pinned (OpenSpec.ofChange fnExactFirstHittingWrong)

/-- 'laws.FnExactWeightsOf': WHATEVER THE INPUT: true; the input reads as it did. -/
def fnExactWeightsOfSpec : ChangeSpec := { name := "fnExactWeightsOf", fn := fun _ => fun
  | [d1, d2] => { results := [.lit (.bool true)], args := [d1, d2] }
  | _ => none }
def fnExactWeightsOfRow : OpenClaim := { program := "ytdimbnkgomfojaa", sum := "5380b04a01d09da427989b61fff7364e07f7cc2ae46a447b391c9cd03503809c", func := "loop.example/g01125/laws.FnExactWeightsOf", spec := "fnExactWeightsOf", unfollowed := true, recurses := true, apart := false }
def FnExactWeightsOfSaid : Prop := fnExactWeightsOfRow.holds Try.pinned (OpenSpec.ofChange fnExactWeightsOfSpec)

/-- ITS FALSE NEIGHBOUR: 'it returns false'. Refute it at one input. -/
def fnExactWeightsOfWrong : ChangeSpec := { name := "fnExactWeightsOf", fn := fun _ => fun
  | [d1, d2] => { results := [.lit (.bool false)], args := [d1, d2] }
  | _ => none }
def FnExactWeightsOfWrongFalsely : Prop := fnExactWeightsOfRow.holds Try.pinned (OpenSpec.ofChange fnExactWeightsOfWrong)

/- THE SECOND FORM. 'bulk': how many values and letters a reading holds, each counted each time it is reached (what is shared counts as often as it is met; a slice's spare places count too). A statement '..UptoSaid' is the law's where the arguments, and the package variables that the reading takes, are together of bulk at most 1048576: NARROWER than '..Said'. Prove '..Said' where nothing that the law and all that it calls make is longer than what came in: it says more and counts as full. Else prove '..UptoSaid'. A law counts once. -/
mutual
def uptoBulk {H : Type} : DataW H → Nat
  | .lit (.string bytes) => bytes.length + 1
  | .lit _ => 1
  | .nil => 1
  | .ptr d => uptoBulk d + 1
  | .slice elems spare => uptoBulkAll elems + uptoBulkAll spare + 1
  | .agg parts => uptoBulkAll parts + 1
  | .iface _ d => uptoBulk d + 1
  | .map entries => uptoBulkEntries entries + 1
  | .held _ => 1
def uptoBulkAll {H : Type} : List (DataW H) → Nat
  | [] => 0
  | d :: r => uptoBulk d + uptoBulkAll r
def uptoBulkEntries {H : Type} : List (Lit × DataW H) → Nat
  | [] => 0
  | x :: r => uptoBulkEntry x + uptoBulkEntries r
def uptoBulkEntry {H : Type} : Lit × DataW H → Nat
  | (.string bytes, d) => bytes.length + uptoBulk d + 1
  | (_, d) => uptoBulk d + 1
 end
def uptoSmall : (H : Type) → List (DataW H) → Bool := fun _ ds => decide (uptoBulkAll ds ≤ 1048576)
def OpenSpec.upto (s : _root_.Go.ChangeSpec) : _root_.Go.OpenSpec := { _root_.Go.OpenSpec.ofChange s with cond := some uptoSmall }

/-- 'laws.FnExactCellsOf', WHERE WHAT IT READS IS OF BULK AT MOST 1048576: true; the input reads as it did. -/
def fnExactCellsOfUptoRow : OpenClaim := { program := "ytdimbnkgomfojaa", sum := "5380b04a01d09da427989b61fff7364e07f7cc2ae46a447b391c9cd03503809c", func := "loop.example/g01125/laws.FnExactCellsOf", spec := "fnExactCellsOf", apart := false, narrowed := true }
def FnExactCellsOfUptoSaid : Prop := fnExactCellsOfUptoRow.holds Try.pinned (OpenSpec.upto fnExactCellsOfSpec)

/-- 'laws.FnExactMostRooks', WHERE WHAT IT READS IS OF BULK AT MOST 1048576: true; the input reads as it did. -/
def fnExactMostRooksUptoRow : OpenClaim := { program := "ytdimbnkgomfojaa", sum := "5380b04a01d09da427989b61fff7364e07f7cc2ae46a447b391c9cd03503809c", func := "loop.example/g01125/laws.FnExactMostRooks", spec := "fnExactMostRooks", recurses := true, apart := false, narrowed := true }
def FnExactMostRooksUptoSaid : Prop := fnExactMostRooksUptoRow.holds Try.pinned (OpenSpec.upto fnExactMostRooksSpec)

/-- 'laws.FnExactPlacementsOf', WHERE WHAT IT READS IS OF BULK AT MOST 1048576: true; the input reads as it did. -/
def fnExactPlacementsOfUptoRow : OpenClaim := { program := "ytdimbnkgomfojaa", sum := "5380b04a01d09da427989b61fff7364e07f7cc2ae46a447b391c9cd03503809c", func := "loop.example/g01125/laws.FnExactPlacementsOf", spec := "fnExactPlacementsOf", unfollowed := true, recurses := true, apart := false, narrowed := true }
def FnExactPlacementsOfUptoSaid : Prop := fnExactPlacementsOfUptoRow.holds Try.pinned (OpenSpec.upto fnExactPlacementsOfSpec)

/-- 'laws.FnExactPlacementWith', WHERE WHAT IT READS IS OF BULK AT MOST 1048576: true; the input reads as it did. -/
def fnExactPlacementWithUptoRow : OpenClaim := { program := "ytdimbnkgomfojaa", sum := "5380b04a01d09da427989b61fff7364e07f7cc2ae46a447b391c9cd03503809c", func := "loop.example/g01125/laws.FnExactPlacementWith", spec := "fnExactPlacementWith", unfollowed := true, recurses := true, apart := false, narrowed := true }
def FnExactPlacementWithUptoSaid : Prop := fnExactPlacementWithUptoRow.holds Try.pinned (OpenSpec.upto fnExactPlacementWithSpec)

/-- 'laws.FnExactRankPlacement', WHERE WHAT IT READS IS OF BULK AT MOST 1048576: true; the input reads as it did. -/
def fnExactRankPlacementUptoRow : OpenClaim := { program := "ytdimbnkgomfojaa", sum := "5380b04a01d09da427989b61fff7364e07f7cc2ae46a447b391c9cd03503809c", func := "loop.example/g01125/laws.FnExactRankPlacement", spec := "fnExactRankPlacement", unfollowed := true, recurses := true, apart := false, narrowed := true }
def FnExactRankPlacementUptoSaid : Prop := fnExactRankPlacementUptoRow.holds Try.pinned (OpenSpec.upto fnExactRankPlacementSpec)

/-- 'laws.FnExactCountWithCell', WHERE WHAT IT READS IS OF BULK AT MOST 1048576: true; the input reads as it did. -/
def fnExactCountWithCellUptoRow : OpenClaim := { program := "ytdimbnkgomfojaa", sum := "5380b04a01d09da427989b61fff7364e07f7cc2ae46a447b391c9cd03503809c", func := "loop.example/g01125/laws.FnExactCountWithCell", spec := "fnExactCountWithCell", unfollowed := true, recurses := true, apart := false, narrowed := true }
def FnExactCountWithCellUptoSaid : Prop := fnExactCountWithCellUptoRow.holds Try.pinned (OpenSpec.upto fnExactCountWithCellSpec)

/-- 'laws.FnExactTurnPlacement', WHERE WHAT IT READS IS OF BULK AT MOST 1048576: true; the input reads as it did. -/
def fnExactTurnPlacementUptoRow : OpenClaim := { program := "ytdimbnkgomfojaa", sum := "5380b04a01d09da427989b61fff7364e07f7cc2ae46a447b391c9cd03503809c", func := "loop.example/g01125/laws.FnExactTurnPlacement", spec := "fnExactTurnPlacement", apart := false, narrowed := true }
def FnExactTurnPlacementUptoSaid : Prop := fnExactTurnPlacementUptoRow.holds Try.pinned (OpenSpec.upto fnExactTurnPlacementSpec)

/-- 'laws.FnExactOrderOf', WHERE WHAT IT READS IS OF BULK AT MOST 1048576: true; the input reads as it did. -/
def fnExactOrderOfUptoRow : OpenClaim := { program := "ytdimbnkgomfojaa", sum := "5380b04a01d09da427989b61fff7364e07f7cc2ae46a447b391c9cd03503809c", func := "loop.example/g01125/laws.FnExactOrderOf", spec := "fnExactOrderOf", unfollowed := true, recurses := true, apart := false, narrowed := true }
def FnExactOrderOfUptoSaid : Prop := fnExactOrderOfUptoRow.holds Try.pinned (OpenSpec.upto fnExactOrderOfSpec)

/-- 'laws.FnExactPermutationsHitting', WHERE WHAT IT READS IS OF BULK AT MOST 1048576: true; the input reads as it did. -/
def fnExactPermutationsHittingUptoRow : OpenClaim := { program := "ytdimbnkgomfojaa", sum := "5380b04a01d09da427989b61fff7364e07f7cc2ae46a447b391c9cd03503809c", func := "loop.example/g01125/laws.FnExactPermutationsHitting", spec := "fnExactPermutationsHitting", unfollowed := true, recurses := true, apart := false, narrowed := true }
def FnExactPermutationsHittingUptoSaid : Prop := fnExactPermutationsHittingUptoRow.holds Try.pinned (OpenSpec.upto fnExactPermutationsHittingSpec)

/-- 'laws.FnExactFirstHitting', WHERE WHAT IT READS IS OF BULK AT MOST 1048576: true; the input reads as it did. -/
def fnExactFirstHittingUptoRow : OpenClaim := { program := "ytdimbnkgomfojaa", sum := "5380b04a01d09da427989b61fff7364e07f7cc2ae46a447b391c9cd03503809c", func := "loop.example/g01125/laws.FnExactFirstHitting", spec := "fnExactFirstHitting", unfollowed := true, recurses := true, apart := false, narrowed := true }
def FnExactFirstHittingUptoSaid : Prop := fnExactFirstHittingUptoRow.holds Try.pinned (OpenSpec.upto fnExactFirstHittingSpec)

/-- 'laws.FnExactWeightsOf', WHERE WHAT IT READS IS OF BULK AT MOST 1048576: true; the input reads as it did. -/
def fnExactWeightsOfUptoRow : OpenClaim := { program := "ytdimbnkgomfojaa", sum := "5380b04a01d09da427989b61fff7364e07f7cc2ae46a447b391c9cd03503809c", func := "loop.example/g01125/laws.FnExactWeightsOf", spec := "fnExactWeightsOf", unfollowed := true, recurses := true, apart := false, narrowed := true }
def FnExactWeightsOfUptoSaid : Prop := fnExactWeightsOfUptoRow.holds Try.pinned (OpenSpec.upto fnExactWeightsOfSpec)

end Rows
end Go.Proofs.Ytdimbnkgomfojaa
