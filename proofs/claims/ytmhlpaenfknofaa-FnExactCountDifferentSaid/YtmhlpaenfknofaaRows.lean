/-
  No cell of these rows narrows 'for every input' (looked for: loops, veiled, ifaces, maps, wideKeys, modest, calm, conditions, laid).
  DERIVED. THE GIVEN ROWS OF THIS SEAT. 12 by the template 'for every input the law returns true; each argument reads behind the call as it read before'; 0 by the template 'total and deterministic' (their statements: YtmhlpaenfknofaaTotals.lean).
  GIVEN WITH THE SEED: the statements are not yours to turn. If you find one false, say at which input.
  Laid BY PROGRAM, IN A SANDBOX (cutbox-rows.mjs): the forced cells as the released guide's own fill.sh prints them over the translation 2441348a5578caa4… (all of the seat's roots in one cut). By AI agents, Wed Nov 11 2026. No macro, syntax, notation, axiom, sorry.
-/
import Derived.Test.YtmhlpaenfknofaaChecked
import GoSem.Claim
import GoSem.ClaimJoined
import GoSem.ClaimMapViews
import Derived.JoinedTies
import Derived.KernelRfl
namespace Go.Proofs.Ytmhlpaenfknofaa
/- THE CELL 'sum', in the pinned program and in every row, IS THE sha256 OF THE DUMP (.gsa) THAT YtmhlpaenfknofaaProg.lean LOADS. Nothing in Lean hashes anything: it is a label: what it is worth is what the hold of that sum in a sandbox is worth. -/
noncomputable def Try.pinned : Pinned := { name := "ytmhlpaenfknofaa", sum := "2441348a5578caa4aa41a3837ae906b915e55d483a99185477b28511d2bb4f0f", checked := Try.checked }
namespace Rows
def none {H : Type} : Left H := { results := [], args := [] }

/-- 'laws.FnExactAreQueens': WHATEVER THE INPUT: true; the input reads as it did. -/
def fnExactAreQueensSpec : ChangeSpec := { name := "fnExactAreQueens", fn := fun _ => fun
  | [d] => { results := [.lit (.bool true)], args := [d] }
  | _ => none }
def fnExactAreQueensRow : OpenClaim := { program := "ytmhlpaenfknofaa", sum := "2441348a5578caa4aa41a3837ae906b915e55d483a99185477b28511d2bb4f0f", func := "loop.example/g01125/laws.FnExactAreQueens", spec := "fnExactAreQueens", unfollowed := true, recurses := true, apart := false }
def FnExactAreQueensSaid : Prop := fnExactAreQueensRow.holds Try.pinned (OpenSpec.ofChange fnExactAreQueensSpec)

/-- ITS FALSE NEIGHBOUR: 'it returns false'. Refute it at one input. -/
def fnExactAreQueensWrong : ChangeSpec := { name := "fnExactAreQueens", fn := fun _ => fun
  | [d] => { results := [.lit (.bool false)], args := [d] }
  | _ => none }
def FnExactAreQueensWrongFalsely : Prop := fnExactAreQueensRow.holds Try.pinned (OpenSpec.ofChange fnExactAreQueensWrong)

/-- 'laws.FnExactAttacksOf': WHATEVER THE INPUT: true; the input reads as it did. -/
def fnExactAttacksOfSpec : ChangeSpec := { name := "fnExactAttacksOf", fn := fun _ => fun
  | [d] => { results := [.lit (.bool true)], args := [d] }
  | _ => none }
def fnExactAttacksOfRow : OpenClaim := { program := "ytmhlpaenfknofaa", sum := "2441348a5578caa4aa41a3837ae906b915e55d483a99185477b28511d2bb4f0f", func := "loop.example/g01125/laws.FnExactAttacksOf", spec := "fnExactAttacksOf", unfollowed := true, recurses := true, apart := false }
def FnExactAttacksOfSaid : Prop := fnExactAttacksOfRow.holds Try.pinned (OpenSpec.ofChange fnExactAttacksOfSpec)

/-- ITS FALSE NEIGHBOUR: 'it returns false'. Refute it at one input. -/
def fnExactAttacksOfWrong : ChangeSpec := { name := "fnExactAttacksOf", fn := fun _ => fun
  | [d] => { results := [.lit (.bool false)], args := [d] }
  | _ => none }
def FnExactAttacksOfWrongFalsely : Prop := fnExactAttacksOfRow.holds Try.pinned (OpenSpec.ofChange fnExactAttacksOfWrong)

/-- 'laws.FnExactAreOnTorus': WHATEVER THE INPUT: true; the input reads as it did. -/
def fnExactAreOnTorusSpec : ChangeSpec := { name := "fnExactAreOnTorus", fn := fun _ => fun
  | [d] => { results := [.lit (.bool true)], args := [d] }
  | _ => none }
def fnExactAreOnTorusRow : OpenClaim := { program := "ytmhlpaenfknofaa", sum := "2441348a5578caa4aa41a3837ae906b915e55d483a99185477b28511d2bb4f0f", func := "loop.example/g01125/laws.FnExactAreOnTorus", spec := "fnExactAreOnTorus", unfollowed := true, recurses := true, apart := false }
def FnExactAreOnTorusSaid : Prop := fnExactAreOnTorusRow.holds Try.pinned (OpenSpec.ofChange fnExactAreOnTorusSpec)

/-- ITS FALSE NEIGHBOUR: 'it returns false'. Refute it at one input. -/
def fnExactAreOnTorusWrong : ChangeSpec := { name := "fnExactAreOnTorus", fn := fun _ => fun
  | [d] => { results := [.lit (.bool false)], args := [d] }
  | _ => none }
def FnExactAreOnTorusWrongFalsely : Prop := fnExactAreOnTorusRow.holds Try.pinned (OpenSpec.ofChange fnExactAreOnTorusWrong)

/-- 'laws.FnExactCountQueens': WHATEVER THE INPUT: true; the input reads as it did. -/
def fnExactCountQueensSpec : ChangeSpec := { name := "fnExactCountQueens", fn := fun _ => fun
  | [d] => { results := [.lit (.bool true)], args := [d] }
  | _ => none }
def fnExactCountQueensRow : OpenClaim := { program := "ytmhlpaenfknofaa", sum := "2441348a5578caa4aa41a3837ae906b915e55d483a99185477b28511d2bb4f0f", func := "loop.example/g01125/laws.FnExactCountQueens", spec := "fnExactCountQueens", unfollowed := true, recurses := true, apart := false }
def FnExactCountQueensSaid : Prop := fnExactCountQueensRow.holds Try.pinned (OpenSpec.ofChange fnExactCountQueensSpec)

/-- ITS FALSE NEIGHBOUR: 'it returns false'. Refute it at one input. -/
def fnExactCountQueensWrong : ChangeSpec := { name := "fnExactCountQueens", fn := fun _ => fun
  | [d] => { results := [.lit (.bool false)], args := [d] }
  | _ => none }
def FnExactCountQueensWrongFalsely : Prop := fnExactCountQueensRow.holds Try.pinned (OpenSpec.ofChange fnExactCountQueensWrong)

/-- 'laws.FnExactAllQueens': WHATEVER THE INPUT: true; the input reads as it did. -/
def fnExactAllQueensSpec : ChangeSpec := { name := "fnExactAllQueens", fn := fun _ => fun
  | [d] => { results := [.lit (.bool true)], args := [d] }
  | _ => none }
def fnExactAllQueensRow : OpenClaim := { program := "ytmhlpaenfknofaa", sum := "2441348a5578caa4aa41a3837ae906b915e55d483a99185477b28511d2bb4f0f", func := "loop.example/g01125/laws.FnExactAllQueens", spec := "fnExactAllQueens", unfollowed := true, recurses := true, apart := false }
def FnExactAllQueensSaid : Prop := fnExactAllQueensRow.holds Try.pinned (OpenSpec.ofChange fnExactAllQueensSpec)

/-- ITS FALSE NEIGHBOUR: 'it returns false'. Refute it at one input. -/
def fnExactAllQueensWrong : ChangeSpec := { name := "fnExactAllQueens", fn := fun _ => fun
  | [d] => { results := [.lit (.bool false)], args := [d] }
  | _ => none }
def FnExactAllQueensWrongFalsely : Prop := fnExactAllQueensRow.holds Try.pinned (OpenSpec.ofChange fnExactAllQueensWrong)

/-- 'laws.FnExactFirstQueens': WHATEVER THE INPUT: true; the input reads as it did. -/
def fnExactFirstQueensSpec : ChangeSpec := { name := "fnExactFirstQueens", fn := fun _ => fun
  | [d] => { results := [.lit (.bool true)], args := [d] }
  | _ => none }
def fnExactFirstQueensRow : OpenClaim := { program := "ytmhlpaenfknofaa", sum := "2441348a5578caa4aa41a3837ae906b915e55d483a99185477b28511d2bb4f0f", func := "loop.example/g01125/laws.FnExactFirstQueens", spec := "fnExactFirstQueens", unfollowed := true, recurses := true, apart := false }
def FnExactFirstQueensSaid : Prop := fnExactFirstQueensRow.holds Try.pinned (OpenSpec.ofChange fnExactFirstQueensSpec)

/-- ITS FALSE NEIGHBOUR: 'it returns false'. Refute it at one input. -/
def fnExactFirstQueensWrong : ChangeSpec := { name := "fnExactFirstQueens", fn := fun _ => fun
  | [d] => { results := [.lit (.bool false)], args := [d] }
  | _ => none }
def FnExactFirstQueensWrongFalsely : Prop := fnExactFirstQueensRow.holds Try.pinned (OpenSpec.ofChange fnExactFirstQueensWrong)

/-- 'laws.FnExactCountGoingOn': WHATEVER THE INPUT: true; the input reads as it did. -/
def fnExactCountGoingOnSpec : ChangeSpec := { name := "fnExactCountGoingOn", fn := fun _ => fun
  | [d1, d2] => { results := [.lit (.bool true)], args := [d1, d2] }
  | _ => none }
def fnExactCountGoingOnRow : OpenClaim := { program := "ytmhlpaenfknofaa", sum := "2441348a5578caa4aa41a3837ae906b915e55d483a99185477b28511d2bb4f0f", func := "loop.example/g01125/laws.FnExactCountGoingOn", spec := "fnExactCountGoingOn", unfollowed := true, recurses := true, apart := false }
def FnExactCountGoingOnSaid : Prop := fnExactCountGoingOnRow.holds Try.pinned (OpenSpec.ofChange fnExactCountGoingOnSpec)

/-- ITS FALSE NEIGHBOUR: 'it returns false'. Refute it at one input. -/
def fnExactCountGoingOnWrong : ChangeSpec := { name := "fnExactCountGoingOn", fn := fun _ => fun
  | [d1, d2] => { results := [.lit (.bool false)], args := [d1, d2] }
  | _ => none }
def FnExactCountGoingOnWrongFalsely : Prop := fnExactCountGoingOnRow.holds Try.pinned (OpenSpec.ofChange fnExactCountGoingOnWrong)

/-- 'laws.FnExactCountDifferent': WHATEVER THE INPUT: true; the input reads as it did. -/
def fnExactCountDifferentSpec : ChangeSpec := { name := "fnExactCountDifferent", fn := fun _ => fun
  | [d] => { results := [.lit (.bool true)], args := [d] }
  | _ => none }
def fnExactCountDifferentRow : OpenClaim := { program := "ytmhlpaenfknofaa", sum := "2441348a5578caa4aa41a3837ae906b915e55d483a99185477b28511d2bb4f0f", func := "loop.example/g01125/laws.FnExactCountDifferent", spec := "fnExactCountDifferent", unfollowed := true, recurses := true, apart := false }
def FnExactCountDifferentSaid : Prop := fnExactCountDifferentRow.holds Try.pinned (OpenSpec.ofChange fnExactCountDifferentSpec)

/-- ITS FALSE NEIGHBOUR: 'it returns false'. Refute it at one input. -/
def fnExactCountDifferentWrong : ChangeSpec := { name := "fnExactCountDifferent", fn := fun _ => fun
  | [d] => { results := [.lit (.bool false)], args := [d] }
  | _ => none }
def FnExactCountDifferentWrongFalsely : Prop := fnExactCountDifferentRow.holds Try.pinned (OpenSpec.ofChange fnExactCountDifferentWrong)

/-- 'laws.FnExactCountOnTorus': WHATEVER THE INPUT: true; the input reads as it did. -/
def fnExactCountOnTorusSpec : ChangeSpec := { name := "fnExactCountOnTorus", fn := fun _ => fun
  | [d] => { results := [.lit (.bool true)], args := [d] }
  | _ => none }
def fnExactCountOnTorusRow : OpenClaim := { program := "ytmhlpaenfknofaa", sum := "2441348a5578caa4aa41a3837ae906b915e55d483a99185477b28511d2bb4f0f", func := "loop.example/g01125/laws.FnExactCountOnTorus", spec := "fnExactCountOnTorus", unfollowed := true, recurses := true, apart := false }
def FnExactCountOnTorusSaid : Prop := fnExactCountOnTorusRow.holds Try.pinned (OpenSpec.ofChange fnExactCountOnTorusSpec)

/-- ITS FALSE NEIGHBOUR: 'it returns false'. Refute it at one input. -/
def fnExactCountOnTorusWrong : ChangeSpec := { name := "fnExactCountOnTorus", fn := fun _ => fun
  | [d] => { results := [.lit (.bool false)], args := [d] }
  | _ => none }
def FnExactCountOnTorusWrongFalsely : Prop := fnExactCountOnTorusRow.holds Try.pinned (OpenSpec.ofChange fnExactCountOnTorusWrong)

/-- 'laws.FnExactTurnQueens': WHATEVER THE INPUT: true; the input reads as it did. -/
def fnExactTurnQueensSpec : ChangeSpec := { name := "fnExactTurnQueens", fn := fun _ => fun
  | [d] => { results := [.lit (.bool true)], args := [d] }
  | _ => none }
def fnExactTurnQueensRow : OpenClaim := { program := "ytmhlpaenfknofaa", sum := "2441348a5578caa4aa41a3837ae906b915e55d483a99185477b28511d2bb4f0f", func := "loop.example/g01125/laws.FnExactTurnQueens", spec := "fnExactTurnQueens", apart := false }
def FnExactTurnQueensSaid : Prop := fnExactTurnQueensRow.holds Try.pinned (OpenSpec.ofChange fnExactTurnQueensSpec)

/-- ITS FALSE NEIGHBOUR: 'it returns false'. Refute it at one input. -/
def fnExactTurnQueensWrong : ChangeSpec := { name := "fnExactTurnQueens", fn := fun _ => fun
  | [d] => { results := [.lit (.bool false)], args := [d] }
  | _ => none }
def FnExactTurnQueensWrongFalsely : Prop := fnExactTurnQueensRow.holds Try.pinned (OpenSpec.ofChange fnExactTurnQueensWrong)

/-- 'laws.FnExactMirrorQueens': WHATEVER THE INPUT: true; the input reads as it did. -/
def fnExactMirrorQueensSpec : ChangeSpec := { name := "fnExactMirrorQueens", fn := fun _ => fun
  | [d] => { results := [.lit (.bool true)], args := [d] }
  | _ => none }
def fnExactMirrorQueensRow : OpenClaim := { program := "ytmhlpaenfknofaa", sum := "2441348a5578caa4aa41a3837ae906b915e55d483a99185477b28511d2bb4f0f", func := "loop.example/g01125/laws.FnExactMirrorQueens", spec := "fnExactMirrorQueens", apart := false }
def FnExactMirrorQueensSaid : Prop := fnExactMirrorQueensRow.holds Try.pinned (OpenSpec.ofChange fnExactMirrorQueensSpec)

/-- ITS FALSE NEIGHBOUR: 'it returns false'. Refute it at one input. -/
def fnExactMirrorQueensWrong : ChangeSpec := { name := "fnExactMirrorQueens", fn := fun _ => fun
  | [d] => { results := [.lit (.bool false)], args := [d] }
  | _ => none }
def FnExactMirrorQueensWrongFalsely : Prop := fnExactMirrorQueensRow.holds Try.pinned (OpenSpec.ofChange fnExactMirrorQueensWrong)

/-- 'laws.FnExactLeastQueens': WHATEVER THE INPUT: true; the input reads as it did. -/
def fnExactLeastQueensSpec : ChangeSpec := { name := "fnExactLeastQueens", fn := fun _ => fun
  | [d] => { results := [.lit (.bool true)], args := [d] }
  | _ => none }
def fnExactLeastQueensRow : OpenClaim := { program := "ytmhlpaenfknofaa", sum := "2441348a5578caa4aa41a3837ae906b915e55d483a99185477b28511d2bb4f0f", func := "loop.example/g01125/laws.FnExactLeastQueens", spec := "fnExactLeastQueens", apart := false }
def FnExactLeastQueensSaid : Prop := fnExactLeastQueensRow.holds Try.pinned (OpenSpec.ofChange fnExactLeastQueensSpec)

/-- ITS FALSE NEIGHBOUR: 'it returns false'. Refute it at one input. -/
def fnExactLeastQueensWrong : ChangeSpec := { name := "fnExactLeastQueens", fn := fun _ => fun
  | [d] => { results := [.lit (.bool false)], args := [d] }
  | _ => none }
def FnExactLeastQueensWrongFalsely : Prop := fnExactLeastQueensRow.holds Try.pinned (OpenSpec.ofChange fnExactLeastQueensWrong)

/- THE SECOND FORM. 'bulk': how many values and letters a reading holds, each counted each time it is reached (what is shared counts as often as it is met; a slice's spare places count too). A statement '..UptoSaid' is the law's where the arguments, and the package variables that the reading takes, are together of bulk at most 1048576: NARROWER than '..Said'. Prove '..Said' where nothing that the law and all that it calls make is longer than what came in: it says more and counts as full. Else prove '..UptoSaid'. A law counts once. -/
mutual
def uptoBulk {H : Type} : DataW H → Nat
  | .lit (.string bytes) => bytes.length + 1
  | .lit _ => 1
  | .nil => 1
  | .ptr d => uptoBulk d + 1
  | .slice elems spare => uptoBulkAll elems + uptoBulkAll spare + 1
  | .agg parts => uptoBulkAll parts + 1
  | .iface _ d => uptoBulk d + 1
  | .map entries => uptoBulkEntries entries + 1
  | .held _ => 1
def uptoBulkAll {H : Type} : List (DataW H) → Nat
  | [] => 0
  | d :: r => uptoBulk d + uptoBulkAll r
def uptoBulkEntries {H : Type} : List (Lit × DataW H) → Nat
  | [] => 0
  | x :: r => uptoBulkEntry x + uptoBulkEntries r
def uptoBulkEntry {H : Type} : Lit × DataW H → Nat
  | (.string bytes, d) => bytes.length + uptoBulk d + 1
  | (_, d) => uptoBulk d + 1
 end
def uptoSmall : (H : Type) → List (DataW H) → Bool := fun _ ds => decide (uptoBulkAll ds ≤ 1048576)
def OpenSpec.upto (s : _root_.Go.ChangeSpec) : _root_.Go.OpenSpec := { _root_.Go.OpenSpec.ofChange s with cond := some uptoSmall }

/-- 'laws.FnExactAreQueens', WHERE WHAT IT READS IS OF BULK AT MOST 1048576: true; the input reads as it did. -/
def fnExactAreQueensUptoRow : OpenClaim := { program := "ytmhlpaenfknofaa", sum := "2441348a5578caa4aa41a3837ae906b915e55d483a99185477b28511d2bb4f0f", func := "loop.example/g01125/laws.FnExactAreQueens", spec := "fnExactAreQueens", unfollowed := true, recurses := true, apart := false, narrowed := true }
def FnExactAreQueensUptoSaid : Prop := fnExactAreQueensUptoRow.holds Try.pinned (OpenSpec.upto fnExactAreQueensSpec)

/-- 'laws.FnExactAttacksOf', WHERE WHAT IT READS IS OF BULK AT MOST 1048576: true; the input reads as it did. -/
def fnExactAttacksOfUptoRow : OpenClaim := { program := "ytmhlpaenfknofaa", sum := "2441348a5578caa4aa41a3837ae906b915e55d483a99185477b28511d2bb4f0f", func := "loop.example/g01125/laws.FnExactAttacksOf", spec := "fnExactAttacksOf", unfollowed := true, recurses := true, apart := false, narrowed := true }
def FnExactAttacksOfUptoSaid : Prop := fnExactAttacksOfUptoRow.holds Try.pinned (OpenSpec.upto fnExactAttacksOfSpec)

/-- 'laws.FnExactAreOnTorus', WHERE WHAT IT READS IS OF BULK AT MOST 1048576: true; the input reads as it did. -/
def fnExactAreOnTorusUptoRow : OpenClaim := { program := "ytmhlpaenfknofaa", sum := "2441348a5578caa4aa41a3837ae906b915e55d483a99185477b28511d2bb4f0f", func := "loop.example/g01125/laws.FnExactAreOnTorus", spec := "fnExactAreOnTorus", unfollowed := true, recurses := true, apart := false, narrowed := true }
def FnExactAreOnTorusUptoSaid : Prop := fnExactAreOnTorusUptoRow.holds Try.pinned (OpenSpec.upto fnExactAreOnTorusSpec)

/-- 'laws.FnExactCountQueens', WHERE WHAT IT READS IS OF BULK AT MOST 1048576: true; the input reads as it did. -/
def fnExactCountQueensUptoRow : OpenClaim := { program := "ytmhlpaenfknofaa", sum := "2441348a5578caa4aa41a3837ae906b915e55d483a99185477b28511d2bb4f0f", func := "loop.example/g01125/laws.FnExactCountQueens", spec := "fnExactCountQueens", unfollowed := true, recurses := true, apart := false, narrowed := true }
def FnExactCountQueensUptoSaid : Prop := fnExactCountQueensUptoRow.holds Try.pinned (OpenSpec.upto fnExactCountQueensSpec)

/-- 'laws.FnExactAllQueens', WHERE WHAT IT READS IS OF BULK AT MOST 1048576: true; the input reads as it did. -/
def fnExactAllQueensUptoRow : OpenClaim := { program := "ytmhlpaenfknofaa", sum := "2441348a5578caa4aa41a3837ae906b915e55d483a99185477b28511d2bb4f0f", func := "loop.example/g01125/laws.FnExactAllQueens", spec := "fnExactAllQueens", unfollowed := true, recurses := true, apart := false, narrowed := true }
def FnExactAllQueensUptoSaid : Prop := fnExactAllQueensUptoRow.holds Try.pinned (OpenSpec.upto fnExactAllQueensSpec)

/-- 'laws.FnExactFirstQueens', WHERE WHAT IT READS IS OF BULK AT MOST 1048576: true; the input reads as it did. -/
def fnExactFirstQueensUptoRow : OpenClaim := { program := "ytmhlpaenfknofaa", sum := "2441348a5578caa4aa41a3837ae906b915e55d483a99185477b28511d2bb4f0f", func := "loop.example/g01125/laws.FnExactFirstQueens", spec := "fnExactFirstQueens", unfollowed := true, recurses := true, apart := false, narrowed := true }
def FnExactFirstQueensUptoSaid : Prop := fnExactFirstQueensUptoRow.holds Try.pinned (OpenSpec.upto fnExactFirstQueensSpec)

/-- 'laws.FnExactCountGoingOn', WHERE WHAT IT READS IS OF BULK AT MOST 1048576: true; the input reads as it did. -/
def fnExactCountGoingOnUptoRow : OpenClaim := { program := "ytmhlpaenfknofaa", sum := "2441348a5578caa4aa41a3837ae906b915e55d483a99185477b28511d2bb4f0f", func := "loop.example/g01125/laws.FnExactCountGoingOn", spec := "fnExactCountGoingOn", unfollowed := true, recurses := true, apart := false, narrowed := true }
def FnExactCountGoingOnUptoSaid : Prop := fnExactCountGoingOnUptoRow.holds Try.pinned (OpenSpec.upto fnExactCountGoingOnSpec)

/-- 'laws.FnExactCountDifferent', WHERE WHAT IT READS IS OF BULK AT MOST 1048576: true; the input reads as it did. -/
def fnExactCountDifferentUptoRow : OpenClaim := { program := "ytmhlpaenfknofaa", sum := "2441348a5578caa4aa41a3837ae906b915e55d483a99185477b28511d2bb4f0f", func := "loop.example/g01125/laws.FnExactCountDifferent", spec := "fnExactCountDifferent", unfollowed := true, recurses := true, apart := false, narrowed := true }
def FnExactCountDifferentUptoSaid : Prop := fnExactCountDifferentUptoRow.holds Try.pinned (OpenSpec.upto fnExactCountDifferentSpec)

/-- 'laws.FnExactCountOnTorus', WHERE WHAT IT READS IS OF BULK AT MOST 1048576: true; the input reads as it did. -/
def fnExactCountOnTorusUptoRow : OpenClaim := { program := "ytmhlpaenfknofaa", sum := "2441348a5578caa4aa41a3837ae906b915e55d483a99185477b28511d2bb4f0f", func := "loop.example/g01125/laws.FnExactCountOnTorus", spec := "fnExactCountOnTorus", unfollowed := true, recurses := true, apart := false, narrowed := true }
def FnExactCountOnTorusUptoSaid : Prop := fnExactCountOnTorusUptoRow.holds Try.pinned (OpenSpec.upto fnExactCountOnTorusSpec)

/-- 'laws.FnExactTurnQueens', WHERE WHAT IT READS IS OF BULK AT MOST 1048576: true; the input reads as it did. -/
def fnExactTurnQueensUptoRow : OpenClaim := { program := "ytmhlpaenfknofaa", sum := "2441348a5578caa4aa41a3837ae906b915e55d483a99185477b28511d2bb4f0f", func := "loop.example/g01125/laws.FnExactTurnQueens", spec := "fnExactTurnQueens", apart := false, narrowed := true }
def FnExactTurnQueensUptoSaid : Prop := fnExactTurnQueensUptoRow.holds Try.pinned (OpenSpec.upto fnExactTurnQueensSpec)

/-- 'laws.FnExactMirrorQueens', WHERE WHAT IT READS IS OF BULK AT MOST 1048576: true; the input reads as it did. -/
def fnExactMirrorQueensUptoRow : OpenClaim := { program := "ytmhlpaenfknofaa", sum := "2441348a5578caa4aa41a3837ae906b915e55d483a99185477b28511d2bb4f0f", func := "loop.example/g01125/laws.FnExactMirrorQueens", spec := "fnExactMirrorQueens", apart := false, narrowed := true }
def FnExactMirrorQueensUptoSaid : Prop := fnExactMirrorQueensUptoRow.holds Try.pinned (OpenSpec.upto fnExactMirrorQueensSpec)

/-- 'laws.FnExactLeastQueens', WHERE WHAT IT READS IS OF BULK AT MOST 1048576: true; the input reads as it did. -/
def fnExactLeastQueensUptoRow : OpenClaim := { program := "ytmhlpaenfknofaa", sum := "2441348a5578caa4aa41a3837ae906b915e55d483a99185477b28511d2bb4f0f", func := "loop.example/g01125/laws.FnExactLeastQueens", spec := "fnExactLeastQueens", apart := false, narrowed := true }
def FnExactLeastQueensUptoSaid : Prop := fnExactLeastQueensUptoRow.holds Try.pinned (OpenSpec.upto fnExactLeastQueensSpec)

end Rows
end Go.Proofs.Ytmhlpaenfknofaa
