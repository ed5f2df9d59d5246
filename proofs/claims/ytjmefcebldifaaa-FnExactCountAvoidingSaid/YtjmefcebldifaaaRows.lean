/-
  No cell of these rows narrows 'for every input' (looked for: loops, veiled, ifaces, maps, wideKeys, modest, calm, conditions, laid).
  DERIVED. THE GIVEN ROWS OF THIS SEAT. 12 by the template 'for every input the law returns true; each argument reads behind the call as it read before'; 0 by the template 'total and deterministic' (their statements: YtjmefcebldifaaaTotals.lean).
  GIVEN WITH THE SEED: the statements are not yours to turn. If you find one false, say at which input.
  Laid BY PROGRAM, IN A SANDBOX (cutbox-rows.mjs): the forced cells as the released guide's own fill.sh prints them over the translation cdc411fef0cb73ea… (all of the seat's roots in one cut). By AI agents, Wed Nov 11 2026. No macro, syntax, notation, axiom, sorry.
-/
import Derived.Test.YtjmefcebldifaaaChecked
import GoSem.Claim
import GoSem.ClaimJoined
import GoSem.ClaimMapViews
import Derived.JoinedTies
import Derived.KernelRfl
namespace Go.Proofs.Ytjmefcebldifaaa
/- THE CELL 'sum', in the pinned program and in every row, IS THE sha256 OF THE DUMP (.gsa) THAT YtjmefcebldifaaaProg.lean LOADS. Nothing in Lean hashes anything: it is a label: what it is worth is what the hold of that sum in a sandbox is worth. -/
noncomputable def Try.pinned : Pinned := { name := "ytjmefcebldifaaa", sum := "cdc411fef0cb73ea0cda66edaea37622259c7cb1c1057139bc42bd89cbd9eea4", checked := Try.checked }
namespace Rows
def none {H : Type} : Left H := { results := [], args := [] }

/-- 'laws.FnExactRookNumbers': WHATEVER THE INPUT: true; the input reads as it did. -/
def fnExactRookNumbersSpec : ChangeSpec := { name := "fnExactRookNumbers", fn := fun _ => fun
  | [d] => { results := [.lit (.bool true)], args := [d] }
  | _ => none }
def fnExactRookNumbersRow : OpenClaim := { program := "ytjmefcebldifaaa", sum := "cdc411fef0cb73ea0cda66edaea37622259c7cb1c1057139bc42bd89cbd9eea4", func := "loop.example/g01125/laws.FnExactRookNumbers", spec := "fnExactRookNumbers", recurses := true, apart := false }
def FnExactRookNumbersSaid : Prop := fnExactRookNumbersRow.holds Try.pinned (OpenSpec.ofChange fnExactRookNumbersSpec)

/-- ITS FALSE NEIGHBOUR: 'it returns false'. Refute it at one input. -/
def fnExactRookNumbersWrong : ChangeSpec := { name := "fnExactRookNumbers", fn := fun _ => fun
  | [d] => { results := [.lit (.bool false)], args := [d] }
  | _ => none }
def FnExactRookNumbersWrongFalsely : Prop := fnExactRookNumbersRow.holds Try.pinned (OpenSpec.ofChange fnExactRookNumbersWrong)

/-- 'laws.FnExactMostRooks': WHATEVER THE INPUT: true; the input reads as it did. -/
def fnExactMostRooksSpec : ChangeSpec := { name := "fnExactMostRooks", fn := fun _ => fun
  | [d] => { results := [.lit (.bool true)], args := [d] }
  | _ => none }
def fnExactMostRooksRow : OpenClaim := { program := "ytjmefcebldifaaa", sum := "cdc411fef0cb73ea0cda66edaea37622259c7cb1c1057139bc42bd89cbd9eea4", func := "loop.example/g01125/laws.FnExactMostRooks", spec := "fnExactMostRooks", recurses := true, apart := false }
def FnExactMostRooksSaid : Prop := fnExactMostRooksRow.holds Try.pinned (OpenSpec.ofChange fnExactMostRooksSpec)

/-- ITS FALSE NEIGHBOUR: 'it returns false'. Refute it at one input. -/
def fnExactMostRooksWrong : ChangeSpec := { name := "fnExactMostRooks", fn := fun _ => fun
  | [d] => { results := [.lit (.bool false)], args := [d] }
  | _ => none }
def FnExactMostRooksWrongFalsely : Prop := fnExactMostRooksRow.holds Try.pinned (OpenSpec.ofChange fnExactMostRooksWrong)

/-- 'laws.FnExactPermanentOf': WHATEVER THE INPUT: true; the input reads as it did. -/
def fnExactPermanentOfSpec : ChangeSpec := { name := "fnExactPermanentOf", fn := fun _ => fun
  | [d] => { results := [.lit (.bool true)], args := [d] }
  | _ => none }
def fnExactPermanentOfRow : OpenClaim := { program := "ytjmefcebldifaaa", sum := "cdc411fef0cb73ea0cda66edaea37622259c7cb1c1057139bc42bd89cbd9eea4", func := "loop.example/g01125/laws.FnExactPermanentOf", spec := "fnExactPermanentOf", recurses := true, apart := false }
def FnExactPermanentOfSaid : Prop := fnExactPermanentOfRow.holds Try.pinned (OpenSpec.ofChange fnExactPermanentOfSpec)

/-- ITS FALSE NEIGHBOUR: 'it returns false'. Refute it at one input. -/
def fnExactPermanentOfWrong : ChangeSpec := { name := "fnExactPermanentOf", fn := fun _ => fun
  | [d] => { results := [.lit (.bool false)], args := [d] }
  | _ => none }
def FnExactPermanentOfWrongFalsely : Prop := fnExactPermanentOfRow.holds Try.pinned (OpenSpec.ofChange fnExactPermanentOfWrong)

/-- 'laws.FnExactRookPolynomialAt': WHATEVER THE INPUT: true; the input reads as it did. -/
def fnExactRookPolynomialAtSpec : ChangeSpec := { name := "fnExactRookPolynomialAt", fn := fun _ => fun
  | [d1, d2] => { results := [.lit (.bool true)], args := [d1, d2] }
  | _ => none }
def fnExactRookPolynomialAtRow : OpenClaim := { program := "ytjmefcebldifaaa", sum := "cdc411fef0cb73ea0cda66edaea37622259c7cb1c1057139bc42bd89cbd9eea4", func := "loop.example/g01125/laws.FnExactRookPolynomialAt", spec := "fnExactRookPolynomialAt", unfollowed := true, recurses := true, apart := false }
def FnExactRookPolynomialAtSaid : Prop := fnExactRookPolynomialAtRow.holds Try.pinned (OpenSpec.ofChange fnExactRookPolynomialAtSpec)

/-- ITS FALSE NEIGHBOUR: 'it returns false'. Refute it at one input. -/
def fnExactRookPolynomialAtWrong : ChangeSpec := { name := "fnExactRookPolynomialAt", fn := fun _ => fun
  | [d1, d2] => { results := [.lit (.bool false)], args := [d1, d2] }
  | _ => none }
def FnExactRookPolynomialAtWrongFalsely : Prop := fnExactRookPolynomialAtRow.holds Try.pinned (OpenSpec.ofChange fnExactRookPolynomialAtWrong)

/-- 'laws.FnExactCountRooks': WHATEVER THE INPUT: true; the input reads as it did. -/
def fnExactCountRooksSpec : ChangeSpec := { name := "fnExactCountRooks", fn := fun _ => fun
  | [d] => { results := [.lit (.bool true)], args := [d] }
  | _ => none }
def fnExactCountRooksRow : OpenClaim := { program := "ytjmefcebldifaaa", sum := "cdc411fef0cb73ea0cda66edaea37622259c7cb1c1057139bc42bd89cbd9eea4", func := "loop.example/g01125/laws.FnExactCountRooks", spec := "fnExactCountRooks", unfollowed := true, recurses := true, apart := false }
def FnExactCountRooksSaid : Prop := fnExactCountRooksRow.holds Try.pinned (OpenSpec.ofChange fnExactCountRooksSpec)

/-- ITS FALSE NEIGHBOUR: 'it returns false'. Refute it at one input. -/
def fnExactCountRooksWrong : ChangeSpec := { name := "fnExactCountRooks", fn := fun _ => fun
  | [d] => { results := [.lit (.bool false)], args := [d] }
  | _ => none }
def FnExactCountRooksWrongFalsely : Prop := fnExactCountRooksRow.holds Try.pinned (OpenSpec.ofChange fnExactCountRooksWrong)

/-- 'laws.FnExactNumbersOfComplement': WHATEVER THE INPUT: true; the input reads as it did. -/
def fnExactNumbersOfComplementSpec : ChangeSpec := { name := "fnExactNumbersOfComplement", fn := fun _ => fun
  | [d] => { results := [.lit (.bool true)], args := [d] }
  | _ => none }
def fnExactNumbersOfComplementRow : OpenClaim := { program := "ytjmefcebldifaaa", sum := "cdc411fef0cb73ea0cda66edaea37622259c7cb1c1057139bc42bd89cbd9eea4", func := "loop.example/g01125/laws.FnExactNumbersOfComplement", spec := "fnExactNumbersOfComplement", unfollowed := true, recurses := true, apart := false }
def FnExactNumbersOfComplementSaid : Prop := fnExactNumbersOfComplementRow.holds Try.pinned (OpenSpec.ofChange fnExactNumbersOfComplementSpec)

/-- ITS FALSE NEIGHBOUR: 'it returns false'. Refute it at one input. -/
def fnExactNumbersOfComplementWrong : ChangeSpec := { name := "fnExactNumbersOfComplement", fn := fun _ => fun
  | [d] => { results := [.lit (.bool false)], args := [d] }
  | _ => none }
def FnExactNumbersOfComplementWrongFalsely : Prop := fnExactNumbersOfComplementRow.holds Try.pinned (OpenSpec.ofChange fnExactNumbersOfComplementWrong)

/-- 'laws.FnExactAreAlike': WHATEVER THE INPUT: true; the input reads as it did. -/
def fnExactAreAlikeSpec : ChangeSpec := { name := "fnExactAreAlike", fn := fun _ => fun
  | [d1, d2] => { results := [.lit (.bool true)], args := [d1, d2] }
  | _ => none }
def fnExactAreAlikeRow : OpenClaim := { program := "ytjmefcebldifaaa", sum := "cdc411fef0cb73ea0cda66edaea37622259c7cb1c1057139bc42bd89cbd9eea4", func := "loop.example/g01125/laws.FnExactAreAlike", spec := "fnExactAreAlike", recurses := true, apart := false }
def FnExactAreAlikeSaid : Prop := fnExactAreAlikeRow.holds Try.pinned (OpenSpec.ofChange fnExactAreAlikeSpec)

/-- ITS FALSE NEIGHBOUR: 'it returns false'. Refute it at one input. -/
def fnExactAreAlikeWrong : ChangeSpec := { name := "fnExactAreAlike", fn := fun _ => fun
  | [d1, d2] => { results := [.lit (.bool false)], args := [d1, d2] }
  | _ => none }
def FnExactAreAlikeWrongFalsely : Prop := fnExactAreAlikeRow.holds Try.pinned (OpenSpec.ofChange fnExactAreAlikeWrong)

/-- 'laws.FnExactNumbersByCell': WHATEVER THE INPUT: true; the input reads as it did. -/
def fnExactNumbersByCellSpec : ChangeSpec := { name := "fnExactNumbersByCell", fn := fun _ => fun
  | [d1, d2, d3] => { results := [.lit (.bool true)], args := [d1, d2, d3] }
  | _ => none }
def fnExactNumbersByCellRow : OpenClaim := { program := "ytjmefcebldifaaa", sum := "cdc411fef0cb73ea0cda66edaea37622259c7cb1c1057139bc42bd89cbd9eea4", func := "loop.example/g01125/laws.FnExactNumbersByCell", spec := "fnExactNumbersByCell", unfollowed := true, recurses := true, apart := false }
def FnExactNumbersByCellSaid : Prop := fnExactNumbersByCellRow.holds Try.pinned (OpenSpec.ofChange fnExactNumbersByCellSpec)

/-- ITS FALSE NEIGHBOUR: 'it returns false'. Refute it at one input. -/
def fnExactNumbersByCellWrong : ChangeSpec := { name := "fnExactNumbersByCell", fn := fun _ => fun
  | [d1, d2, d3] => { results := [.lit (.bool false)], args := [d1, d2, d3] }
  | _ => none }
def FnExactNumbersByCellWrongFalsely : Prop := fnExactNumbersByCellRow.holds Try.pinned (OpenSpec.ofChange fnExactNumbersByCellWrong)

/-- 'laws.FnExactHitNumbers': WHATEVER THE INPUT: true; the input reads as it did. -/
def fnExactHitNumbersSpec : ChangeSpec := { name := "fnExactHitNumbers", fn := fun _ => fun
  | [d] => { results := [.lit (.bool true)], args := [d] }
  | _ => none }
def fnExactHitNumbersRow : OpenClaim := { program := "ytjmefcebldifaaa", sum := "cdc411fef0cb73ea0cda66edaea37622259c7cb1c1057139bc42bd89cbd9eea4", func := "loop.example/g01125/laws.FnExactHitNumbers", spec := "fnExactHitNumbers", unfollowed := true, recurses := true, apart := false }
def FnExactHitNumbersSaid : Prop := fnExactHitNumbersRow.holds Try.pinned (OpenSpec.ofChange fnExactHitNumbersSpec)

/-- ITS FALSE NEIGHBOUR: 'it returns false'. Refute it at one input. -/
def fnExactHitNumbersWrong : ChangeSpec := { name := "fnExactHitNumbers", fn := fun _ => fun
  | [d] => { results := [.lit (.bool false)], args := [d] }
  | _ => none }
def FnExactHitNumbersWrongFalsely : Prop := fnExactHitNumbersRow.holds Try.pinned (OpenSpec.ofChange fnExactHitNumbersWrong)

/-- 'laws.FnExactCountAvoiding': WHATEVER THE INPUT: true; the input reads as it did. -/
def fnExactCountAvoidingSpec : ChangeSpec := { name := "fnExactCountAvoiding", fn := fun _ => fun
  | [d] => { results := [.lit (.bool true)], args := [d] }
  | _ => none }
def fnExactCountAvoidingRow : OpenClaim := { program := "ytjmefcebldifaaa", sum := "cdc411fef0cb73ea0cda66edaea37622259c7cb1c1057139bc42bd89cbd9eea4", func := "loop.example/g01125/laws.FnExactCountAvoiding", spec := "fnExactCountAvoiding", unfollowed := true, recurses := true, apart := false }
def FnExactCountAvoidingSaid : Prop := fnExactCountAvoidingRow.holds Try.pinned (OpenSpec.ofChange fnExactCountAvoidingSpec)

/-- ITS FALSE NEIGHBOUR: 'it returns false'. Refute it at one input. -/
def fnExactCountAvoidingWrong : ChangeSpec := { name := "fnExactCountAvoiding", fn := fun _ => fun
  | [d] => { results := [.lit (.bool false)], args := [d] }
  | _ => none }
def FnExactCountAvoidingWrongFalsely : Prop := fnExactCountAvoidingRow.holds Try.pinned (OpenSpec.ofChange fnExactCountAvoidingWrong)

/-- 'laws.FnExactHitsFromRooks': WHATEVER THE INPUT: true; the input reads as it did. -/
def fnExactHitsFromRooksSpec : ChangeSpec := { name := "fnExactHitsFromRooks", fn := fun _ => fun
  | [d] => { results := [.lit (.bool true)], args := [d] }
  | _ => none }
def fnExactHitsFromRooksRow : OpenClaim := { program := "ytjmefcebldifaaa", sum := "cdc411fef0cb73ea0cda66edaea37622259c7cb1c1057139bc42bd89cbd9eea4", func := "loop.example/g01125/laws.FnExactHitsFromRooks", spec := "fnExactHitsFromRooks", unfollowed := true, recurses := true, apart := false }
def FnExactHitsFromRooksSaid : Prop := fnExactHitsFromRooksRow.holds Try.pinned (OpenSpec.ofChange fnExactHitsFromRooksSpec)

/-- ITS FALSE NEIGHBOUR: 'it returns false'. Refute it at one input. -/
def fnExactHitsFromRooksWrong : ChangeSpec := { name := "fnExactHitsFromRooks", fn := fun _ => fun
  | [d] => { results := [.lit (.bool false)], args := [d] }
  | _ => none }
def FnExactHitsFromRooksWrongFalsely : Prop := fnExactHitsFromRooksRow.holds Try.pinned (OpenSpec.ofChange fnExactHitsFromRooksWrong)

/-- 'laws.FnExactRooksFromHits': WHATEVER THE INPUT: true; the input reads as it did. -/
def fnExactRooksFromHitsSpec : ChangeSpec := { name := "fnExactRooksFromHits", fn := fun _ => fun
  | [d] => { results := [.lit (.bool true)], args := [d] }
  | _ => none }
def fnExactRooksFromHitsRow : OpenClaim := { program := "ytjmefcebldifaaa", sum := "cdc411fef0cb73ea0cda66edaea37622259c7cb1c1057139bc42bd89cbd9eea4", func := "loop.example/g01125/laws.FnExactRooksFromHits", spec := "fnExactRooksFromHits", unfollowed := true, recurses := true, apart := false }
def FnExactRooksFromHitsSaid : Prop := fnExactRooksFromHitsRow.holds Try.pinned (OpenSpec.ofChange fnExactRooksFromHitsSpec)

/-- ITS FALSE NEIGHBOUR: 'it returns false'. Refute it at one input. -/
def fnExactRooksFromHitsWrong : ChangeSpec := { name := "fnExactRooksFromHits", fn := fun _ => fun
  | [d] => { results := [.lit (.bool false)], args := [d] }
  | _ => none }
def FnExactRooksFromHitsWrongFalsely : Prop := fnExactRooksFromHitsRow.holds Try.pinned (OpenSpec.ofChange fnExactRooksFromHitsWrong)

/- THE SECOND FORM. 'bulk': how many values and letters a reading holds, each counted each time it is reached (what is shared counts as often as it is met; a slice's spare places count too). A statement '..UptoSaid' is the law's where the arguments, and the package variables that the reading takes, are together of bulk at most 1048576: NARROWER than '..Said'. Prove '..Said' where nothing that the law and all that it calls make is longer than what came in: it says more and counts as full. Else prove '..UptoSaid'. A law counts once. -/
mutual
def uptoBulk {H : Type} : DataW H → Nat
  | .lit (.string bytes) => bytes.length + 1
  | .lit _ => 1
  | .nil => 1
  | .ptr d => uptoBulk d + 1
  | .slice elems spare => uptoBulkAll elems + uptoBulkAll spare + 1
  | .agg parts => uptoBulkAll parts + 1
  | .iface _ d => uptoBulk d + 1
  | .map entries => uptoBulkEntries entries + 1
  | .held _ => 1
def uptoBulkAll {H : Type} : List (DataW H) → Nat
  | [] => 0
  | d :: r => uptoBulk d + uptoBulkAll r
def uptoBulkEntries {H : Type} : List (Lit × DataW H) → Nat
  | [] => 0
  | x :: r => uptoBulkEntry x + uptoBulkEntries r
def uptoBulkEntry {H : Type} : Lit × DataW H → Nat
  | (.string bytes, d) => bytes.length + uptoBulk d + 1
  | (_, d) => uptoBulk d + 1
 end
def uptoSmall : (H : Type) → List (DataW H) → Bool := fun _ ds => decide (uptoBulkAll ds ≤ 1048576)
def OpenSpec.upto (s : _root_.Go.ChangeSpec) : _root_.Go.OpenSpec := { _root_.Go.OpenSpec.ofChange s with cond := some uptoSmall }

/-- 'laws.FnExactRookNumbers', WHERE WHAT IT READS IS OF BULK AT MOST 1048576: true; the input reads as it did. -/
def fnExactRookNumbersUptoRow : OpenClaim := { program := "ytjmefcebldifaaa", sum := "cdc411fef0cb73ea0cda66edaea37622259c7cb1c1057139bc42bd89cbd9eea4", func := "loop.example/g01125/laws.FnExactRookNumbers", spec := "fnExactRookNumbers", recurses := true, apart := false, narrowed := true }
def FnExactRookNumbersUptoSaid : Prop := fnExactRookNumbersUptoRow.holds Try.pinned (OpenSpec.upto fnExactRookNumbersSpec)

/-- 'laws.FnExactMostRooks', WHERE WHAT IT READS IS OF BULK AT MOST 1048576: true; the input reads as it did. -/
def fnExactMostRooksUptoRow : OpenClaim := { program := "ytjmefcebldifaaa", sum := "cdc411fef0cb73ea0cda66edaea37622259c7cb1c1057139bc42bd89cbd9eea4", func := "loop.example/g01125/laws.FnExactMostRooks", spec := "fnExactMostRooks", recurses := true, apart := false, narrowed := true }
def FnExactMostRooksUptoSaid : Prop := fnExactMostRooksUptoRow.holds Try.pinned (OpenSpec.upto fnExactMostRooksSpec)

/-- 'laws.FnExactPermanentOf', WHERE WHAT IT READS IS OF BULK AT MOST 1048576: true; the input reads as it did. -/
def fnExactPermanentOfUptoRow : OpenClaim := { program := "ytjmefcebldifaaa", sum := "cdc411fef0cb73ea0cda66edaea37622259c7cb1c1057139bc42bd89cbd9eea4", func := "loop.example/g01125/laws.FnExactPermanentOf", spec := "fnExactPermanentOf", recurses := true, apart := false, narrowed := true }
def FnExactPermanentOfUptoSaid : Prop := fnExactPermanentOfUptoRow.holds Try.pinned (OpenSpec.upto fnExactPermanentOfSpec)

/-- 'laws.FnExactRookPolynomialAt', WHERE WHAT IT READS IS OF BULK AT MOST 1048576: true; the input reads as it did. -/
def fnExactRookPolynomialAtUptoRow : OpenClaim := { program := "ytjmefcebldifaaa", sum := "cdc411fef0cb73ea0cda66edaea37622259c7cb1c1057139bc42bd89cbd9eea4", func := "loop.example/g01125/laws.FnExactRookPolynomialAt", spec := "fnExactRookPolynomialAt", unfollowed := true, recurses := true, apart := false, narrowed := true }
def FnExactRookPolynomialAtUptoSaid : Prop := fnExactRookPolynomialAtUptoRow.holds Try.pinned (OpenSpec.upto fnExactRookPolynomialAtSpec)

/-- 'laws.FnExactCountRooks', WHERE WHAT IT READS IS OF BULK AT MOST 1048576: true; the input reads as it did. -/
def fnExactCountRooksUptoRow : OpenClaim := { program := "ytjmefcebldifaaa", sum := "cdc411fef0cb73ea0cda66edaea37622259c7cb1c1057139bc42bd89cbd9eea4", func := "loop.example/g01125/laws.FnExactCountRooks", spec := "fnExactCountRooks", unfollowed := true, recurses := true, apart := false, narrowed := true }
def FnExactCountRooksUptoSaid : Prop := fnExactCountRooksUptoRow.holds Try.pinned (OpenSpec.upto fnExactCountRooksSpec)

/-- 'laws.FnExactNumbersOfComplement', WHERE WHAT IT READS IS OF BULK AT MOST 1048576: true; the input reads as it did. -/
def fnExactNumbersOfComplementUptoRow : OpenClaim := { program := "ytjmefcebldifaaa", sum := "cdc411fef0cb73ea0cda66edaea37622259c7cb1c1057139bc42bd89cbd9eea4", func := "loop.example/g01125/laws.FnExactNumbersOfComplement", spec := "fnExactNumbersOfComplement", unfollowed := true, recurses := true, apart := false, narrowed := true }
def FnExactNumbersOfComplementUptoSaid : Prop := fnExactNumbersOfComplementUptoRow.holds Try.pinned (OpenSpec.upto fnExactNumbersOfComplementSpec)

/-- 'laws.FnExactAreAlike', WHERE WHAT IT READS IS OF BULK AT MOST 1048576: true; the input reads as it did. -/
def fnExactAreAlikeUptoRow : OpenClaim := { program := "ytjmefcebldifaaa", sum := "cdc411fef0cb73ea0cda66edaea37622259c7cb1c1057139bc42bd89cbd9eea4", func := "loop.example/g01125/laws.FnExactAreAlike", spec := "fnExactAreAlike", recurses := true, apart := false, narrowed := true }
def FnExactAreAlikeUptoSaid : Prop := fnExactAreAlikeUptoRow.holds Try.pinned (OpenSpec.upto fnExactAreAlikeSpec)

/-- 'laws.FnExactNumbersByCell', WHERE WHAT IT READS IS OF BULK AT MOST 1048576: true; the input reads as it did. -/
def fnExactNumbersByCellUptoRow : OpenClaim := { program := "ytjmefcebldifaaa", sum := "cdc411fef0cb73ea0cda66edaea37622259c7cb1c1057139bc42bd89cbd9eea4", func := "loop.example/g01125/laws.FnExactNumbersByCell", spec := "fnExactNumbersByCell", unfollowed := true, recurses := true, apart := false, narrowed := true }
def FnExactNumbersByCellUptoSaid : Prop := fnExactNumbersByCellUptoRow.holds Try.pinned (OpenSpec.upto fnExactNumbersByCellSpec)

/-- 'laws.FnExactHitNumbers', WHERE WHAT IT READS IS OF BULK AT MOST 1048576: true; the input reads as it did. -/
def fnExactHitNumbersUptoRow : OpenClaim := { program := "ytjmefcebldifaaa", sum := "cdc411fef0cb73ea0cda66edaea37622259c7cb1c1057139bc42bd89cbd9eea4", func := "loop.example/g01125/laws.FnExactHitNumbers", spec := "fnExactHitNumbers", unfollowed := true, recurses := true, apart := false, narrowed := true }
def FnExactHitNumbersUptoSaid : Prop := fnExactHitNumbersUptoRow.holds Try.pinned (OpenSpec.upto fnExactHitNumbersSpec)

/-- 'laws.FnExactCountAvoiding', WHERE WHAT IT READS IS OF BULK AT MOST 1048576: true; the input reads as it did. -/
def fnExactCountAvoidingUptoRow : OpenClaim := { program := "ytjmefcebldifaaa", sum := "cdc411fef0cb73ea0cda66edaea37622259c7cb1c1057139bc42bd89cbd9eea4", func := "loop.example/g01125/laws.FnExactCountAvoiding", spec := "fnExactCountAvoiding", unfollowed := true, recurses := true, apart := false, narrowed := true }
def FnExactCountAvoidingUptoSaid : Prop := fnExactCountAvoidingUptoRow.holds Try.pinned (OpenSpec.upto fnExactCountAvoidingSpec)

/-- 'laws.FnExactHitsFromRooks', WHERE WHAT IT READS IS OF BULK AT MOST 1048576: true; the input reads as it did. -/
def fnExactHitsFromRooksUptoRow : OpenClaim := { program := "ytjmefcebldifaaa", sum := "cdc411fef0cb73ea0cda66edaea37622259c7cb1c1057139bc42bd89cbd9eea4", func := "loop.example/g01125/laws.FnExactHitsFromRooks", spec := "fnExactHitsFromRooks", unfollowed := true, recurses := true, apart := false, narrowed := true }
def FnExactHitsFromRooksUptoSaid : Prop := fnExactHitsFromRooksUptoRow.holds Try.pinned (OpenSpec.upto fnExactHitsFromRooksSpec)

/-- 'laws.FnExactRooksFromHits', WHERE WHAT IT READS IS OF BULK AT MOST 1048576: true; the input reads as it did. -/
def fnExactRooksFromHitsUptoRow : OpenClaim := { program := "ytjmefcebldifaaa", sum := "cdc411fef0cb73ea0cda66edaea37622259c7cb1c1057139bc42bd89cbd9eea4", func := "loop.example/g01125/laws.FnExactRooksFromHits", spec := "fnExactRooksFromHits", unfollowed := true, recurses := true, apart := false, narrowed := true }
def FnExactRooksFromHitsUptoSaid : Prop := fnExactRooksFromHitsUptoRow.holds Try.pinned (OpenSpec.upto fnExactRooksFromHitsSpec)

end Rows
end Go.Proofs.Ytjmefcebldifaaa
