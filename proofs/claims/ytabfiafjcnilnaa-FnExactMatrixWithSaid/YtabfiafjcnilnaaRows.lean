/-
  No cell of these rows narrows 'for every input' (looked for: loops, veiled, ifaces, maps, wideKeys, modest, calm, conditions, laid).
  DERIVED. THE GIVEN ROWS OF THIS SEAT. 5 by the template 'for every input the law returns true; each argument reads behind the call as it read before'; 0 by the template 'total and deterministic' (their statements: YtabfiafjcnilnaaTotals.lean).
  GIVEN WITH THE SEED: the statements are not yours to turn. If you find one false, say at which input.
  Laid BY PROGRAM, IN A SANDBOX (cutbox-rows.mjs): the forced cells as the released guide's own fill.sh prints them over the translation 24cfbb4a4d71be48… (all of the seat's roots in one cut). By AI agents, Wed Nov 11 2026. No macro, syntax, notation, axiom, sorry.
-/
import Derived.Test.YtabfiafjcnilnaaChecked
import GoSem.Claim
import GoSem.ClaimJoined
import GoSem.ClaimMapViews
import Derived.JoinedTies
import Derived.KernelRfl
namespace Go.Proofs.Ytabfiafjcnilnaa
/- THE CELL 'sum', in the pinned program and in every row, IS THE sha256 OF THE DUMP (.gsa) THAT YtabfiafjcnilnaaProg.lean LOADS. Nothing in Lean hashes anything: it is a label: what it is worth is what the hold of that sum in a sandbox is worth. -/
noncomputable def Try.pinned : Pinned := { name := "ytabfiafjcnilnaa", sum := "24cfbb4a4d71be48442f8fa64bfe1ed152b4ea254baad5423a519456888a3e7c", checked := Try.checked }
namespace Rows
def none {H : Type} : Left H := { results := [], args := [] }

/-- 'laws.FnExactFitsBoard': WHATEVER THE INPUT: true; the input reads as it did. -/
def fnExactFitsBoardSpec : ChangeSpec := { name := "fnExactFitsBoard", fn := fun _ => fun
  | [d1, d2, d3] => { results := [.lit (.bool true)], args := [d1, d2, d3] }
  | _ => none }
def fnExactFitsBoardRow : OpenClaim := { program := "ytabfiafjcnilnaa", sum := "24cfbb4a4d71be48442f8fa64bfe1ed152b4ea254baad5423a519456888a3e7c", func := "loop.example/g01125/laws.FnExactFitsBoard", spec := "fnExactFitsBoard", unfollowed := true, recurses := true, apart := false }
def FnExactFitsBoardSaid : Prop := fnExactFitsBoardRow.holds Try.pinned (OpenSpec.ofChange fnExactFitsBoardSpec)

/-- ITS FALSE NEIGHBOUR: 'it returns false'. Refute it at one input. -/
def fnExactFitsBoardWrong : ChangeSpec := { name := "fnExactFitsBoard", fn := fun _ => fun
  | [d1, d2, d3] => { results := [.lit (.bool false)], args := [d1, d2, d3] }
  | _ => none }
def FnExactFitsBoardWrongFalsely : Prop := fnExactFitsBoardRow.holds Try.pinned (OpenSpec.ofChange fnExactFitsBoardWrong)

/-- 'laws.FnExactMatrixWith': WHATEVER THE INPUT: true; the input reads as it did. -/
def fnExactMatrixWithSpec : ChangeSpec := { name := "fnExactMatrixWith", fn := fun _ => fun
  | [d1, d2, d3] => { results := [.lit (.bool true)], args := [d1, d2, d3] }
  | _ => none }
def fnExactMatrixWithRow : OpenClaim := { program := "ytabfiafjcnilnaa", sum := "24cfbb4a4d71be48442f8fa64bfe1ed152b4ea254baad5423a519456888a3e7c", func := "loop.example/g01125/laws.FnExactMatrixWith", spec := "fnExactMatrixWith", unfollowed := true, recurses := true, apart := false }
def FnExactMatrixWithSaid : Prop := fnExactMatrixWithRow.holds Try.pinned (OpenSpec.ofChange fnExactMatrixWithSpec)

/-- ITS FALSE NEIGHBOUR: 'it returns false'. Refute it at one input. -/
def fnExactMatrixWithWrong : ChangeSpec := { name := "fnExactMatrixWith", fn := fun _ => fun
  | [d1, d2, d3] => { results := [.lit (.bool false)], args := [d1, d2, d3] }
  | _ => none }
def FnExactMatrixWithWrongFalsely : Prop := fnExactMatrixWithRow.holds Try.pinned (OpenSpec.ofChange fnExactMatrixWithWrong)

/-- 'laws.FnExactRankModulo': WHATEVER THE INPUT: true; the input reads as it did. -/
def fnExactRankModuloSpec : ChangeSpec := { name := "fnExactRankModulo", fn := fun _ => fun
  | [d1, d2] => { results := [.lit (.bool true)], args := [d1, d2] }
  | _ => none }
def fnExactRankModuloRow : OpenClaim := { program := "ytabfiafjcnilnaa", sum := "24cfbb4a4d71be48442f8fa64bfe1ed152b4ea254baad5423a519456888a3e7c", func := "loop.example/g01125/laws.FnExactRankModulo", spec := "fnExactRankModulo", unfollowed := true, recurses := true, apart := false }
def FnExactRankModuloSaid : Prop := fnExactRankModuloRow.holds Try.pinned (OpenSpec.ofChange fnExactRankModuloSpec)

/-- ITS FALSE NEIGHBOUR: 'it returns false'. Refute it at one input. -/
def fnExactRankModuloWrong : ChangeSpec := { name := "fnExactRankModulo", fn := fun _ => fun
  | [d1, d2] => { results := [.lit (.bool false)], args := [d1, d2] }
  | _ => none }
def FnExactRankModuloWrongFalsely : Prop := fnExactRankModuloRow.holds Try.pinned (OpenSpec.ofChange fnExactRankModuloWrong)

/-- 'laws.FnExactLeadsOf': WHATEVER THE INPUT: true; the input reads as it did. -/
def fnExactLeadsOfSpec : ChangeSpec := { name := "fnExactLeadsOf", fn := fun _ => fun
  | [d1, d2] => { results := [.lit (.bool true)], args := [d1, d2] }
  | _ => none }
def fnExactLeadsOfRow : OpenClaim := { program := "ytabfiafjcnilnaa", sum := "24cfbb4a4d71be48442f8fa64bfe1ed152b4ea254baad5423a519456888a3e7c", func := "loop.example/g01125/laws.FnExactLeadsOf", spec := "fnExactLeadsOf", unfollowed := true, recurses := true, apart := false }
def FnExactLeadsOfSaid : Prop := fnExactLeadsOfRow.holds Try.pinned (OpenSpec.ofChange fnExactLeadsOfSpec)

/-- ITS FALSE NEIGHBOUR: 'it returns false'. Refute it at one input. -/
def fnExactLeadsOfWrong : ChangeSpec := { name := "fnExactLeadsOf", fn := fun _ => fun
  | [d1, d2] => { results := [.lit (.bool false)], args := [d1, d2] }
  | _ => none }
def FnExactLeadsOfWrongFalsely : Prop := fnExactLeadsOfRow.holds Try.pinned (OpenSpec.ofChange fnExactLeadsOfWrong)

/-- 'laws.FnExactRankCountsPlain': WHATEVER THE INPUT: true; the input reads as it did. -/
def fnExactRankCountsPlainSpec : ChangeSpec := { name := "fnExactRankCountsPlain", fn := fun _ => fun
  | [d1, d2] => { results := [.lit (.bool true)], args := [d1, d2] }
  | _ => none }
def fnExactRankCountsPlainRow : OpenClaim := { program := "ytabfiafjcnilnaa", sum := "24cfbb4a4d71be48442f8fa64bfe1ed152b4ea254baad5423a519456888a3e7c", func := "loop.example/g01125/laws.FnExactRankCountsPlain", spec := "fnExactRankCountsPlain", unfollowed := true, recurses := true, apart := false }
def FnExactRankCountsPlainSaid : Prop := fnExactRankCountsPlainRow.holds Try.pinned (OpenSpec.ofChange fnExactRankCountsPlainSpec)

/-- ITS FALSE NEIGHBOUR: 'it returns false'. Refute it at one input. -/
def fnExactRankCountsPlainWrong : ChangeSpec := { name := "fnExactRankCountsPlain", fn := fun _ => fun
  | [d1, d2] => { results := [.lit (.bool false)], args := [d1, d2] }
  | _ => none }
def FnExactRankCountsPlainWrongFalsely : Prop := fnExactRankCountsPlainRow.holds Try.pinned (OpenSpec.ofChange fnExactRankCountsPlainWrong)

/- THE SECOND FORM. 'bulk': how many values and letters a reading holds, each counted each time it is reached (what is shared counts as often as it is met; a slice's spare places count too). A statement '..UptoSaid' is the law's where the arguments, and the package variables that the reading takes, are together of bulk at most 1048576: NARROWER than '..Said'. Prove '..Said' where nothing that the law and all that it calls make is longer than what came in: it says more and counts as full. Else prove '..UptoSaid'. A law counts once. -/
mutual
def uptoBulk {H : Type} : DataW H → Nat
  | .lit (.string bytes) => bytes.length + 1
  | .lit _ => 1
  | .nil => 1
  | .ptr d => uptoBulk d + 1
  | .slice elems spare => uptoBulkAll elems + uptoBulkAll spare + 1
  | .agg parts => uptoBulkAll parts + 1
  | .iface _ d => uptoBulk d + 1
  | .map entries => uptoBulkEntries entries + 1
  | .held _ => 1
def uptoBulkAll {H : Type} : List (DataW H) → Nat
  | [] => 0
  | d :: r => uptoBulk d + uptoBulkAll r
def uptoBulkEntries {H : Type} : List (Lit × DataW H) → Nat
  | [] => 0
  | x :: r => uptoBulkEntry x + uptoBulkEntries r
def uptoBulkEntry {H : Type} : Lit × DataW H → Nat
  | (.string bytes, d) => bytes.length + uptoBulk d + 1
  | (_, d) => uptoBulk d + 1
 end
def uptoSmall : (H : Type) → List (DataW H) → Bool := fun _ ds => decide (uptoBulkAll ds ≤ 1048576)
def OpenSpec.upto (s : _root_.Go.ChangeSpec) : _root_.Go.OpenSpec := { _root_.Go.OpenSpec.ofChange s with cond := some uptoSmall }

/-- 'laws.FnExactFitsBoard', WHERE WHAT IT READS IS OF BULK AT MOST 1048576: true; the input reads as it did. -/
def fnExactFitsBoardUptoRow : OpenClaim := { program := "ytabfiafjcnilnaa", sum := "24cfbb4a4d71be48442f8fa64bfe1ed152b4ea254baad5423a519456888a3e7c", func := "loop.example/g01125/laws.FnExactFitsBoard", spec := "fnExactFitsBoard", unfollowed := true, recurses := true, apart := false, narrowed := true }
def FnExactFitsBoardUptoSaid : Prop := fnExactFitsBoardUptoRow.holds Try.pinned (OpenSpec.upto fnExactFitsBoardSpec)

/-- 'laws.FnExactMatrixWith', WHERE WHAT IT READS IS OF BULK AT MOST 1048576: true; the input reads as it did. -/
def fnExactMatrixWithUptoRow : OpenClaim := { program := "ytabfiafjcnilnaa", sum := "24cfbb4a4d71be48442f8fa64bfe1ed152b4ea254baad5423a519456888a3e7c", func := "loop.example/g01125/laws.FnExactMatrixWith", spec := "fnExactMatrixWith", unfollowed := true, recurses := true, apart := false, narrowed := true }
def FnExactMatrixWithUptoSaid : Prop := fnExactMatrixWithUptoRow.holds Try.pinned (OpenSpec.upto fnExactMatrixWithSpec)

/-- 'laws.FnExactRankModulo', WHERE WHAT IT READS IS OF BULK AT MOST 1048576: true; the input reads as it did. -/
def fnExactRankModuloUptoRow : OpenClaim := { program := "ytabfiafjcnilnaa", sum := "24cfbb4a4d71be48442f8fa64bfe1ed152b4ea254baad5423a519456888a3e7c", func := "loop.example/g01125/laws.FnExactRankModulo", spec := "fnExactRankModulo", unfollowed := true, recurses := true, apart := false, narrowed := true }
def FnExactRankModuloUptoSaid : Prop := fnExactRankModuloUptoRow.holds Try.pinned (OpenSpec.upto fnExactRankModuloSpec)

/-- 'laws.FnExactLeadsOf', WHERE WHAT IT READS IS OF BULK AT MOST 1048576: true; the input reads as it did. -/
def fnExactLeadsOfUptoRow : OpenClaim := { program := "ytabfiafjcnilnaa", sum := "24cfbb4a4d71be48442f8fa64bfe1ed152b4ea254baad5423a519456888a3e7c", func := "loop.example/g01125/laws.FnExactLeadsOf", spec := "fnExactLeadsOf", unfollowed := true, recurses := true, apart := false, narrowed := true }
def FnExactLeadsOfUptoSaid : Prop := fnExactLeadsOfUptoRow.holds Try.pinned (OpenSpec.upto fnExactLeadsOfSpec)

/-- 'laws.FnExactRankCountsPlain', WHERE WHAT IT READS IS OF BULK AT MOST 1048576: true; the input reads as it did. -/
def fnExactRankCountsPlainUptoRow : OpenClaim := { program := "ytabfiafjcnilnaa", sum := "24cfbb4a4d71be48442f8fa64bfe1ed152b4ea254baad5423a519456888a3e7c", func := "loop.example/g01125/laws.FnExactRankCountsPlain", spec := "fnExactRankCountsPlain", unfollowed := true, recurses := true, apart := false, narrowed := true }
def FnExactRankCountsPlainUptoSaid : Prop := fnExactRankCountsPlainUptoRow.holds Try.pinned (OpenSpec.upto fnExactRankCountsPlainSpec)

end Rows
end Go.Proofs.Ytabfiafjcnilnaa
