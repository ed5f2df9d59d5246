/-
  No cell of these rows narrows 'for every input' (looked for: loops, veiled, ifaces, maps, wideKeys, modest, calm, conditions, laid).
  DERIVED. THE GIVEN ROWS OF THIS SEAT. 3 by the template 'for every input the law returns true; each argument reads behind the call as it read before'; 0 by the template 'total and deterministic' (their statements: YtaipcmplpjkebaaTotals.lean).
  GIVEN WITH THE SEED: the statements are not yours to turn. If you find one false, say at which input.
  Laid BY PROGRAM, IN A SANDBOX (cutbox-rows.mjs): the forced cells as the released guide's own fill.sh prints them over the translation 0d1cbe025f1e005d… (all of the seat's roots in one cut). By AI agents, Wed Nov 11 2026. No macro, syntax, notation, axiom, sorry.
-/
import Derived.Test.YtaipcmplpjkebaaChecked
import GoSem.Claim
import GoSem.ClaimJoined
import GoSem.ClaimMapViews
import Derived.JoinedTies
import Derived.KernelRfl
namespace Go.Proofs.Ytaipcmplpjkebaa
/- THE CELL 'sum', in the pinned program and in every row, IS THE sha256 OF THE DUMP (.gsa) THAT YtaipcmplpjkebaaProg.lean LOADS. Nothing in Lean hashes anything: it is a label: what it is worth is what the hold of that sum in a sandbox is worth. -/
noncomputable def Try.pinned : Pinned := { name := "ytaipcmplpjkebaa", sum := "0d1cbe025f1e005d585425e17a628c6ced0379b4e0df4273815c2a4daee77dc9", checked := Try.checked }
namespace Rows
def none {H : Type} : Left H := { results := [], args := [] }

/-- 'laws.FnKnownHits': WHATEVER THE INPUT: true; the input reads as it did. -/
def fnKnownHitsSpec : ChangeSpec := { name := "fnKnownHits", fn := fun _ => fun
  | [d1, d2] => { results := [.lit (.bool true)], args := [d1, d2] }
  | _ => none }
def fnKnownHitsRow : OpenClaim := { program := "ytaipcmplpjkebaa", sum := "0d1cbe025f1e005d585425e17a628c6ced0379b4e0df4273815c2a4daee77dc9", func := "loop.example/g01125/laws.FnKnownHits", spec := "fnKnownHits", unfollowed := true, recurses := true, apart := false }
def FnKnownHitsSaid : Prop := fnKnownHitsRow.holds Try.pinned (OpenSpec.ofChange fnKnownHitsSpec)

/-- ITS FALSE NEIGHBOUR: 'it returns false'. Refute it at one input. -/
def fnKnownHitsWrong : ChangeSpec := { name := "fnKnownHits", fn := fun _ => fun
  | [d1, d2] => { results := [.lit (.bool false)], args := [d1, d2] }
  | _ => none }
def FnKnownHitsWrongFalsely : Prop := fnKnownHitsRow.holds Try.pinned (OpenSpec.ofChange fnKnownHitsWrong)

/-- 'laws.FnFilesCounted': WHATEVER THE INPUT: true; the input reads as it did. -/
def fnFilesCountedSpec : ChangeSpec := { name := "fnFilesCounted", fn := fun _ => fun
  | [d1, d2] => { results := [.lit (.bool true)], args := [d1, d2] }
  | _ => none }
def fnFilesCountedRow : OpenClaim := { program := "ytaipcmplpjkebaa", sum := "0d1cbe025f1e005d585425e17a628c6ced0379b4e0df4273815c2a4daee77dc9", func := "loop.example/g01125/laws.FnFilesCounted", spec := "fnFilesCounted", unfollowed := true, recurses := true, apart := false }
def FnFilesCountedSaid : Prop := fnFilesCountedRow.holds Try.pinned (OpenSpec.ofChange fnFilesCountedSpec)

/-- ITS FALSE NEIGHBOUR: 'it returns false'. Refute it at one input. -/
def fnFilesCountedWrong : ChangeSpec := { name := "fnFilesCounted", fn := fun _ => fun
  | [d1, d2] => { results := [.lit (.bool false)], args := [d1, d2] }
  | _ => none }
def FnFilesCountedWrongFalsely : Prop := fnFilesCountedRow.holds Try.pinned (OpenSpec.ofChange fnFilesCountedWrong)

/-- 'laws.FnHitsAndRooks': WHATEVER THE INPUT: true; the input reads as it did. -/
def fnHitsAndRooksSpec : ChangeSpec := { name := "fnHitsAndRooks", fn := fun _ => fun
  | [d1, d2] => { results := [.lit (.bool true)], args := [d1, d2] }
  | _ => none }
def fnHitsAndRooksRow : OpenClaim := { program := "ytaipcmplpjkebaa", sum := "0d1cbe025f1e005d585425e17a628c6ced0379b4e0df4273815c2a4daee77dc9", func := "loop.example/g01125/laws.FnHitsAndRooks", spec := "fnHitsAndRooks", unfollowed := true, recurses := true, apart := false }
def FnHitsAndRooksSaid : Prop := fnHitsAndRooksRow.holds Try.pinned (OpenSpec.ofChange fnHitsAndRooksSpec)

/-- ITS FALSE NEIGHBOUR: 'it returns false'. Refute it at one input. -/
def fnHitsAndRooksWrong : ChangeSpec := { name := "fnHitsAndRooks", fn := fun _ => fun
  | [d1, d2] => { results := [.lit (.bool false)], args := [d1, d2] }
  | _ => none }
def FnHitsAndRooksWrongFalsely : Prop := fnHitsAndRooksRow.holds Try.pinned (OpenSpec.ofChange fnHitsAndRooksWrong)

/- THE SECOND FORM. 'bulk': how many values and letters a reading holds, each counted each time it is reached (what is shared counts as often as it is met; a slice's spare places count too). A statement '..UptoSaid' is the law's where the arguments, and the package variables that the reading takes, are together of bulk at most 1048576: NARROWER than '..Said'. Prove '..Said' where nothing that the law and all that it calls make is longer than what came in: it says more and counts as full. Else prove '..UptoSaid'. A law counts once. -/
mutual
def uptoBulk {H : Type} : DataW H → Nat
  | .lit (.string bytes) => bytes.length + 1
  | .lit _ => 1
  | .nil => 1
  | .ptr d => uptoBulk d + 1
  | .slice elems spare => uptoBulkAll elems + uptoBulkAll spare + 1
  | .agg parts => uptoBulkAll parts + 1
  | .iface _ d => uptoBulk d + 1
  | .map entries => uptoBulkEntries entries + 1
  | .held _ => 1
def uptoBulkAll {H : Type} : List (DataW H) → Nat
  | [] => 0
  | d :: r => uptoBulk d + uptoBulkAll r
def uptoBulkEntries {H : Type} : List (Lit × DataW H) → Nat
  | [] => 0
  | x :: r => uptoBulkEntry x + uptoBulkEntries r
def uptoBulkEntry {H : Type} : Lit × DataW H → Nat
  | (.string bytes, d) => bytes.length + uptoBulk d + 1
  | (_, d) => uptoBulk d + 1
 end
def uptoSmall : (H : Type) → List (DataW H) → Bool := fun _ ds => decide (uptoBulkAll ds ≤ 1048576)
def OpenSpec.upto (s : _root_.Go.ChangeSpec) : _root_.Go.OpenSpec := { _root_.Go.OpenSpec.ofChange s with cond := some uptoSmall }

/-- 'laws.FnKnownHits', WHERE WHAT IT READS IS OF BULK AT MOST 1048576: true; the input reads as it did. -/
def fnKnownHitsUptoRow : OpenClaim := { program := "ytaipcmplpjkebaa", sum := "0d1cbe025f1e005d585425e17a628c6ced0379b4e0df4273815c2a4daee77dc9", func := "loop.example/g01125/laws.FnKnownHits", spec := "fnKnownHits", unfollowed := true, recurses := true, apart := false, narrowed := true }
def FnKnownHitsUptoSaid : Prop := fnKnownHitsUptoRow.holds Try.pinned (OpenSpec.upto fnKnownHitsSpec)

/-- 'laws.FnFilesCounted', WHERE WHAT IT READS IS OF BULK AT MOST 1048576: true; the input reads as it did. -/
def fnFilesCountedUptoRow : OpenClaim := { program := "ytaipcmplpjkebaa", sum := "0d1cbe025f1e005d585425e17a628c6ced0379b4e0df4273815c2a4daee77dc9", func := "loop.example/g01125/laws.FnFilesCounted", spec := "fnFilesCounted", unfollowed := true, recurses := true, apart := false, narrowed := true }
def FnFilesCountedUptoSaid : Prop := fnFilesCountedUptoRow.holds Try.pinned (OpenSpec.upto fnFilesCountedSpec)

/-- 'laws.FnHitsAndRooks', WHERE WHAT IT READS IS OF BULK AT MOST 1048576: true; the input reads as it did. -/
def fnHitsAndRooksUptoRow : OpenClaim := { program := "ytaipcmplpjkebaa", sum := "0d1cbe025f1e005d585425e17a628c6ced0379b4e0df4273815c2a4daee77dc9", func := "loop.example/g01125/laws.FnHitsAndRooks", spec := "fnHitsAndRooks", unfollowed := true, recurses := true, apart := false, narrowed := true }
def FnHitsAndRooksUptoSaid : Prop := fnHitsAndRooksUptoRow.holds Try.pinned (OpenSpec.upto fnHitsAndRooksSpec)

end Rows
end Go.Proofs.Ytaipcmplpjkebaa
