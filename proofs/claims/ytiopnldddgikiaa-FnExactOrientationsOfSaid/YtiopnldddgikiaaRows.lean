/-
  No cell of these rows narrows 'for every input' (looked for: loops, veiled, ifaces, maps, wideKeys, modest, calm, conditions, laid).
  DERIVED. THE GIVEN ROWS OF THIS SEAT. 9 by the template 'for every input the law returns true; each argument reads behind the call as it read before'; 0 by the template 'total and deterministic' (their statements: YtiopnldddgikiaaTotals.lean).
  GIVEN WITH THE SEED: the statements are not yours to turn. If you find one false, say at which input.
  Laid BY PROGRAM, IN A SANDBOX (cutbox-rows.mjs): the forced cells as the released guide's own fill.sh prints them over the translation c265db2fe7917034… (all of the seat's roots in one cut). By AI agents, Wed Nov 11 2026. No macro, syntax, notation, axiom, sorry.
-/
import Derived.Test.YtiopnldddgikiaaChecked
import GoSem.Claim
import GoSem.ClaimJoined
import GoSem.ClaimMapViews
import Derived.JoinedTies
import Derived.KernelRfl
namespace Go.Proofs.Ytiopnldddgikiaa
/- THE CELL 'sum', in the pinned program and in every row, IS THE sha256 OF THE DUMP (.gsa) THAT YtiopnldddgikiaaProg.lean LOADS. Nothing in Lean hashes anything: it is a label: what it is worth is what the hold of that sum in a sandbox is worth. -/
noncomputable def Try.pinned : Pinned := { name := "ytiopnldddgikiaa", sum := "c265db2fe7917034131208a6256c9c300880eeeb420cd8573c4f3adf3a6b051f", checked := Try.checked }
namespace Rows
def none {H : Type} : Left H := { results := [], args := [] }

/-- 'laws.FnExactTurnShape': WHATEVER THE INPUT: true; the input reads as it did. -/
def fnExactTurnShapeSpec : ChangeSpec := { name := "fnExactTurnShape", fn := fun _ => fun
  | [d1, d2] => { results := [.lit (.bool true)], args := [d1, d2] }
  | _ => none }
def fnExactTurnShapeRow : OpenClaim := { program := "ytiopnldddgikiaa", sum := "c265db2fe7917034131208a6256c9c300880eeeb420cd8573c4f3adf3a6b051f", func := "loop.example/g03400/laws.FnExactTurnShape", spec := "fnExactTurnShape", unfollowed := true, recurses := true, apart := false }
def FnExactTurnShapeSaid : Prop := fnExactTurnShapeRow.holds Try.pinned (OpenSpec.ofChange fnExactTurnShapeSpec)

/-- ITS FALSE NEIGHBOUR: 'it returns false'. Refute it at one input. -/
def fnExactTurnShapeWrong : ChangeSpec := { name := "fnExactTurnShape", fn := fun _ => fun
  | [d1, d2] => { results := [.lit (.bool false)], args := [d1, d2] }
  | _ => none }
def FnExactTurnShapeWrongFalsely : Prop := fnExactTurnShapeRow.holds Try.pinned (OpenSpec.ofChange fnExactTurnShapeWrong)

/-- 'laws.FnExactComposeMotions': WHATEVER THE INPUT: true; the input reads as it did. -/
def fnExactComposeMotionsSpec : ChangeSpec := { name := "fnExactComposeMotions", fn := fun _ => fun
  | [d1, d2] => { results := [.lit (.bool true)], args := [d1, d2] }
  | _ => none }
def fnExactComposeMotionsRow : OpenClaim := { program := "ytiopnldddgikiaa", sum := "c265db2fe7917034131208a6256c9c300880eeeb420cd8573c4f3adf3a6b051f", func := "loop.example/g03400/laws.FnExactComposeMotions", spec := "fnExactComposeMotions", apart := false }
def FnExactComposeMotionsSaid : Prop := fnExactComposeMotionsRow.holds Try.pinned (OpenSpec.ofChange fnExactComposeMotionsSpec)

/-- ITS FALSE NEIGHBOUR: 'it returns false'. Refute it at one input. -/
def fnExactComposeMotionsWrong : ChangeSpec := { name := "fnExactComposeMotions", fn := fun _ => fun
  | [d1, d2] => { results := [.lit (.bool false)], args := [d1, d2] }
  | _ => none }
def FnExactComposeMotionsWrongFalsely : Prop := fnExactComposeMotionsRow.holds Try.pinned (OpenSpec.ofChange fnExactComposeMotionsWrong)

/-- 'laws.FnExactInverseMotion': WHATEVER THE INPUT: true; the input reads as it did. -/
def fnExactInverseMotionSpec : ChangeSpec := { name := "fnExactInverseMotion", fn := fun _ => fun
  | [d] => { results := [.lit (.bool true)], args := [d] }
  | _ => none }
def fnExactInverseMotionRow : OpenClaim := { program := "ytiopnldddgikiaa", sum := "c265db2fe7917034131208a6256c9c300880eeeb420cd8573c4f3adf3a6b051f", func := "loop.example/g03400/laws.FnExactInverseMotion", spec := "fnExactInverseMotion", apart := false }
def FnExactInverseMotionSaid : Prop := fnExactInverseMotionRow.holds Try.pinned (OpenSpec.ofChange fnExactInverseMotionSpec)

/-- ITS FALSE NEIGHBOUR: 'it returns false'. Refute it at one input. -/
def fnExactInverseMotionWrong : ChangeSpec := { name := "fnExactInverseMotion", fn := fun _ => fun
  | [d] => { results := [.lit (.bool false)], args := [d] }
  | _ => none }
def FnExactInverseMotionWrongFalsely : Prop := fnExactInverseMotionRow.holds Try.pinned (OpenSpec.ofChange fnExactInverseMotionWrong)

/-- 'laws.FnExactOrientationsOf': WHATEVER THE INPUT: true; the input reads as it did. -/
def fnExactOrientationsOfSpec : ChangeSpec := { name := "fnExactOrientationsOf", fn := fun _ => fun
  | [d] => { results := [.lit (.bool true)], args := [d] }
  | _ => none }
def fnExactOrientationsOfRow : OpenClaim := { program := "ytiopnldddgikiaa", sum := "c265db2fe7917034131208a6256c9c300880eeeb420cd8573c4f3adf3a6b051f", func := "loop.example/g03400/laws.FnExactOrientationsOf", spec := "fnExactOrientationsOf", unfollowed := true, recurses := true, apart := false }
def FnExactOrientationsOfSaid : Prop := fnExactOrientationsOfRow.holds Try.pinned (OpenSpec.ofChange fnExactOrientationsOfSpec)

/-- ITS FALSE NEIGHBOUR: 'it returns false'. Refute it at one input. -/
def fnExactOrientationsOfWrong : ChangeSpec := { name := "fnExactOrientationsOf", fn := fun _ => fun
  | [d] => { results := [.lit (.bool false)], args := [d] }
  | _ => none }
def FnExactOrientationsOfWrongFalsely : Prop := fnExactOrientationsOfRow.holds Try.pinned (OpenSpec.ofChange fnExactOrientationsOfWrong)

/-- 'laws.FnExactCanonicalShape': WHATEVER THE INPUT: true; the input reads as it did. -/
def fnExactCanonicalShapeSpec : ChangeSpec := { name := "fnExactCanonicalShape", fn := fun _ => fun
  | [d] => { results := [.lit (.bool true)], args := [d] }
  | _ => none }
def fnExactCanonicalShapeRow : OpenClaim := { program := "ytiopnldddgikiaa", sum := "c265db2fe7917034131208a6256c9c300880eeeb420cd8573c4f3adf3a6b051f", func := "loop.example/g03400/laws.FnExactCanonicalShape", spec := "fnExactCanonicalShape", unfollowed := true, recurses := true, apart := false }
def FnExactCanonicalShapeSaid : Prop := fnExactCanonicalShapeRow.holds Try.pinned (OpenSpec.ofChange fnExactCanonicalShapeSpec)

/-- ITS FALSE NEIGHBOUR: 'it returns false'. Refute it at one input. -/
def fnExactCanonicalShapeWrong : ChangeSpec := { name := "fnExactCanonicalShape", fn := fun _ => fun
  | [d] => { results := [.lit (.bool false)], args := [d] }
  | _ => none }
def FnExactCanonicalShapeWrongFalsely : Prop := fnExactCanonicalShapeRow.holds Try.pinned (OpenSpec.ofChange fnExactCanonicalShapeWrong)

/-- 'laws.FnExactSymmetriesOf': WHATEVER THE INPUT: true; the input reads as it did. -/
def fnExactSymmetriesOfSpec : ChangeSpec := { name := "fnExactSymmetriesOf", fn := fun _ => fun
  | [d] => { results := [.lit (.bool true)], args := [d] }
  | _ => none }
def fnExactSymmetriesOfRow : OpenClaim := { program := "ytiopnldddgikiaa", sum := "c265db2fe7917034131208a6256c9c300880eeeb420cd8573c4f3adf3a6b051f", func := "loop.example/g03400/laws.FnExactSymmetriesOf", spec := "fnExactSymmetriesOf", unfollowed := true, recurses := true, apart := false }
def FnExactSymmetriesOfSaid : Prop := fnExactSymmetriesOfRow.holds Try.pinned (OpenSpec.ofChange fnExactSymmetriesOfSpec)

/-- ITS FALSE NEIGHBOUR: 'it returns false'. Refute it at one input. -/
def fnExactSymmetriesOfWrong : ChangeSpec := { name := "fnExactSymmetriesOf", fn := fun _ => fun
  | [d] => { results := [.lit (.bool false)], args := [d] }
  | _ => none }
def FnExactSymmetriesOfWrongFalsely : Prop := fnExactSymmetriesOfRow.holds Try.pinned (OpenSpec.ofChange fnExactSymmetriesOfWrong)

/-- 'laws.FnExactIsCongruent': WHATEVER THE INPUT: true; the input reads as it did. -/
def fnExactIsCongruentSpec : ChangeSpec := { name := "fnExactIsCongruent", fn := fun _ => fun
  | [d1, d2] => { results := [.lit (.bool true)], args := [d1, d2] }
  | _ => none }
def fnExactIsCongruentRow : OpenClaim := { program := "ytiopnldddgikiaa", sum := "c265db2fe7917034131208a6256c9c300880eeeb420cd8573c4f3adf3a6b051f", func := "loop.example/g03400/laws.FnExactIsCongruent", spec := "fnExactIsCongruent", unfollowed := true, recurses := true, apart := false }
def FnExactIsCongruentSaid : Prop := fnExactIsCongruentRow.holds Try.pinned (OpenSpec.ofChange fnExactIsCongruentSpec)

/-- ITS FALSE NEIGHBOUR: 'it returns false'. Refute it at one input. -/
def fnExactIsCongruentWrong : ChangeSpec := { name := "fnExactIsCongruent", fn := fun _ => fun
  | [d1, d2] => { results := [.lit (.bool false)], args := [d1, d2] }
  | _ => none }
def FnExactIsCongruentWrongFalsely : Prop := fnExactIsCongruentRow.holds Try.pinned (OpenSpec.ofChange fnExactIsCongruentWrong)

/-- 'laws.FnExactCompareShapes': WHATEVER THE INPUT: true; the input reads as it did. -/
def fnExactCompareShapesSpec : ChangeSpec := { name := "fnExactCompareShapes", fn := fun _ => fun
  | [d1, d2] => { results := [.lit (.bool true)], args := [d1, d2] }
  | _ => none }
def fnExactCompareShapesRow : OpenClaim := { program := "ytiopnldddgikiaa", sum := "c265db2fe7917034131208a6256c9c300880eeeb420cd8573c4f3adf3a6b051f", func := "loop.example/g03400/laws.FnExactCompareShapes", spec := "fnExactCompareShapes", unfollowed := true, recurses := true, apart := false }
def FnExactCompareShapesSaid : Prop := fnExactCompareShapesRow.holds Try.pinned (OpenSpec.ofChange fnExactCompareShapesSpec)

/-- ITS FALSE NEIGHBOUR: 'it returns false'. Refute it at one input. -/
def fnExactCompareShapesWrong : ChangeSpec := { name := "fnExactCompareShapes", fn := fun _ => fun
  | [d1, d2] => { results := [.lit (.bool false)], args := [d1, d2] }
  | _ => none }
def FnExactCompareShapesWrongFalsely : Prop := fnExactCompareShapesRow.holds Try.pinned (OpenSpec.ofChange fnExactCompareShapesWrong)

/-- 'laws.FnExactIsChiral': WHATEVER THE INPUT: true; the input reads as it did. -/
def fnExactIsChiralSpec : ChangeSpec := { name := "fnExactIsChiral", fn := fun _ => fun
  | [d] => { results := [.lit (.bool true)], args := [d] }
  | _ => none }
def fnExactIsChiralRow : OpenClaim := { program := "ytiopnldddgikiaa", sum := "c265db2fe7917034131208a6256c9c300880eeeb420cd8573c4f3adf3a6b051f", func := "loop.example/g03400/laws.FnExactIsChiral", spec := "fnExactIsChiral", unfollowed := true, recurses := true, apart := false }
def FnExactIsChiralSaid : Prop := fnExactIsChiralRow.holds Try.pinned (OpenSpec.ofChange fnExactIsChiralSpec)

/-- ITS FALSE NEIGHBOUR: 'it returns false'. Refute it at one input. -/
def fnExactIsChiralWrong : ChangeSpec := { name := "fnExactIsChiral", fn := fun _ => fun
  | [d] => { results := [.lit (.bool false)], args := [d] }
  | _ => none }
def FnExactIsChiralWrongFalsely : Prop := fnExactIsChiralRow.holds Try.pinned (OpenSpec.ofChange fnExactIsChiralWrong)

/- THE SECOND FORM. 'bulk': how many values and letters a reading holds, each counted each time it is reached (what is shared counts as often as it is met; a slice's spare places count too). A statement '..UptoSaid' is the law's where the arguments, and the package variables that the reading takes, are together of bulk at most 1048576: NARROWER than '..Said'. Prove '..Said' where nothing that the law and all that it calls make is longer than what came in: it says more and counts as full. Else prove '..UptoSaid'. A law counts once. -/
mutual
def uptoBulk {H : Type} : DataW H → Nat
  | .lit (.string bytes) => bytes.length + 1
  | .lit _ => 1
  | .nil => 1
  | .ptr d => uptoBulk d + 1
  | .slice elems spare => uptoBulkAll elems + uptoBulkAll spare + 1
  | .agg parts => uptoBulkAll parts + 1
  | .iface _ d => uptoBulk d + 1
  | .map entries => uptoBulkEntries entries + 1
  | .held _ => 1
def uptoBulkAll {H : Type} : List (DataW H) → Nat
  | [] => 0
  | d :: r => uptoBulk d + uptoBulkAll r
def uptoBulkEntries {H : Type} : List (Lit × DataW H) → Nat
  | [] => 0
  | x :: r => uptoBulkEntry x + uptoBulkEntries r
def uptoBulkEntry {H : Type} : Lit × DataW H → Nat
  | (.string bytes, d) => bytes.length + uptoBulk d + 1
  | (_, d) => uptoBulk d + 1
 end
def uptoSmall : (H : Type) → List (DataW H) → Bool := fun _ ds => decide (uptoBulkAll ds ≤ 1048576)
def OpenSpec.upto (s : _root_.Go.ChangeSpec) : _root_.Go.OpenSpec := { _root_.Go.OpenSpec.ofChange s with cond := some uptoSmall }

/-- 'laws.FnExactTurnShape', WHERE WHAT IT READS IS OF BULK AT MOST 1048576: true; the input reads as it did. -/
def fnExactTurnShapeUptoRow : OpenClaim := { program := "ytiopnldddgikiaa", sum := "c265db2fe7917034131208a6256c9c300880eeeb420cd8573c4f3adf3a6b051f", func := "loop.example/g03400/laws.FnExactTurnShape", spec := "fnExactTurnShape", unfollowed := true, recurses := true, apart := false, narrowed := true }
def FnExactTurnShapeUptoSaid : Prop := fnExactTurnShapeUptoRow.holds Try.pinned (OpenSpec.upto fnExactTurnShapeSpec)

/-- 'laws.FnExactComposeMotions', WHERE WHAT IT READS IS OF BULK AT MOST 1048576: true; the input reads as it did. -/
def fnExactComposeMotionsUptoRow : OpenClaim := { program := "ytiopnldddgikiaa", sum := "c265db2fe7917034131208a6256c9c300880eeeb420cd8573c4f3adf3a6b051f", func := "loop.example/g03400/laws.FnExactComposeMotions", spec := "fnExactComposeMotions", apart := false, narrowed := true }
def FnExactComposeMotionsUptoSaid : Prop := fnExactComposeMotionsUptoRow.holds Try.pinned (OpenSpec.upto fnExactComposeMotionsSpec)

/-- 'laws.FnExactInverseMotion', WHERE WHAT IT READS IS OF BULK AT MOST 1048576: true; the input reads as it did. -/
def fnExactInverseMotionUptoRow : OpenClaim := { program := "ytiopnldddgikiaa", sum := "c265db2fe7917034131208a6256c9c300880eeeb420cd8573c4f3adf3a6b051f", func := "loop.example/g03400/laws.FnExactInverseMotion", spec := "fnExactInverseMotion", apart := false, narrowed := true }
def FnExactInverseMotionUptoSaid : Prop := fnExactInverseMotionUptoRow.holds Try.pinned (OpenSpec.upto fnExactInverseMotionSpec)

/-- 'laws.FnExactOrientationsOf', WHERE WHAT IT READS IS OF BULK AT MOST 1048576: true; the input reads as it did. -/
def fnExactOrientationsOfUptoRow : OpenClaim := { program := "ytiopnldddgikiaa", sum := "c265db2fe7917034131208a6256c9c300880eeeb420cd8573c4f3adf3a6b051f", func := "loop.example/g03400/laws.FnExactOrientationsOf", spec := "fnExactOrientationsOf", unfollowed := true, recurses := true, apart := false, narrowed := true }
def FnExactOrientationsOfUptoSaid : Prop := fnExactOrientationsOfUptoRow.holds Try.pinned (OpenSpec.upto fnExactOrientationsOfSpec)

/-- 'laws.FnExactCanonicalShape', WHERE WHAT IT READS IS OF BULK AT MOST 1048576: true; the input reads as it did. -/
def fnExactCanonicalShapeUptoRow : OpenClaim := { program := "ytiopnldddgikiaa", sum := "c265db2fe7917034131208a6256c9c300880eeeb420cd8573c4f3adf3a6b051f", func := "loop.example/g03400/laws.FnExactCanonicalShape", spec := "fnExactCanonicalShape", unfollowed := true, recurses := true, apart := false, narrowed := true }
def FnExactCanonicalShapeUptoSaid : Prop := fnExactCanonicalShapeUptoRow.holds Try.pinned (OpenSpec.upto fnExactCanonicalShapeSpec)

/-- 'laws.FnExactSymmetriesOf', WHERE WHAT IT READS IS OF BULK AT MOST 1048576: true; the input reads as it did. -/
def fnExactSymmetriesOfUptoRow : OpenClaim := { program := "ytiopnldddgikiaa", sum := "c265db2fe7917034131208a6256c9c300880eeeb420cd8573c4f3adf3a6b051f", func := "loop.example/g03400/laws.FnExactSymmetriesOf", spec := "fnExactSymmetriesOf", unfollowed := true, recurses := true, apart := false, narrowed := true }
def FnExactSymmetriesOfUptoSaid : Prop := fnExactSymmetriesOfUptoRow.holds Try.pinned (OpenSpec.upto fnExactSymmetriesOfSpec)

/-- 'laws.FnExactIsCongruent', WHERE WHAT IT READS IS OF BULK AT MOST 1048576: true; the input reads as it did. -/
def fnExactIsCongruentUptoRow : OpenClaim := { program := "ytiopnldddgikiaa", sum := "c265db2fe7917034131208a6256c9c300880eeeb420cd8573c4f3adf3a6b051f", func := "loop.example/g03400/laws.FnExactIsCongruent", spec := "fnExactIsCongruent", unfollowed := true, recurses := true, apart := false, narrowed := true }
def FnExactIsCongruentUptoSaid : Prop := fnExactIsCongruentUptoRow.holds Try.pinned (OpenSpec.upto fnExactIsCongruentSpec)

/-- 'laws.FnExactCompareShapes', WHERE WHAT IT READS IS OF BULK AT MOST 1048576: true; the input reads as it did. -/
def fnExactCompareShapesUptoRow : OpenClaim := { program := "ytiopnldddgikiaa", sum := "c265db2fe7917034131208a6256c9c300880eeeb420cd8573c4f3adf3a6b051f", func := "loop.example/g03400/laws.FnExactCompareShapes", spec := "fnExactCompareShapes", unfollowed := true, recurses := true, apart := false, narrowed := true }
def FnExactCompareShapesUptoSaid : Prop := fnExactCompareShapesUptoRow.holds Try.pinned (OpenSpec.upto fnExactCompareShapesSpec)

/-- 'laws.FnExactIsChiral', WHERE WHAT IT READS IS OF BULK AT MOST 1048576: true; the input reads as it did. -/
def fnExactIsChiralUptoRow : OpenClaim := { program := "ytiopnldddgikiaa", sum := "c265db2fe7917034131208a6256c9c300880eeeb420cd8573c4f3adf3a6b051f", func := "loop.example/g03400/laws.FnExactIsChiral", spec := "fnExactIsChiral", unfollowed := true, recurses := true, apart := false, narrowed := true }
def FnExactIsChiralUptoSaid : Prop := fnExactIsChiralUptoRow.holds Try.pinned (OpenSpec.upto fnExactIsChiralSpec)

end Rows
end Go.Proofs.Ytiopnldddgikiaa
