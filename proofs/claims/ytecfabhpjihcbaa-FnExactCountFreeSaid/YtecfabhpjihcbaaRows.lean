/-
  No cell of these rows narrows 'for every input' (looked for: loops, veiled, ifaces, maps, wideKeys, modest, calm, conditions, laid).
  DERIVED. THE GIVEN ROWS OF THIS SEAT. 12 by the template 'for every input the law returns true; each argument reads behind the call as it read before'; 0 by the template 'total and deterministic' (their statements: YtecfabhpjihcbaaTotals.lean).
  GIVEN WITH THE SEED: the statements are not yours to turn. If you find one false, say at which input.
  Laid BY PROGRAM, IN A SANDBOX (cutbox-rows.mjs): the forced cells as the released guide's own fill.sh prints them over the translation 1e74a7ec078df2e5… (all of the seat's roots in one cut). By AI agents, Wed Nov 11 2026. No macro, syntax, notation, axiom, sorry.
-/
import Derived.Test.YtecfabhpjihcbaaChecked
import GoSem.Claim
import GoSem.ClaimJoined
import GoSem.ClaimMapViews
import Derived.JoinedTies
import Derived.KernelRfl
namespace Go.Proofs.Ytecfabhpjihcbaa
/- THE CELL 'sum', in the pinned program and in every row, IS THE sha256 OF THE DUMP (.gsa) THAT YtecfabhpjihcbaaProg.lean LOADS. Nothing in Lean hashes anything: it is a label: what it is worth is what the hold of that sum in a sandbox is worth. -/
noncomputable def Try.pinned : Pinned := { name := "ytecfabhpjihcbaa", sum := "1e74a7ec078df2e5c79f3b677c3e9f91adec50cb4b16faad4be5d86304864ebf", checked := Try.checked }
namespace Rows
def none {H : Type} : Left H := { results := [], args := [] }

/-- 'laws.FnExactTurnShape': WHATEVER THE INPUT: true; the input reads as it did. -/
def fnExactTurnShapeSpec : ChangeSpec := { name := "fnExactTurnShape", fn := fun _ => fun
  | [d1, d2] => { results := [.lit (.bool true)], args := [d1, d2] }
  | _ => none }
def fnExactTurnShapeRow : OpenClaim := { program := "ytecfabhpjihcbaa", sum := "1e74a7ec078df2e5c79f3b677c3e9f91adec50cb4b16faad4be5d86304864ebf", func := "loop.example/g03400/laws.FnExactTurnShape", spec := "fnExactTurnShape", unfollowed := true, recurses := true, plainKeys := false, apart := false }
def FnExactTurnShapeSaid : Prop := fnExactTurnShapeRow.holds Try.pinned (OpenSpec.ofChange fnExactTurnShapeSpec)

/-- ITS FALSE NEIGHBOUR: 'it returns false'. Refute it at one input. -/
def fnExactTurnShapeWrong : ChangeSpec := { name := "fnExactTurnShape", fn := fun _ => fun
  | [d1, d2] => { results := [.lit (.bool false)], args := [d1, d2] }
  | _ => none }
def FnExactTurnShapeWrongFalsely : Prop := fnExactTurnShapeRow.holds Try.pinned (OpenSpec.ofChange fnExactTurnShapeWrong)

/-- 'laws.FnExactOrientationsOf': WHATEVER THE INPUT: true; the input reads as it did. -/
def fnExactOrientationsOfSpec : ChangeSpec := { name := "fnExactOrientationsOf", fn := fun _ => fun
  | [d] => { results := [.lit (.bool true)], args := [d] }
  | _ => none }
def fnExactOrientationsOfRow : OpenClaim := { program := "ytecfabhpjihcbaa", sum := "1e74a7ec078df2e5c79f3b677c3e9f91adec50cb4b16faad4be5d86304864ebf", func := "loop.example/g03400/laws.FnExactOrientationsOf", spec := "fnExactOrientationsOf", unfollowed := true, recurses := true, plainKeys := false, apart := false }
def FnExactOrientationsOfSaid : Prop := fnExactOrientationsOfRow.holds Try.pinned (OpenSpec.ofChange fnExactOrientationsOfSpec)

/-- ITS FALSE NEIGHBOUR: 'it returns false'. Refute it at one input. -/
def fnExactOrientationsOfWrong : ChangeSpec := { name := "fnExactOrientationsOf", fn := fun _ => fun
  | [d] => { results := [.lit (.bool false)], args := [d] }
  | _ => none }
def FnExactOrientationsOfWrongFalsely : Prop := fnExactOrientationsOfRow.holds Try.pinned (OpenSpec.ofChange fnExactOrientationsOfWrong)

/-- 'laws.FnExactCanonicalShape': WHATEVER THE INPUT: true; the input reads as it did. -/
def fnExactCanonicalShapeSpec : ChangeSpec := { name := "fnExactCanonicalShape", fn := fun _ => fun
  | [d] => { results := [.lit (.bool true)], args := [d] }
  | _ => none }
def fnExactCanonicalShapeRow : OpenClaim := { program := "ytecfabhpjihcbaa", sum := "1e74a7ec078df2e5c79f3b677c3e9f91adec50cb4b16faad4be5d86304864ebf", func := "loop.example/g03400/laws.FnExactCanonicalShape", spec := "fnExactCanonicalShape", unfollowed := true, recurses := true, plainKeys := false, apart := false }
def FnExactCanonicalShapeSaid : Prop := fnExactCanonicalShapeRow.holds Try.pinned (OpenSpec.ofChange fnExactCanonicalShapeSpec)

/-- ITS FALSE NEIGHBOUR: 'it returns false'. Refute it at one input. -/
def fnExactCanonicalShapeWrong : ChangeSpec := { name := "fnExactCanonicalShape", fn := fun _ => fun
  | [d] => { results := [.lit (.bool false)], args := [d] }
  | _ => none }
def FnExactCanonicalShapeWrongFalsely : Prop := fnExactCanonicalShapeRow.holds Try.pinned (OpenSpec.ofChange fnExactCanonicalShapeWrong)

/-- 'laws.FnExactSymmetriesOf': WHATEVER THE INPUT: true; the input reads as it did. -/
def fnExactSymmetriesOfSpec : ChangeSpec := { name := "fnExactSymmetriesOf", fn := fun _ => fun
  | [d] => { results := [.lit (.bool true)], args := [d] }
  | _ => none }
def fnExactSymmetriesOfRow : OpenClaim := { program := "ytecfabhpjihcbaa", sum := "1e74a7ec078df2e5c79f3b677c3e9f91adec50cb4b16faad4be5d86304864ebf", func := "loop.example/g03400/laws.FnExactSymmetriesOf", spec := "fnExactSymmetriesOf", unfollowed := true, recurses := true, plainKeys := false, apart := false }
def FnExactSymmetriesOfSaid : Prop := fnExactSymmetriesOfRow.holds Try.pinned (OpenSpec.ofChange fnExactSymmetriesOfSpec)

/-- ITS FALSE NEIGHBOUR: 'it returns false'. Refute it at one input. -/
def fnExactSymmetriesOfWrong : ChangeSpec := { name := "fnExactSymmetriesOf", fn := fun _ => fun
  | [d] => { results := [.lit (.bool false)], args := [d] }
  | _ => none }
def FnExactSymmetriesOfWrongFalsely : Prop := fnExactSymmetriesOfRow.holds Try.pinned (OpenSpec.ofChange fnExactSymmetriesOfWrong)

/-- 'laws.FnExactIsCongruent': WHATEVER THE INPUT: true; the input reads as it did. -/
def fnExactIsCongruentSpec : ChangeSpec := { name := "fnExactIsCongruent", fn := fun _ => fun
  | [d1, d2] => { results := [.lit (.bool true)], args := [d1, d2] }
  | _ => none }
def fnExactIsCongruentRow : OpenClaim := { program := "ytecfabhpjihcbaa", sum := "1e74a7ec078df2e5c79f3b677c3e9f91adec50cb4b16faad4be5d86304864ebf", func := "loop.example/g03400/laws.FnExactIsCongruent", spec := "fnExactIsCongruent", unfollowed := true, recurses := true, plainKeys := false, apart := false }
def FnExactIsCongruentSaid : Prop := fnExactIsCongruentRow.holds Try.pinned (OpenSpec.ofChange fnExactIsCongruentSpec)

/-- ITS FALSE NEIGHBOUR: 'it returns false'. Refute it at one input. -/
def fnExactIsCongruentWrong : ChangeSpec := { name := "fnExactIsCongruent", fn := fun _ => fun
  | [d1, d2] => { results := [.lit (.bool false)], args := [d1, d2] }
  | _ => none }
def FnExactIsCongruentWrongFalsely : Prop := fnExactIsCongruentRow.holds Try.pinned (OpenSpec.ofChange fnExactIsCongruentWrong)

/-- 'laws.FnExactIsChiral': WHATEVER THE INPUT: true; the input reads as it did. -/
def fnExactIsChiralSpec : ChangeSpec := { name := "fnExactIsChiral", fn := fun _ => fun
  | [d] => { results := [.lit (.bool true)], args := [d] }
  | _ => none }
def fnExactIsChiralRow : OpenClaim := { program := "ytecfabhpjihcbaa", sum := "1e74a7ec078df2e5c79f3b677c3e9f91adec50cb4b16faad4be5d86304864ebf", func := "loop.example/g03400/laws.FnExactIsChiral", spec := "fnExactIsChiral", unfollowed := true, recurses := true, plainKeys := false, apart := false }
def FnExactIsChiralSaid : Prop := fnExactIsChiralRow.holds Try.pinned (OpenSpec.ofChange fnExactIsChiralSpec)

/-- ITS FALSE NEIGHBOUR: 'it returns false'. Refute it at one input. -/
def fnExactIsChiralWrong : ChangeSpec := { name := "fnExactIsChiral", fn := fun _ => fun
  | [d] => { results := [.lit (.bool false)], args := [d] }
  | _ => none }
def FnExactIsChiralWrongFalsely : Prop := fnExactIsChiralRow.holds Try.pinned (OpenSpec.ofChange fnExactIsChiralWrong)

/-- 'laws.FnExactFixedShapes': WHATEVER THE INPUT: true; the input reads as it did. -/
def fnExactFixedShapesSpec : ChangeSpec := { name := "fnExactFixedShapes", fn := fun _ => fun
  | [d] => { results := [.lit (.bool true)], args := [d] }
  | _ => none }
def fnExactFixedShapesRow : OpenClaim := { program := "ytecfabhpjihcbaa", sum := "1e74a7ec078df2e5c79f3b677c3e9f91adec50cb4b16faad4be5d86304864ebf", func := "loop.example/g03400/laws.FnExactFixedShapes", spec := "fnExactFixedShapes", unfollowed := true, recurses := true, plainKeys := false, apart := false }
def FnExactFixedShapesSaid : Prop := fnExactFixedShapesRow.holds Try.pinned (OpenSpec.ofChange fnExactFixedShapesSpec)

/-- ITS FALSE NEIGHBOUR: 'it returns false'. Refute it at one input. -/
def fnExactFixedShapesWrong : ChangeSpec := { name := "fnExactFixedShapes", fn := fun _ => fun
  | [d] => { results := [.lit (.bool false)], args := [d] }
  | _ => none }
def FnExactFixedShapesWrongFalsely : Prop := fnExactFixedShapesRow.holds Try.pinned (OpenSpec.ofChange fnExactFixedShapesWrong)

/-- 'laws.FnExactOneSidedShapes': WHATEVER THE INPUT: true; the input reads as it did. -/
def fnExactOneSidedShapesSpec : ChangeSpec := { name := "fnExactOneSidedShapes", fn := fun _ => fun
  | [d] => { results := [.lit (.bool true)], args := [d] }
  | _ => none }
def fnExactOneSidedShapesRow : OpenClaim := { program := "ytecfabhpjihcbaa", sum := "1e74a7ec078df2e5c79f3b677c3e9f91adec50cb4b16faad4be5d86304864ebf", func := "loop.example/g03400/laws.FnExactOneSidedShapes", spec := "fnExactOneSidedShapes", unfollowed := true, recurses := true, plainKeys := false, apart := false }
def FnExactOneSidedShapesSaid : Prop := fnExactOneSidedShapesRow.holds Try.pinned (OpenSpec.ofChange fnExactOneSidedShapesSpec)

/-- ITS FALSE NEIGHBOUR: 'it returns false'. Refute it at one input. -/
def fnExactOneSidedShapesWrong : ChangeSpec := { name := "fnExactOneSidedShapes", fn := fun _ => fun
  | [d] => { results := [.lit (.bool false)], args := [d] }
  | _ => none }
def FnExactOneSidedShapesWrongFalsely : Prop := fnExactOneSidedShapesRow.holds Try.pinned (OpenSpec.ofChange fnExactOneSidedShapesWrong)

/-- 'laws.FnExactFreeShapes': WHATEVER THE INPUT: true; the input reads as it did. -/
def fnExactFreeShapesSpec : ChangeSpec := { name := "fnExactFreeShapes", fn := fun _ => fun
  | [d] => { results := [.lit (.bool true)], args := [d] }
  | _ => none }
def fnExactFreeShapesRow : OpenClaim := { program := "ytecfabhpjihcbaa", sum := "1e74a7ec078df2e5c79f3b677c3e9f91adec50cb4b16faad4be5d86304864ebf", func := "loop.example/g03400/laws.FnExactFreeShapes", spec := "fnExactFreeShapes", unfollowed := true, recurses := true, plainKeys := false, apart := false }
def FnExactFreeShapesSaid : Prop := fnExactFreeShapesRow.holds Try.pinned (OpenSpec.ofChange fnExactFreeShapesSpec)

/-- ITS FALSE NEIGHBOUR: 'it returns false'. Refute it at one input. -/
def fnExactFreeShapesWrong : ChangeSpec := { name := "fnExactFreeShapes", fn := fun _ => fun
  | [d] => { results := [.lit (.bool false)], args := [d] }
  | _ => none }
def FnExactFreeShapesWrongFalsely : Prop := fnExactFreeShapesRow.holds Try.pinned (OpenSpec.ofChange fnExactFreeShapesWrong)

/-- 'laws.FnExactCountFree': WHATEVER THE INPUT: true; the input reads as it did. -/
def fnExactCountFreeSpec : ChangeSpec := { name := "fnExactCountFree", fn := fun _ => fun
  | [d] => { results := [.lit (.bool true)], args := [d] }
  | _ => none }
def fnExactCountFreeRow : OpenClaim := { program := "ytecfabhpjihcbaa", sum := "1e74a7ec078df2e5c79f3b677c3e9f91adec50cb4b16faad4be5d86304864ebf", func := "loop.example/g03400/laws.FnExactCountFree", spec := "fnExactCountFree", unfollowed := true, recurses := true, plainKeys := false, apart := false }
def FnExactCountFreeSaid : Prop := fnExactCountFreeRow.holds Try.pinned (OpenSpec.ofChange fnExactCountFreeSpec)

/-- ITS FALSE NEIGHBOUR: 'it returns false'. Refute it at one input. -/
def fnExactCountFreeWrong : ChangeSpec := { name := "fnExactCountFree", fn := fun _ => fun
  | [d] => { results := [.lit (.bool false)], args := [d] }
  | _ => none }
def FnExactCountFreeWrongFalsely : Prop := fnExactCountFreeRow.holds Try.pinned (OpenSpec.ofChange fnExactCountFreeWrong)

/-- 'laws.FnExactExtensionsOf': WHATEVER THE INPUT: true; the input reads as it did. -/
def fnExactExtensionsOfSpec : ChangeSpec := { name := "fnExactExtensionsOf", fn := fun _ => fun
  | [d] => { results := [.lit (.bool true)], args := [d] }
  | _ => none }
def fnExactExtensionsOfRow : OpenClaim := { program := "ytecfabhpjihcbaa", sum := "1e74a7ec078df2e5c79f3b677c3e9f91adec50cb4b16faad4be5d86304864ebf", func := "loop.example/g03400/laws.FnExactExtensionsOf", spec := "fnExactExtensionsOf", unfollowed := true, recurses := true, plainKeys := false, apart := false }
def FnExactExtensionsOfSaid : Prop := fnExactExtensionsOfRow.holds Try.pinned (OpenSpec.ofChange fnExactExtensionsOfSpec)

/-- ITS FALSE NEIGHBOUR: 'it returns false'. Refute it at one input. -/
def fnExactExtensionsOfWrong : ChangeSpec := { name := "fnExactExtensionsOf", fn := fun _ => fun
  | [d] => { results := [.lit (.bool false)], args := [d] }
  | _ => none }
def FnExactExtensionsOfWrongFalsely : Prop := fnExactExtensionsOfRow.holds Try.pinned (OpenSpec.ofChange fnExactExtensionsOfWrong)

/-- 'laws.FnExactParentsOf': WHATEVER THE INPUT: true; the input reads as it did. -/
def fnExactParentsOfSpec : ChangeSpec := { name := "fnExactParentsOf", fn := fun _ => fun
  | [d] => { results := [.lit (.bool true)], args := [d] }
  | _ => none }
def fnExactParentsOfRow : OpenClaim := { program := "ytecfabhpjihcbaa", sum := "1e74a7ec078df2e5c79f3b677c3e9f91adec50cb4b16faad4be5d86304864ebf", func := "loop.example/g03400/laws.FnExactParentsOf", spec := "fnExactParentsOf", unfollowed := true, recurses := true, plainKeys := false, apart := false }
def FnExactParentsOfSaid : Prop := fnExactParentsOfRow.holds Try.pinned (OpenSpec.ofChange fnExactParentsOfSpec)

/-- ITS FALSE NEIGHBOUR: 'it returns false'. Refute it at one input. -/
def fnExactParentsOfWrong : ChangeSpec := { name := "fnExactParentsOf", fn := fun _ => fun
  | [d] => { results := [.lit (.bool false)], args := [d] }
  | _ => none }
def FnExactParentsOfWrongFalsely : Prop := fnExactParentsOfRow.holds Try.pinned (OpenSpec.ofChange fnExactParentsOfWrong)

/- THE SECOND FORM. 'bulk': how many values and letters a reading holds, each counted each time it is reached (what is shared counts as often as it is met; a slice's spare places count too). A statement '..UptoSaid' is the law's where the arguments, and the package variables that the reading takes, are together of bulk at most 1048576: NARROWER than '..Said'. Prove '..Said' where nothing that the law and all that it calls make is longer than what came in: it says more and counts as full. Else prove '..UptoSaid'. A law counts once. -/
mutual
def uptoBulk {H : Type} : DataW H → Nat
  | .lit (.string bytes) => bytes.length + 1
  | .lit _ => 1
  | .nil => 1
  | .ptr d => uptoBulk d + 1
  | .slice elems spare => uptoBulkAll elems + uptoBulkAll spare + 1
  | .agg parts => uptoBulkAll parts + 1
  | .iface _ d => uptoBulk d + 1
  | .map entries => uptoBulkEntries entries + 1
  | .held _ => 1
def uptoBulkAll {H : Type} : List (DataW H) → Nat
  | [] => 0
  | d :: r => uptoBulk d + uptoBulkAll r
def uptoBulkEntries {H : Type} : List (Lit × DataW H) → Nat
  | [] => 0
  | x :: r => uptoBulkEntry x + uptoBulkEntries r
def uptoBulkEntry {H : Type} : Lit × DataW H → Nat
  | (.string bytes, d) => bytes.length + uptoBulk d + 1
  | (_, d) => uptoBulk d + 1
 end
def uptoSmall : (H : Type) → List (DataW H) → Bool := fun _ ds => decide (uptoBulkAll ds ≤ 1048576)
def OpenSpec.upto (s : _root_.Go.ChangeSpec) : _root_.Go.OpenSpec := { _root_.Go.OpenSpec.ofChange s with cond := some uptoSmall }

/-- 'laws.FnExactTurnShape', WHERE WHAT IT READS IS OF BULK AT MOST 1048576: true; the input reads as it did. -/
def fnExactTurnShapeUptoRow : OpenClaim := { program := "ytecfabhpjihcbaa", sum := "1e74a7ec078df2e5c79f3b677c3e9f91adec50cb4b16faad4be5d86304864ebf", func := "loop.example/g03400/laws.FnExactTurnShape", spec := "fnExactTurnShape", unfollowed := true, recurses := true, plainKeys := false, apart := false, narrowed := true }
def FnExactTurnShapeUptoSaid : Prop := fnExactTurnShapeUptoRow.holds Try.pinned (OpenSpec.upto fnExactTurnShapeSpec)

/-- 'laws.FnExactOrientationsOf', WHERE WHAT IT READS IS OF BULK AT MOST 1048576: true; the input reads as it did. -/
def fnExactOrientationsOfUptoRow : OpenClaim := { program := "ytecfabhpjihcbaa", sum := "1e74a7ec078df2e5c79f3b677c3e9f91adec50cb4b16faad4be5d86304864ebf", func := "loop.example/g03400/laws.FnExactOrientationsOf", spec := "fnExactOrientationsOf", unfollowed := true, recurses := true, plainKeys := false, apart := false, narrowed := true }
def FnExactOrientationsOfUptoSaid : Prop := fnExactOrientationsOfUptoRow.holds Try.pinned (OpenSpec.upto fnExactOrientationsOfSpec)

/-- 'laws.FnExactCanonicalShape', WHERE WHAT IT READS IS OF BULK AT MOST 1048576: true; the input reads as it did. -/
def fnExactCanonicalShapeUptoRow : OpenClaim := { program := "ytecfabhpjihcbaa", sum := "1e74a7ec078df2e5c79f3b677c3e9f91adec50cb4b16faad4be5d86304864ebf", func := "loop.example/g03400/laws.FnExactCanonicalShape", spec := "fnExactCanonicalShape", unfollowed := true, recurses := true, plainKeys := false, apart := false, narrowed := true }
def FnExactCanonicalShapeUptoSaid : Prop := fnExactCanonicalShapeUptoRow.holds Try.pinned (OpenSpec.upto fnExactCanonicalShapeSpec)

/-- 'laws.FnExactSymmetriesOf', WHERE WHAT IT READS IS OF BULK AT MOST 1048576: true; the input reads as it did. -/
def fnExactSymmetriesOfUptoRow : OpenClaim := { program := "ytecfabhpjihcbaa", sum := "1e74a7ec078df2e5c79f3b677c3e9f91adec50cb4b16faad4be5d86304864ebf", func := "loop.example/g03400/laws.FnExactSymmetriesOf", spec := "fnExactSymmetriesOf", unfollowed := true, recurses := true, plainKeys := false, apart := false, narrowed := true }
def FnExactSymmetriesOfUptoSaid : Prop := fnExactSymmetriesOfUptoRow.holds Try.pinned (OpenSpec.upto fnExactSymmetriesOfSpec)

/-- 'laws.FnExactIsCongruent', WHERE WHAT IT READS IS OF BULK AT MOST 1048576: true; the input reads as it did. -/
def fnExactIsCongruentUptoRow : OpenClaim := { program := "ytecfabhpjihcbaa", sum := "1e74a7ec078df2e5c79f3b677c3e9f91adec50cb4b16faad4be5d86304864ebf", func := "loop.example/g03400/laws.FnExactIsCongruent", spec := "fnExactIsCongruent", unfollowed := true, recurses := true, plainKeys := false, apart := false, narrowed := true }
def FnExactIsCongruentUptoSaid : Prop := fnExactIsCongruentUptoRow.holds Try.pinned (OpenSpec.upto fnExactIsCongruentSpec)

/-- 'laws.FnExactIsChiral', WHERE WHAT IT READS IS OF BULK AT MOST 1048576: true; the input reads as it did. -/
def fnExactIsChiralUptoRow : OpenClaim := { program := "ytecfabhpjihcbaa", sum := "1e74a7ec078df2e5c79f3b677c3e9f91adec50cb4b16faad4be5d86304864ebf", func := "loop.example/g03400/laws.FnExactIsChiral", spec := "fnExactIsChiral", unfollowed := true, recurses := true, plainKeys := false, apart := false, narrowed := true }
def FnExactIsChiralUptoSaid : Prop := fnExactIsChiralUptoRow.holds Try.pinned (OpenSpec.upto fnExactIsChiralSpec)

/-- 'laws.FnExactFixedShapes', WHERE WHAT IT READS IS OF BULK AT MOST 1048576: true; the input reads as it did. -/
def fnExactFixedShapesUptoRow : OpenClaim := { program := "ytecfabhpjihcbaa", sum := "1e74a7ec078df2e5c79f3b677c3e9f91adec50cb4b16faad4be5d86304864ebf", func := "loop.example/g03400/laws.FnExactFixedShapes", spec := "fnExactFixedShapes", unfollowed := true, recurses := true, plainKeys := false, apart := false, narrowed := true }
def FnExactFixedShapesUptoSaid : Prop := fnExactFixedShapesUptoRow.holds Try.pinned (OpenSpec.upto fnExactFixedShapesSpec)

/-- 'laws.FnExactOneSidedShapes', WHERE WHAT IT READS IS OF BULK AT MOST 1048576: true; the input reads as it did. -/
def fnExactOneSidedShapesUptoRow : OpenClaim := { program := "ytecfabhpjihcbaa", sum := "1e74a7ec078df2e5c79f3b677c3e9f91adec50cb4b16faad4be5d86304864ebf", func := "loop.example/g03400/laws.FnExactOneSidedShapes", spec := "fnExactOneSidedShapes", unfollowed := true, recurses := true, plainKeys := false, apart := false, narrowed := true }
def FnExactOneSidedShapesUptoSaid : Prop := fnExactOneSidedShapesUptoRow.holds Try.pinned (OpenSpec.upto fnExactOneSidedShapesSpec)

/-- 'laws.FnExactFreeShapes', WHERE WHAT IT READS IS OF BULK AT MOST 1048576: true; the input reads as it did. -/
def fnExactFreeShapesUptoRow : OpenClaim := { program := "ytecfabhpjihcbaa", sum := "1e74a7ec078df2e5c79f3b677c3e9f91adec50cb4b16faad4be5d86304864ebf", func := "loop.example/g03400/laws.FnExactFreeShapes", spec := "fnExactFreeShapes", unfollowed := true, recurses := true, plainKeys := false, apart := false, narrowed := true }
def FnExactFreeShapesUptoSaid : Prop := fnExactFreeShapesUptoRow.holds Try.pinned (OpenSpec.upto fnExactFreeShapesSpec)

/-- 'laws.FnExactCountFree', WHERE WHAT IT READS IS OF BULK AT MOST 1048576: true; the input reads as it did. -/
def fnExactCountFreeUptoRow : OpenClaim := { program := "ytecfabhpjihcbaa", sum := "1e74a7ec078df2e5c79f3b677c3e9f91adec50cb4b16faad4be5d86304864ebf", func := "loop.example/g03400/laws.FnExactCountFree", spec := "fnExactCountFree", unfollowed := true, recurses := true, plainKeys := false, apart := false, narrowed := true }
def FnExactCountFreeUptoSaid : Prop := fnExactCountFreeUptoRow.holds Try.pinned (OpenSpec.upto fnExactCountFreeSpec)

/-- 'laws.FnExactExtensionsOf', WHERE WHAT IT READS IS OF BULK AT MOST 1048576: true; the input reads as it did. -/
def fnExactExtensionsOfUptoRow : OpenClaim := { program := "ytecfabhpjihcbaa", sum := "1e74a7ec078df2e5c79f3b677c3e9f91adec50cb4b16faad4be5d86304864ebf", func := "loop.example/g03400/laws.FnExactExtensionsOf", spec := "fnExactExtensionsOf", unfollowed := true, recurses := true, plainKeys := false, apart := false, narrowed := true }
def FnExactExtensionsOfUptoSaid : Prop := fnExactExtensionsOfUptoRow.holds Try.pinned (OpenSpec.upto fnExactExtensionsOfSpec)

/-- 'laws.FnExactParentsOf', WHERE WHAT IT READS IS OF BULK AT MOST 1048576: true; the input reads as it did. -/
def fnExactParentsOfUptoRow : OpenClaim := { program := "ytecfabhpjihcbaa", sum := "1e74a7ec078df2e5c79f3b677c3e9f91adec50cb4b16faad4be5d86304864ebf", func := "loop.example/g03400/laws.FnExactParentsOf", spec := "fnExactParentsOf", unfollowed := true, recurses := true, plainKeys := false, apart := false, narrowed := true }
def FnExactParentsOfUptoSaid : Prop := fnExactParentsOfUptoRow.holds Try.pinned (OpenSpec.upto fnExactParentsOfSpec)

end Rows
end Go.Proofs.Ytecfabhpjihcbaa
