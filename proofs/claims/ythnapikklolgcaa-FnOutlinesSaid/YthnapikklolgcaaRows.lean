/-
  No cell of these rows narrows 'for every input' (looked for: loops, veiled, ifaces, maps, wideKeys, modest, calm, conditions, laid).
  DERIVED. THE GIVEN ROWS OF THIS SEAT. 14 by the template 'for every input the law returns true; each argument reads behind the call as it read before'; 0 by the template 'total and deterministic' (their statements: YthnapikklolgcaaTotals.lean).
  GIVEN WITH THE SEED: the statements are not yours to turn. If you find one false, say at which input.
  Laid BY PROGRAM, IN A SANDBOX (cutbox-rows.mjs): the forced cells as the released guide's own fill.sh prints them over the translation 62fc02ea4306e05d… (all of the seat's roots in one cut). By AI agents, Wed Nov 11 2026. No macro, syntax, notation, axiom, sorry.
-/
import Derived.Test.YthnapikklolgcaaChecked
import GoSem.Claim
import GoSem.ClaimJoined
import GoSem.ClaimMapViews
import Derived.JoinedTies
import Derived.KernelRfl
namespace Go.Proofs.Ythnapikklolgcaa
/- THE CELL 'sum', in the pinned program and in every row, IS THE sha256 OF THE DUMP (.gsa) THAT YthnapikklolgcaaProg.lean LOADS. Nothing in Lean hashes anything: it is a label: what it is worth is what the hold of that sum in a sandbox is worth. -/
noncomputable def Try.pinned : Pinned := { name := "ythnapikklolgcaa", sum := "62fc02ea4306e05d59f974e49b1ba625d058f814ef89de6488e1e454a4192d09", checked := Try.checked }
namespace Rows
def none {H : Type} : Left H := { results := [], args := [] }

/-- 'laws.FnOutlines': WHATEVER THE INPUT: true; the input reads as it did. -/
def fnOutlinesSpec : ChangeSpec := { name := "fnOutlines", fn := fun _ => fun
  | [d] => { results := [.lit (.bool true)], args := [d] }
  | _ => none }
def fnOutlinesRow : OpenClaim := { program := "ythnapikklolgcaa", sum := "62fc02ea4306e05d59f974e49b1ba625d058f814ef89de6488e1e454a4192d09", func := "loop.example/g03400/laws.FnOutlines", spec := "fnOutlines", unfollowed := true, recurses := true, plainKeys := false, apart := false }
def FnOutlinesSaid : Prop := fnOutlinesRow.holds Try.pinned (OpenSpec.ofChange fnOutlinesSpec)

/-- ITS FALSE NEIGHBOUR: 'it returns false'. Refute it at one input. -/
def fnOutlinesWrong : ChangeSpec := { name := "fnOutlines", fn := fun _ => fun
  | [d] => { results := [.lit (.bool false)], args := [d] }
  | _ => none }
def FnOutlinesWrongFalsely : Prop := fnOutlinesRow.holds Try.pinned (OpenSpec.ofChange fnOutlinesWrong)

/-- 'laws.FnExactPerimeterOf': WHATEVER THE INPUT: true; the input reads as it did. -/
def fnExactPerimeterOfSpec : ChangeSpec := { name := "fnExactPerimeterOf", fn := fun _ => fun
  | [d] => { results := [.lit (.bool true)], args := [d] }
  | _ => none }
def fnExactPerimeterOfRow : OpenClaim := { program := "ythnapikklolgcaa", sum := "62fc02ea4306e05d59f974e49b1ba625d058f814ef89de6488e1e454a4192d09", func := "loop.example/g03400/laws.FnExactPerimeterOf", spec := "fnExactPerimeterOf", plainKeys := false, apart := false }
def FnExactPerimeterOfSaid : Prop := fnExactPerimeterOfRow.holds Try.pinned (OpenSpec.ofChange fnExactPerimeterOfSpec)

/-- ITS FALSE NEIGHBOUR: 'it returns false'. Refute it at one input. -/
def fnExactPerimeterOfWrong : ChangeSpec := { name := "fnExactPerimeterOf", fn := fun _ => fun
  | [d] => { results := [.lit (.bool false)], args := [d] }
  | _ => none }
def FnExactPerimeterOfWrongFalsely : Prop := fnExactPerimeterOfRow.holds Try.pinned (OpenSpec.ofChange fnExactPerimeterOfWrong)

/-- 'laws.FnExactHolesOf': WHATEVER THE INPUT: true; the input reads as it did. -/
def fnExactHolesOfSpec : ChangeSpec := { name := "fnExactHolesOf", fn := fun _ => fun
  | [d] => { results := [.lit (.bool true)], args := [d] }
  | _ => none }
def fnExactHolesOfRow : OpenClaim := { program := "ythnapikklolgcaa", sum := "62fc02ea4306e05d59f974e49b1ba625d058f814ef89de6488e1e454a4192d09", func := "loop.example/g03400/laws.FnExactHolesOf", spec := "fnExactHolesOf", unfollowed := true, recurses := true, plainKeys := false, apart := false }
def FnExactHolesOfSaid : Prop := fnExactHolesOfRow.holds Try.pinned (OpenSpec.ofChange fnExactHolesOfSpec)

/-- ITS FALSE NEIGHBOUR: 'it returns false'. Refute it at one input. -/
def fnExactHolesOfWrong : ChangeSpec := { name := "fnExactHolesOf", fn := fun _ => fun
  | [d] => { results := [.lit (.bool false)], args := [d] }
  | _ => none }
def FnExactHolesOfWrongFalsely : Prop := fnExactHolesOfRow.holds Try.pinned (OpenSpec.ofChange fnExactHolesOfWrong)

/-- 'laws.FnExactNeighbourCells': WHATEVER THE INPUT: true; the input reads as it did. -/
def fnExactNeighbourCellsSpec : ChangeSpec := { name := "fnExactNeighbourCells", fn := fun _ => fun
  | [d] => { results := [.lit (.bool true)], args := [d] }
  | _ => none }
def fnExactNeighbourCellsRow : OpenClaim := { program := "ythnapikklolgcaa", sum := "62fc02ea4306e05d59f974e49b1ba625d058f814ef89de6488e1e454a4192d09", func := "loop.example/g03400/laws.FnExactNeighbourCells", spec := "fnExactNeighbourCells", unfollowed := true, recurses := true, plainKeys := false, apart := false }
def FnExactNeighbourCellsSaid : Prop := fnExactNeighbourCellsRow.holds Try.pinned (OpenSpec.ofChange fnExactNeighbourCellsSpec)

/-- ITS FALSE NEIGHBOUR: 'it returns false'. Refute it at one input. -/
def fnExactNeighbourCellsWrong : ChangeSpec := { name := "fnExactNeighbourCells", fn := fun _ => fun
  | [d] => { results := [.lit (.bool false)], args := [d] }
  | _ => none }
def FnExactNeighbourCellsWrongFalsely : Prop := fnExactNeighbourCellsRow.holds Try.pinned (OpenSpec.ofChange fnExactNeighbourCellsWrong)

/-- 'laws.FnExactInnerSides': WHATEVER THE INPUT: true; the input reads as it did. -/
def fnExactInnerSidesSpec : ChangeSpec := { name := "fnExactInnerSides", fn := fun _ => fun
  | [d] => { results := [.lit (.bool true)], args := [d] }
  | _ => none }
def fnExactInnerSidesRow : OpenClaim := { program := "ythnapikklolgcaa", sum := "62fc02ea4306e05d59f974e49b1ba625d058f814ef89de6488e1e454a4192d09", func := "loop.example/g03400/laws.FnExactInnerSides", spec := "fnExactInnerSides", plainKeys := false, apart := false }
def FnExactInnerSidesSaid : Prop := fnExactInnerSidesRow.holds Try.pinned (OpenSpec.ofChange fnExactInnerSidesSpec)

/-- ITS FALSE NEIGHBOUR: 'it returns false'. Refute it at one input. -/
def fnExactInnerSidesWrong : ChangeSpec := { name := "fnExactInnerSides", fn := fun _ => fun
  | [d] => { results := [.lit (.bool false)], args := [d] }
  | _ => none }
def FnExactInnerSidesWrongFalsely : Prop := fnExactInnerSidesRow.holds Try.pinned (OpenSpec.ofChange fnExactInnerSidesWrong)

/-- 'laws.FnExactIsRowConvex': WHATEVER THE INPUT: true; the input reads as it did. -/
def fnExactIsRowConvexSpec : ChangeSpec := { name := "fnExactIsRowConvex", fn := fun _ => fun
  | [d] => { results := [.lit (.bool true)], args := [d] }
  | _ => none }
def fnExactIsRowConvexRow : OpenClaim := { program := "ythnapikklolgcaa", sum := "62fc02ea4306e05d59f974e49b1ba625d058f814ef89de6488e1e454a4192d09", func := "loop.example/g03400/laws.FnExactIsRowConvex", spec := "fnExactIsRowConvex", plainKeys := false, apart := false }
def FnExactIsRowConvexSaid : Prop := fnExactIsRowConvexRow.holds Try.pinned (OpenSpec.ofChange fnExactIsRowConvexSpec)

/-- ITS FALSE NEIGHBOUR: 'it returns false'. Refute it at one input. -/
def fnExactIsRowConvexWrong : ChangeSpec := { name := "fnExactIsRowConvex", fn := fun _ => fun
  | [d] => { results := [.lit (.bool false)], args := [d] }
  | _ => none }
def FnExactIsRowConvexWrongFalsely : Prop := fnExactIsRowConvexRow.holds Try.pinned (OpenSpec.ofChange fnExactIsRowConvexWrong)

/-- 'laws.FnExactIsConvexShape': WHATEVER THE INPUT: true; the input reads as it did. -/
def fnExactIsConvexShapeSpec : ChangeSpec := { name := "fnExactIsConvexShape", fn := fun _ => fun
  | [d] => { results := [.lit (.bool true)], args := [d] }
  | _ => none }
def fnExactIsConvexShapeRow : OpenClaim := { program := "ythnapikklolgcaa", sum := "62fc02ea4306e05d59f974e49b1ba625d058f814ef89de6488e1e454a4192d09", func := "loop.example/g03400/laws.FnExactIsConvexShape", spec := "fnExactIsConvexShape", unfollowed := true, recurses := true, plainKeys := false, apart := false }
def FnExactIsConvexShapeSaid : Prop := fnExactIsConvexShapeRow.holds Try.pinned (OpenSpec.ofChange fnExactIsConvexShapeSpec)

/-- ITS FALSE NEIGHBOUR: 'it returns false'. Refute it at one input. -/
def fnExactIsConvexShapeWrong : ChangeSpec := { name := "fnExactIsConvexShape", fn := fun _ => fun
  | [d] => { results := [.lit (.bool false)], args := [d] }
  | _ => none }
def FnExactIsConvexShapeWrongFalsely : Prop := fnExactIsConvexShapeRow.holds Try.pinned (OpenSpec.ofChange fnExactIsConvexShapeWrong)

/-- 'laws.FnExactSquaresIn': WHATEVER THE INPUT: true; the input reads as it did. -/
def fnExactSquaresInSpec : ChangeSpec := { name := "fnExactSquaresIn", fn := fun _ => fun
  | [d] => { results := [.lit (.bool true)], args := [d] }
  | _ => none }
def fnExactSquaresInRow : OpenClaim := { program := "ythnapikklolgcaa", sum := "62fc02ea4306e05d59f974e49b1ba625d058f814ef89de6488e1e454a4192d09", func := "loop.example/g03400/laws.FnExactSquaresIn", spec := "fnExactSquaresIn", plainKeys := false, apart := false }
def FnExactSquaresInSaid : Prop := fnExactSquaresInRow.holds Try.pinned (OpenSpec.ofChange fnExactSquaresInSpec)

/-- ITS FALSE NEIGHBOUR: 'it returns false'. Refute it at one input. -/
def fnExactSquaresInWrong : ChangeSpec := { name := "fnExactSquaresIn", fn := fun _ => fun
  | [d] => { results := [.lit (.bool false)], args := [d] }
  | _ => none }
def FnExactSquaresInWrongFalsely : Prop := fnExactSquaresInRow.holds Try.pinned (OpenSpec.ofChange fnExactSquaresInWrong)

/-- 'laws.FnExactIsTreeLike': WHATEVER THE INPUT: true; the input reads as it did. -/
def fnExactIsTreeLikeSpec : ChangeSpec := { name := "fnExactIsTreeLike", fn := fun _ => fun
  | [d] => { results := [.lit (.bool true)], args := [d] }
  | _ => none }
def fnExactIsTreeLikeRow : OpenClaim := { program := "ythnapikklolgcaa", sum := "62fc02ea4306e05d59f974e49b1ba625d058f814ef89de6488e1e454a4192d09", func := "loop.example/g03400/laws.FnExactIsTreeLike", spec := "fnExactIsTreeLike", plainKeys := false, apart := false }
def FnExactIsTreeLikeSaid : Prop := fnExactIsTreeLikeRow.holds Try.pinned (OpenSpec.ofChange fnExactIsTreeLikeSpec)

/-- ITS FALSE NEIGHBOUR: 'it returns false'. Refute it at one input. -/
def fnExactIsTreeLikeWrong : ChangeSpec := { name := "fnExactIsTreeLike", fn := fun _ => fun
  | [d] => { results := [.lit (.bool false)], args := [d] }
  | _ => none }
def FnExactIsTreeLikeWrongFalsely : Prop := fnExactIsTreeLikeRow.holds Try.pinned (OpenSpec.ofChange fnExactIsTreeLikeWrong)

/-- 'laws.FnExactFixedShapes': WHATEVER THE INPUT: true; the input reads as it did. -/
def fnExactFixedShapesSpec : ChangeSpec := { name := "fnExactFixedShapes", fn := fun _ => fun
  | [d] => { results := [.lit (.bool true)], args := [d] }
  | _ => none }
def fnExactFixedShapesRow : OpenClaim := { program := "ythnapikklolgcaa", sum := "62fc02ea4306e05d59f974e49b1ba625d058f814ef89de6488e1e454a4192d09", func := "loop.example/g03400/laws.FnExactFixedShapes", spec := "fnExactFixedShapes", unfollowed := true, recurses := true, plainKeys := false, apart := false }
def FnExactFixedShapesSaid : Prop := fnExactFixedShapesRow.holds Try.pinned (OpenSpec.ofChange fnExactFixedShapesSpec)

/-- ITS FALSE NEIGHBOUR: 'it returns false'. Refute it at one input. -/
def fnExactFixedShapesWrong : ChangeSpec := { name := "fnExactFixedShapes", fn := fun _ => fun
  | [d] => { results := [.lit (.bool false)], args := [d] }
  | _ => none }
def FnExactFixedShapesWrongFalsely : Prop := fnExactFixedShapesRow.holds Try.pinned (OpenSpec.ofChange fnExactFixedShapesWrong)

/-- 'laws.FnExactOneSidedShapes': WHATEVER THE INPUT: true; the input reads as it did. -/
def fnExactOneSidedShapesSpec : ChangeSpec := { name := "fnExactOneSidedShapes", fn := fun _ => fun
  | [d] => { results := [.lit (.bool true)], args := [d] }
  | _ => none }
def fnExactOneSidedShapesRow : OpenClaim := { program := "ythnapikklolgcaa", sum := "62fc02ea4306e05d59f974e49b1ba625d058f814ef89de6488e1e454a4192d09", func := "loop.example/g03400/laws.FnExactOneSidedShapes", spec := "fnExactOneSidedShapes", unfollowed := true, recurses := true, plainKeys := false, apart := false }
def FnExactOneSidedShapesSaid : Prop := fnExactOneSidedShapesRow.holds Try.pinned (OpenSpec.ofChange fnExactOneSidedShapesSpec)

/-- ITS FALSE NEIGHBOUR: 'it returns false'. Refute it at one input. -/
def fnExactOneSidedShapesWrong : ChangeSpec := { name := "fnExactOneSidedShapes", fn := fun _ => fun
  | [d] => { results := [.lit (.bool false)], args := [d] }
  | _ => none }
def FnExactOneSidedShapesWrongFalsely : Prop := fnExactOneSidedShapesRow.holds Try.pinned (OpenSpec.ofChange fnExactOneSidedShapesWrong)

/-- 'laws.FnExactFreeShapes': WHATEVER THE INPUT: true; the input reads as it did. -/
def fnExactFreeShapesSpec : ChangeSpec := { name := "fnExactFreeShapes", fn := fun _ => fun
  | [d] => { results := [.lit (.bool true)], args := [d] }
  | _ => none }
def fnExactFreeShapesRow : OpenClaim := { program := "ythnapikklolgcaa", sum := "62fc02ea4306e05d59f974e49b1ba625d058f814ef89de6488e1e454a4192d09", func := "loop.example/g03400/laws.FnExactFreeShapes", spec := "fnExactFreeShapes", unfollowed := true, recurses := true, plainKeys := false, apart := false }
def FnExactFreeShapesSaid : Prop := fnExactFreeShapesRow.holds Try.pinned (OpenSpec.ofChange fnExactFreeShapesSpec)

/-- ITS FALSE NEIGHBOUR: 'it returns false'. Refute it at one input. -/
def fnExactFreeShapesWrong : ChangeSpec := { name := "fnExactFreeShapes", fn := fun _ => fun
  | [d] => { results := [.lit (.bool false)], args := [d] }
  | _ => none }
def FnExactFreeShapesWrongFalsely : Prop := fnExactFreeShapesRow.holds Try.pinned (OpenSpec.ofChange fnExactFreeShapesWrong)

/-- 'laws.FnExactCountFree': WHATEVER THE INPUT: true; the input reads as it did. -/
def fnExactCountFreeSpec : ChangeSpec := { name := "fnExactCountFree", fn := fun _ => fun
  | [d] => { results := [.lit (.bool true)], args := [d] }
  | _ => none }
def fnExactCountFreeRow : OpenClaim := { program := "ythnapikklolgcaa", sum := "62fc02ea4306e05d59f974e49b1ba625d058f814ef89de6488e1e454a4192d09", func := "loop.example/g03400/laws.FnExactCountFree", spec := "fnExactCountFree", unfollowed := true, recurses := true, plainKeys := false, apart := false }
def FnExactCountFreeSaid : Prop := fnExactCountFreeRow.holds Try.pinned (OpenSpec.ofChange fnExactCountFreeSpec)

/-- ITS FALSE NEIGHBOUR: 'it returns false'. Refute it at one input. -/
def fnExactCountFreeWrong : ChangeSpec := { name := "fnExactCountFree", fn := fun _ => fun
  | [d] => { results := [.lit (.bool false)], args := [d] }
  | _ => none }
def FnExactCountFreeWrongFalsely : Prop := fnExactCountFreeRow.holds Try.pinned (OpenSpec.ofChange fnExactCountFreeWrong)

/-- 'laws.FnExactExtensionsOf': WHATEVER THE INPUT: true; the input reads as it did. -/
def fnExactExtensionsOfSpec : ChangeSpec := { name := "fnExactExtensionsOf", fn := fun _ => fun
  | [d] => { results := [.lit (.bool true)], args := [d] }
  | _ => none }
def fnExactExtensionsOfRow : OpenClaim := { program := "ythnapikklolgcaa", sum := "62fc02ea4306e05d59f974e49b1ba625d058f814ef89de6488e1e454a4192d09", func := "loop.example/g03400/laws.FnExactExtensionsOf", spec := "fnExactExtensionsOf", unfollowed := true, recurses := true, plainKeys := false, apart := false }
def FnExactExtensionsOfSaid : Prop := fnExactExtensionsOfRow.holds Try.pinned (OpenSpec.ofChange fnExactExtensionsOfSpec)

/-- ITS FALSE NEIGHBOUR: 'it returns false'. Refute it at one input. -/
def fnExactExtensionsOfWrong : ChangeSpec := { name := "fnExactExtensionsOf", fn := fun _ => fun
  | [d] => { results := [.lit (.bool false)], args := [d] }
  | _ => none }
def FnExactExtensionsOfWrongFalsely : Prop := fnExactExtensionsOfRow.holds Try.pinned (OpenSpec.ofChange fnExactExtensionsOfWrong)

/- THE SECOND FORM. 'bulk': how many values and letters a reading holds, each counted each time it is reached (what is shared counts as often as it is met; a slice's spare places count too). A statement '..UptoSaid' is the law's where the arguments, and the package variables that the reading takes, are together of bulk at most 1048576: NARROWER than '..Said'. Prove '..Said' where nothing that the law and all that it calls make is longer than what came in: it says more and counts as full. Else prove '..UptoSaid'. A law counts once. -/
mutual
def uptoBulk {H : Type} : DataW H → Nat
  | .lit (.string bytes) => bytes.length + 1
  | .lit _ => 1
  | .nil => 1
  | .ptr d => uptoBulk d + 1
  | .slice elems spare => uptoBulkAll elems + uptoBulkAll spare + 1
  | .agg parts => uptoBulkAll parts + 1
  | .iface _ d => uptoBulk d + 1
  | .map entries => uptoBulkEntries entries + 1
  | .held _ => 1
def uptoBulkAll {H : Type} : List (DataW H) → Nat
  | [] => 0
  | d :: r => uptoBulk d + uptoBulkAll r
def uptoBulkEntries {H : Type} : List (Lit × DataW H) → Nat
  | [] => 0
  | x :: r => uptoBulkEntry x + uptoBulkEntries r
def uptoBulkEntry {H : Type} : Lit × DataW H → Nat
  | (.string bytes, d) => bytes.length + uptoBulk d + 1
  | (_, d) => uptoBulk d + 1
 end
def uptoSmall : (H : Type) → List (DataW H) → Bool := fun _ ds => decide (uptoBulkAll ds ≤ 1048576)
def OpenSpec.upto (s : _root_.Go.ChangeSpec) : _root_.Go.OpenSpec := { _root_.Go.OpenSpec.ofChange s with cond := some uptoSmall }

/-- 'laws.FnOutlines', WHERE WHAT IT READS IS OF BULK AT MOST 1048576: true; the input reads as it did. -/
def fnOutlinesUptoRow : OpenClaim := { program := "ythnapikklolgcaa", sum := "62fc02ea4306e05d59f974e49b1ba625d058f814ef89de6488e1e454a4192d09", func := "loop.example/g03400/laws.FnOutlines", spec := "fnOutlines", unfollowed := true, recurses := true, plainKeys := false, apart := false, narrowed := true }
def FnOutlinesUptoSaid : Prop := fnOutlinesUptoRow.holds Try.pinned (OpenSpec.upto fnOutlinesSpec)

/-- 'laws.FnExactPerimeterOf', WHERE WHAT IT READS IS OF BULK AT MOST 1048576: true; the input reads as it did. -/
def fnExactPerimeterOfUptoRow : OpenClaim := { program := "ythnapikklolgcaa", sum := "62fc02ea4306e05d59f974e49b1ba625d058f814ef89de6488e1e454a4192d09", func := "loop.example/g03400/laws.FnExactPerimeterOf", spec := "fnExactPerimeterOf", plainKeys := false, apart := false, narrowed := true }
def FnExactPerimeterOfUptoSaid : Prop := fnExactPerimeterOfUptoRow.holds Try.pinned (OpenSpec.upto fnExactPerimeterOfSpec)

/-- 'laws.FnExactHolesOf', WHERE WHAT IT READS IS OF BULK AT MOST 1048576: true; the input reads as it did. -/
def fnExactHolesOfUptoRow : OpenClaim := { program := "ythnapikklolgcaa", sum := "62fc02ea4306e05d59f974e49b1ba625d058f814ef89de6488e1e454a4192d09", func := "loop.example/g03400/laws.FnExactHolesOf", spec := "fnExactHolesOf", unfollowed := true, recurses := true, plainKeys := false, apart := false, narrowed := true }
def FnExactHolesOfUptoSaid : Prop := fnExactHolesOfUptoRow.holds Try.pinned (OpenSpec.upto fnExactHolesOfSpec)

/-- 'laws.FnExactNeighbourCells', WHERE WHAT IT READS IS OF BULK AT MOST 1048576: true; the input reads as it did. -/
def fnExactNeighbourCellsUptoRow : OpenClaim := { program := "ythnapikklolgcaa", sum := "62fc02ea4306e05d59f974e49b1ba625d058f814ef89de6488e1e454a4192d09", func := "loop.example/g03400/laws.FnExactNeighbourCells", spec := "fnExactNeighbourCells", unfollowed := true, recurses := true, plainKeys := false, apart := false, narrowed := true }
def FnExactNeighbourCellsUptoSaid : Prop := fnExactNeighbourCellsUptoRow.holds Try.pinned (OpenSpec.upto fnExactNeighbourCellsSpec)

/-- 'laws.FnExactInnerSides', WHERE WHAT IT READS IS OF BULK AT MOST 1048576: true; the input reads as it did. -/
def fnExactInnerSidesUptoRow : OpenClaim := { program := "ythnapikklolgcaa", sum := "62fc02ea4306e05d59f974e49b1ba625d058f814ef89de6488e1e454a4192d09", func := "loop.example/g03400/laws.FnExactInnerSides", spec := "fnExactInnerSides", plainKeys := false, apart := false, narrowed := true }
def FnExactInnerSidesUptoSaid : Prop := fnExactInnerSidesUptoRow.holds Try.pinned (OpenSpec.upto fnExactInnerSidesSpec)

/-- 'laws.FnExactIsRowConvex', WHERE WHAT IT READS IS OF BULK AT MOST 1048576: true; the input reads as it did. -/
def fnExactIsRowConvexUptoRow : OpenClaim := { program := "ythnapikklolgcaa", sum := "62fc02ea4306e05d59f974e49b1ba625d058f814ef89de6488e1e454a4192d09", func := "loop.example/g03400/laws.FnExactIsRowConvex", spec := "fnExactIsRowConvex", plainKeys := false, apart := false, narrowed := true }
def FnExactIsRowConvexUptoSaid : Prop := fnExactIsRowConvexUptoRow.holds Try.pinned (OpenSpec.upto fnExactIsRowConvexSpec)

/-- 'laws.FnExactIsConvexShape', WHERE WHAT IT READS IS OF BULK AT MOST 1048576: true; the input reads as it did. -/
def fnExactIsConvexShapeUptoRow : OpenClaim := { program := "ythnapikklolgcaa", sum := "62fc02ea4306e05d59f974e49b1ba625d058f814ef89de6488e1e454a4192d09", func := "loop.example/g03400/laws.FnExactIsConvexShape", spec := "fnExactIsConvexShape", unfollowed := true, recurses := true, plainKeys := false, apart := false, narrowed := true }
def FnExactIsConvexShapeUptoSaid : Prop := fnExactIsConvexShapeUptoRow.holds Try.pinned (OpenSpec.upto fnExactIsConvexShapeSpec)

/-- 'laws.FnExactSquaresIn', WHERE WHAT IT READS IS OF BULK AT MOST 1048576: true; the input reads as it did. -/
def fnExactSquaresInUptoRow : OpenClaim := { program := "ythnapikklolgcaa", sum := "62fc02ea4306e05d59f974e49b1ba625d058f814ef89de6488e1e454a4192d09", func := "loop.example/g03400/laws.FnExactSquaresIn", spec := "fnExactSquaresIn", plainKeys := false, apart := false, narrowed := true }
def FnExactSquaresInUptoSaid : Prop := fnExactSquaresInUptoRow.holds Try.pinned (OpenSpec.upto fnExactSquaresInSpec)

/-- 'laws.FnExactIsTreeLike', WHERE WHAT IT READS IS OF BULK AT MOST 1048576: true; the input reads as it did. -/
def fnExactIsTreeLikeUptoRow : OpenClaim := { program := "ythnapikklolgcaa", sum := "62fc02ea4306e05d59f974e49b1ba625d058f814ef89de6488e1e454a4192d09", func := "loop.example/g03400/laws.FnExactIsTreeLike", spec := "fnExactIsTreeLike", plainKeys := false, apart := false, narrowed := true }
def FnExactIsTreeLikeUptoSaid : Prop := fnExactIsTreeLikeUptoRow.holds Try.pinned (OpenSpec.upto fnExactIsTreeLikeSpec)

/-- 'laws.FnExactFixedShapes', WHERE WHAT IT READS IS OF BULK AT MOST 1048576: true; the input reads as it did. -/
def fnExactFixedShapesUptoRow : OpenClaim := { program := "ythnapikklolgcaa", sum := "62fc02ea4306e05d59f974e49b1ba625d058f814ef89de6488e1e454a4192d09", func := "loop.example/g03400/laws.FnExactFixedShapes", spec := "fnExactFixedShapes", unfollowed := true, recurses := true, plainKeys := false, apart := false, narrowed := true }
def FnExactFixedShapesUptoSaid : Prop := fnExactFixedShapesUptoRow.holds Try.pinned (OpenSpec.upto fnExactFixedShapesSpec)

/-- 'laws.FnExactOneSidedShapes', WHERE WHAT IT READS IS OF BULK AT MOST 1048576: true; the input reads as it did. -/
def fnExactOneSidedShapesUptoRow : OpenClaim := { program := "ythnapikklolgcaa", sum := "62fc02ea4306e05d59f974e49b1ba625d058f814ef89de6488e1e454a4192d09", func := "loop.example/g03400/laws.FnExactOneSidedShapes", spec := "fnExactOneSidedShapes", unfollowed := true, recurses := true, plainKeys := false, apart := false, narrowed := true }
def FnExactOneSidedShapesUptoSaid : Prop := fnExactOneSidedShapesUptoRow.holds Try.pinned (OpenSpec.upto fnExactOneSidedShapesSpec)

/-- 'laws.FnExactFreeShapes', WHERE WHAT IT READS IS OF BULK AT MOST 1048576: true; the input reads as it did. -/
def fnExactFreeShapesUptoRow : OpenClaim := { program := "ythnapikklolgcaa", sum := "62fc02ea4306e05d59f974e49b1ba625d058f814ef89de6488e1e454a4192d09", func := "loop.example/g03400/laws.FnExactFreeShapes", spec := "fnExactFreeShapes", unfollowed := true, recurses := true, plainKeys := false, apart := false, narrowed := true }
def FnExactFreeShapesUptoSaid : Prop := fnExactFreeShapesUptoRow.holds Try.pinned (OpenSpec.upto fnExactFreeShapesSpec)

/-- 'laws.FnExactCountFree', WHERE WHAT IT READS IS OF BULK AT MOST 1048576: true; the input reads as it did. -/
def fnExactCountFreeUptoRow : OpenClaim := { program := "ythnapikklolgcaa", sum := "62fc02ea4306e05d59f974e49b1ba625d058f814ef89de6488e1e454a4192d09", func := "loop.example/g03400/laws.FnExactCountFree", spec := "fnExactCountFree", unfollowed := true, recurses := true, plainKeys := false, apart := false, narrowed := true }
def FnExactCountFreeUptoSaid : Prop := fnExactCountFreeUptoRow.holds Try.pinned (OpenSpec.upto fnExactCountFreeSpec)

/-- 'laws.FnExactExtensionsOf', WHERE WHAT IT READS IS OF BULK AT MOST 1048576: true; the input reads as it did. -/
def fnExactExtensionsOfUptoRow : OpenClaim := { program := "ythnapikklolgcaa", sum := "62fc02ea4306e05d59f974e49b1ba625d058f814ef89de6488e1e454a4192d09", func := "loop.example/g03400/laws.FnExactExtensionsOf", spec := "fnExactExtensionsOf", unfollowed := true, recurses := true, plainKeys := false, apart := false, narrowed := true }
def FnExactExtensionsOfUptoSaid : Prop := fnExactExtensionsOfUptoRow.holds Try.pinned (OpenSpec.upto fnExactExtensionsOfSpec)

end Rows
end Go.Proofs.Ythnapikklolgcaa
