/-
  No cell of these rows narrows 'for every input' (looked for: loops, veiled, ifaces, maps, wideKeys, modest, calm, conditions, laid).
  DERIVED. THE GIVEN ROWS OF THIS SEAT. 9 by the template 'for every input the law returns true; each argument reads behind the call as it read before'; 0 by the template 'total and deterministic' (their statements: YtacmlimpmbiniaaTotals.lean).
  GIVEN WITH THE SEED: the statements are not yours to turn. If you find one false, say at which input.
  Laid BY PROGRAM, IN A SANDBOX (cutbox-rows.mjs): the forced cells as the released guide's own fill.sh prints them over the translation 7d442b9e4b2fde29… (all of the seat's roots in one cut). By AI agents, Wed Nov 11 2026. No macro, syntax, notation, axiom, sorry.
-/
import Derived.Test.YtacmlimpmbiniaaChecked
import GoSem.Claim
import GoSem.ClaimJoined
import GoSem.ClaimMapViews
import Derived.JoinedTies
import Derived.KernelRfl
namespace Go.Proofs.Ytacmlimpmbiniaa
/- THE CELL 'sum', in the pinned program and in every row, IS THE sha256 OF THE DUMP (.gsa) THAT YtacmlimpmbiniaaProg.lean LOADS. Nothing in Lean hashes anything: it is a label: what it is worth is what the hold of that sum in a sandbox is worth. -/
noncomputable def Try.pinned : Pinned := { name := "ytacmlimpmbiniaa", sum := "7d442b9e4b2fde29f251898426b86fb0f6f9ca34001683a0c9c2d967024ad9b8", checked := Try.checked }
namespace Rows
def none {H : Type} : Left H := { results := [], args := [] }

/-- 'laws.FnExactIsShape': WHATEVER THE INPUT: true; the input reads as it did. -/
def fnExactIsShapeSpec : ChangeSpec := { name := "fnExactIsShape", fn := fun _ => fun
  | [d] => { results := [.lit (.bool true)], args := [d] }
  | _ => none }
def fnExactIsShapeRow : OpenClaim := { program := "ytacmlimpmbiniaa", sum := "7d442b9e4b2fde29f251898426b86fb0f6f9ca34001683a0c9c2d967024ad9b8", func := "loop.example/g03400/laws.FnExactIsShape", spec := "fnExactIsShape", apart := false }
def FnExactIsShapeSaid : Prop := fnExactIsShapeRow.holds Try.pinned (OpenSpec.ofChange fnExactIsShapeSpec)

/-- ITS FALSE NEIGHBOUR: 'it returns false'. Refute it at one input. -/
def fnExactIsShapeWrong : ChangeSpec := { name := "fnExactIsShape", fn := fun _ => fun
  | [d] => { results := [.lit (.bool false)], args := [d] }
  | _ => none }
def FnExactIsShapeWrongFalsely : Prop := fnExactIsShapeRow.holds Try.pinned (OpenSpec.ofChange fnExactIsShapeWrong)

/-- 'laws.FnExactSortCells': WHATEVER THE INPUT: true; the input reads as it did. -/
def fnExactSortCellsSpec : ChangeSpec := { name := "fnExactSortCells", fn := fun _ => fun
  | [d] => { results := [.lit (.bool true)], args := [d] }
  | _ => none }
def fnExactSortCellsRow : OpenClaim := { program := "ytacmlimpmbiniaa", sum := "7d442b9e4b2fde29f251898426b86fb0f6f9ca34001683a0c9c2d967024ad9b8", func := "loop.example/g03400/laws.FnExactSortCells", spec := "fnExactSortCells", unfollowed := true, recurses := true, apart := false }
def FnExactSortCellsSaid : Prop := fnExactSortCellsRow.holds Try.pinned (OpenSpec.ofChange fnExactSortCellsSpec)

/-- ITS FALSE NEIGHBOUR: 'it returns false'. Refute it at one input. -/
def fnExactSortCellsWrong : ChangeSpec := { name := "fnExactSortCells", fn := fun _ => fun
  | [d] => { results := [.lit (.bool false)], args := [d] }
  | _ => none }
def FnExactSortCellsWrongFalsely : Prop := fnExactSortCellsRow.holds Try.pinned (OpenSpec.ofChange fnExactSortCellsWrong)

/-- 'laws.FnExactMoveShape': WHATEVER THE INPUT: true; the input reads as it did. -/
def fnExactMoveShapeSpec : ChangeSpec := { name := "fnExactMoveShape", fn := fun _ => fun
  | [d1, d2, d3] => { results := [.lit (.bool true)], args := [d1, d2, d3] }
  | _ => none }
def fnExactMoveShapeRow : OpenClaim := { program := "ytacmlimpmbiniaa", sum := "7d442b9e4b2fde29f251898426b86fb0f6f9ca34001683a0c9c2d967024ad9b8", func := "loop.example/g03400/laws.FnExactMoveShape", spec := "fnExactMoveShape", apart := false }
def FnExactMoveShapeSaid : Prop := fnExactMoveShapeRow.holds Try.pinned (OpenSpec.ofChange fnExactMoveShapeSpec)

/-- ITS FALSE NEIGHBOUR: 'it returns false'. Refute it at one input. -/
def fnExactMoveShapeWrong : ChangeSpec := { name := "fnExactMoveShape", fn := fun _ => fun
  | [d1, d2, d3] => { results := [.lit (.bool false)], args := [d1, d2, d3] }
  | _ => none }
def FnExactMoveShapeWrongFalsely : Prop := fnExactMoveShapeRow.holds Try.pinned (OpenSpec.ofChange fnExactMoveShapeWrong)

/-- 'laws.FnExactCornerShape': WHATEVER THE INPUT: true; the input reads as it did. -/
def fnExactCornerShapeSpec : ChangeSpec := { name := "fnExactCornerShape", fn := fun _ => fun
  | [d] => { results := [.lit (.bool true)], args := [d] }
  | _ => none }
def fnExactCornerShapeRow : OpenClaim := { program := "ytacmlimpmbiniaa", sum := "7d442b9e4b2fde29f251898426b86fb0f6f9ca34001683a0c9c2d967024ad9b8", func := "loop.example/g03400/laws.FnExactCornerShape", spec := "fnExactCornerShape", apart := false }
def FnExactCornerShapeSaid : Prop := fnExactCornerShapeRow.holds Try.pinned (OpenSpec.ofChange fnExactCornerShapeSpec)

/-- ITS FALSE NEIGHBOUR: 'it returns false'. Refute it at one input. -/
def fnExactCornerShapeWrong : ChangeSpec := { name := "fnExactCornerShape", fn := fun _ => fun
  | [d] => { results := [.lit (.bool false)], args := [d] }
  | _ => none }
def FnExactCornerShapeWrongFalsely : Prop := fnExactCornerShapeRow.holds Try.pinned (OpenSpec.ofChange fnExactCornerShapeWrong)

/-- 'laws.FnExactIsConnectedShape': WHATEVER THE INPUT: true; the input reads as it did. -/
def fnExactIsConnectedShapeSpec : ChangeSpec := { name := "fnExactIsConnectedShape", fn := fun _ => fun
  | [d] => { results := [.lit (.bool true)], args := [d] }
  | _ => none }
def fnExactIsConnectedShapeRow : OpenClaim := { program := "ytacmlimpmbiniaa", sum := "7d442b9e4b2fde29f251898426b86fb0f6f9ca34001683a0c9c2d967024ad9b8", func := "loop.example/g03400/laws.FnExactIsConnectedShape", spec := "fnExactIsConnectedShape", apart := false }
def FnExactIsConnectedShapeSaid : Prop := fnExactIsConnectedShapeRow.holds Try.pinned (OpenSpec.ofChange fnExactIsConnectedShapeSpec)

/-- ITS FALSE NEIGHBOUR: 'it returns false'. Refute it at one input. -/
def fnExactIsConnectedShapeWrong : ChangeSpec := { name := "fnExactIsConnectedShape", fn := fun _ => fun
  | [d] => { results := [.lit (.bool false)], args := [d] }
  | _ => none }
def FnExactIsConnectedShapeWrongFalsely : Prop := fnExactIsConnectedShapeRow.holds Try.pinned (OpenSpec.ofChange fnExactIsConnectedShapeWrong)

/-- 'laws.FnExactHasCell': WHATEVER THE INPUT: true; the input reads as it did. -/
def fnExactHasCellSpec : ChangeSpec := { name := "fnExactHasCell", fn := fun _ => fun
  | [d1, d2, d3] => { results := [.lit (.bool true)], args := [d1, d2, d3] }
  | _ => none }
def fnExactHasCellRow : OpenClaim := { program := "ytacmlimpmbiniaa", sum := "7d442b9e4b2fde29f251898426b86fb0f6f9ca34001683a0c9c2d967024ad9b8", func := "loop.example/g03400/laws.FnExactHasCell", spec := "fnExactHasCell", apart := false }
def FnExactHasCellSaid : Prop := fnExactHasCellRow.holds Try.pinned (OpenSpec.ofChange fnExactHasCellSpec)

/-- ITS FALSE NEIGHBOUR: 'it returns false'. Refute it at one input. -/
def fnExactHasCellWrong : ChangeSpec := { name := "fnExactHasCell", fn := fun _ => fun
  | [d1, d2, d3] => { results := [.lit (.bool false)], args := [d1, d2, d3] }
  | _ => none }
def FnExactHasCellWrongFalsely : Prop := fnExactHasCellRow.holds Try.pinned (OpenSpec.ofChange fnExactHasCellWrong)

/-- 'laws.FnExactSizeOf': WHATEVER THE INPUT: true; the input reads as it did. -/
def fnExactSizeOfSpec : ChangeSpec := { name := "fnExactSizeOf", fn := fun _ => fun
  | [d] => { results := [.lit (.bool true)], args := [d] }
  | _ => none }
def fnExactSizeOfRow : OpenClaim := { program := "ytacmlimpmbiniaa", sum := "7d442b9e4b2fde29f251898426b86fb0f6f9ca34001683a0c9c2d967024ad9b8", func := "loop.example/g03400/laws.FnExactSizeOf", spec := "fnExactSizeOf", apart := false }
def FnExactSizeOfSaid : Prop := fnExactSizeOfRow.holds Try.pinned (OpenSpec.ofChange fnExactSizeOfSpec)

/-- ITS FALSE NEIGHBOUR: 'it returns false'. Refute it at one input. -/
def fnExactSizeOfWrong : ChangeSpec := { name := "fnExactSizeOf", fn := fun _ => fun
  | [d] => { results := [.lit (.bool false)], args := [d] }
  | _ => none }
def FnExactSizeOfWrongFalsely : Prop := fnExactSizeOfRow.holds Try.pinned (OpenSpec.ofChange fnExactSizeOfWrong)

/-- 'laws.FnExactFormatShape': WHATEVER THE INPUT: true; the input reads as it did. -/
def fnExactFormatShapeSpec : ChangeSpec := { name := "fnExactFormatShape", fn := fun _ => fun
  | [d] => { results := [.lit (.bool true)], args := [d] }
  | _ => none }
def fnExactFormatShapeRow : OpenClaim := { program := "ytacmlimpmbiniaa", sum := "7d442b9e4b2fde29f251898426b86fb0f6f9ca34001683a0c9c2d967024ad9b8", func := "loop.example/g03400/laws.FnExactFormatShape", spec := "fnExactFormatShape", inPlace := ["internal/abi.NoEscape", "internal/bytealg.MakeNoZero"], apart := false }
def FnExactFormatShapeSaid : Prop := fnExactFormatShapeRow.holds Try.pinned (OpenSpec.ofChange fnExactFormatShapeSpec)

/-- ITS FALSE NEIGHBOUR: 'it returns false'. Refute it at one input. -/
def fnExactFormatShapeWrong : ChangeSpec := { name := "fnExactFormatShape", fn := fun _ => fun
  | [d] => { results := [.lit (.bool false)], args := [d] }
  | _ => none }
def FnExactFormatShapeWrongFalsely : Prop := fnExactFormatShapeRow.holds Try.pinned (OpenSpec.ofChange fnExactFormatShapeWrong)

/-- 'laws.FnExactEqualShapes': WHATEVER THE INPUT: true; the input reads as it did. -/
def fnExactEqualShapesSpec : ChangeSpec := { name := "fnExactEqualShapes", fn := fun _ => fun
  | [d1, d2] => { results := [.lit (.bool true)], args := [d1, d2] }
  | _ => none }
def fnExactEqualShapesRow : OpenClaim := { program := "ytacmlimpmbiniaa", sum := "7d442b9e4b2fde29f251898426b86fb0f6f9ca34001683a0c9c2d967024ad9b8", func := "loop.example/g03400/laws.FnExactEqualShapes", spec := "fnExactEqualShapes", apart := false }
def FnExactEqualShapesSaid : Prop := fnExactEqualShapesRow.holds Try.pinned (OpenSpec.ofChange fnExactEqualShapesSpec)

/-- ITS FALSE NEIGHBOUR: 'it returns false'. Refute it at one input. -/
def fnExactEqualShapesWrong : ChangeSpec := { name := "fnExactEqualShapes", fn := fun _ => fun
  | [d1, d2] => { results := [.lit (.bool false)], args := [d1, d2] }
  | _ => none }
def FnExactEqualShapesWrongFalsely : Prop := fnExactEqualShapesRow.holds Try.pinned (OpenSpec.ofChange fnExactEqualShapesWrong)

/- THE SECOND FORM. 'bulk': how many values and letters a reading holds, each counted each time it is reached (what is shared counts as often as it is met; a slice's spare places count too). A statement '..UptoSaid' is the law's where the arguments, and the package variables that the reading takes, are together of bulk at most 1048576: NARROWER than '..Said'. Prove '..Said' where nothing that the law and all that it calls make is longer than what came in: it says more and counts as full. Else prove '..UptoSaid'. A law counts once. -/
mutual
def uptoBulk {H : Type} : DataW H → Nat
  | .lit (.string bytes) => bytes.length + 1
  | .lit _ => 1
  | .nil => 1
  | .ptr d => uptoBulk d + 1
  | .slice elems spare => uptoBulkAll elems + uptoBulkAll spare + 1
  | .agg parts => uptoBulkAll parts + 1
  | .iface _ d => uptoBulk d + 1
  | .map entries => uptoBulkEntries entries + 1
  | .held _ => 1
def uptoBulkAll {H : Type} : List (DataW H) → Nat
  | [] => 0
  | d :: r => uptoBulk d + uptoBulkAll r
def uptoBulkEntries {H : Type} : List (Lit × DataW H) → Nat
  | [] => 0
  | x :: r => uptoBulkEntry x + uptoBulkEntries r
def uptoBulkEntry {H : Type} : Lit × DataW H → Nat
  | (.string bytes, d) => bytes.length + uptoBulk d + 1
  | (_, d) => uptoBulk d + 1
 end
def uptoSmall : (H : Type) → List (DataW H) → Bool := fun _ ds => decide (uptoBulkAll ds ≤ 1048576)
def OpenSpec.upto (s : _root_.Go.ChangeSpec) : _root_.Go.OpenSpec := { _root_.Go.OpenSpec.ofChange s with cond := some uptoSmall }

/-- 'laws.FnExactIsShape', WHERE WHAT IT READS IS OF BULK AT MOST 1048576: true; the input reads as it did. -/
def fnExactIsShapeUptoRow : OpenClaim := { program := "ytacmlimpmbiniaa", sum := "7d442b9e4b2fde29f251898426b86fb0f6f9ca34001683a0c9c2d967024ad9b8", func := "loop.example/g03400/laws.FnExactIsShape", spec := "fnExactIsShape", apart := false, narrowed := true }
def FnExactIsShapeUptoSaid : Prop := fnExactIsShapeUptoRow.holds Try.pinned (OpenSpec.upto fnExactIsShapeSpec)

/-- 'laws.FnExactSortCells', WHERE WHAT IT READS IS OF BULK AT MOST 1048576: true; the input reads as it did. -/
def fnExactSortCellsUptoRow : OpenClaim := { program := "ytacmlimpmbiniaa", sum := "7d442b9e4b2fde29f251898426b86fb0f6f9ca34001683a0c9c2d967024ad9b8", func := "loop.example/g03400/laws.FnExactSortCells", spec := "fnExactSortCells", unfollowed := true, recurses := true, apart := false, narrowed := true }
def FnExactSortCellsUptoSaid : Prop := fnExactSortCellsUptoRow.holds Try.pinned (OpenSpec.upto fnExactSortCellsSpec)

/-- 'laws.FnExactMoveShape', WHERE WHAT IT READS IS OF BULK AT MOST 1048576: true; the input reads as it did. -/
def fnExactMoveShapeUptoRow : OpenClaim := { program := "ytacmlimpmbiniaa", sum := "7d442b9e4b2fde29f251898426b86fb0f6f9ca34001683a0c9c2d967024ad9b8", func := "loop.example/g03400/laws.FnExactMoveShape", spec := "fnExactMoveShape", apart := false, narrowed := true }
def FnExactMoveShapeUptoSaid : Prop := fnExactMoveShapeUptoRow.holds Try.pinned (OpenSpec.upto fnExactMoveShapeSpec)

/-- 'laws.FnExactCornerShape', WHERE WHAT IT READS IS OF BULK AT MOST 1048576: true; the input reads as it did. -/
def fnExactCornerShapeUptoRow : OpenClaim := { program := "ytacmlimpmbiniaa", sum := "7d442b9e4b2fde29f251898426b86fb0f6f9ca34001683a0c9c2d967024ad9b8", func := "loop.example/g03400/laws.FnExactCornerShape", spec := "fnExactCornerShape", apart := false, narrowed := true }
def FnExactCornerShapeUptoSaid : Prop := fnExactCornerShapeUptoRow.holds Try.pinned (OpenSpec.upto fnExactCornerShapeSpec)

/-- 'laws.FnExactIsConnectedShape', WHERE WHAT IT READS IS OF BULK AT MOST 1048576: true; the input reads as it did. -/
def fnExactIsConnectedShapeUptoRow : OpenClaim := { program := "ytacmlimpmbiniaa", sum := "7d442b9e4b2fde29f251898426b86fb0f6f9ca34001683a0c9c2d967024ad9b8", func := "loop.example/g03400/laws.FnExactIsConnectedShape", spec := "fnExactIsConnectedShape", apart := false, narrowed := true }
def FnExactIsConnectedShapeUptoSaid : Prop := fnExactIsConnectedShapeUptoRow.holds Try.pinned (OpenSpec.upto fnExactIsConnectedShapeSpec)

/-- 'laws.FnExactHasCell', WHERE WHAT IT READS IS OF BULK AT MOST 1048576: true; the input reads as it did. -/
def fnExactHasCellUptoRow : OpenClaim := { program := "ytacmlimpmbiniaa", sum := "7d442b9e4b2fde29f251898426b86fb0f6f9ca34001683a0c9c2d967024ad9b8", func := "loop.example/g03400/laws.FnExactHasCell", spec := "fnExactHasCell", apart := false, narrowed := true }
def FnExactHasCellUptoSaid : Prop := fnExactHasCellUptoRow.holds Try.pinned (OpenSpec.upto fnExactHasCellSpec)

/-- 'laws.FnExactSizeOf', WHERE WHAT IT READS IS OF BULK AT MOST 1048576: true; the input reads as it did. -/
def fnExactSizeOfUptoRow : OpenClaim := { program := "ytacmlimpmbiniaa", sum := "7d442b9e4b2fde29f251898426b86fb0f6f9ca34001683a0c9c2d967024ad9b8", func := "loop.example/g03400/laws.FnExactSizeOf", spec := "fnExactSizeOf", apart := false, narrowed := true }
def FnExactSizeOfUptoSaid : Prop := fnExactSizeOfUptoRow.holds Try.pinned (OpenSpec.upto fnExactSizeOfSpec)

/-- 'laws.FnExactFormatShape', WHERE WHAT IT READS IS OF BULK AT MOST 1048576: true; the input reads as it did. -/
def fnExactFormatShapeUptoRow : OpenClaim := { program := "ytacmlimpmbiniaa", sum := "7d442b9e4b2fde29f251898426b86fb0f6f9ca34001683a0c9c2d967024ad9b8", func := "loop.example/g03400/laws.FnExactFormatShape", spec := "fnExactFormatShape", inPlace := ["internal/abi.NoEscape", "internal/bytealg.MakeNoZero"], apart := false, narrowed := true }
def FnExactFormatShapeUptoSaid : Prop := fnExactFormatShapeUptoRow.holds Try.pinned (OpenSpec.upto fnExactFormatShapeSpec)

/-- 'laws.FnExactEqualShapes', WHERE WHAT IT READS IS OF BULK AT MOST 1048576: true; the input reads as it did. -/
def fnExactEqualShapesUptoRow : OpenClaim := { program := "ytacmlimpmbiniaa", sum := "7d442b9e4b2fde29f251898426b86fb0f6f9ca34001683a0c9c2d967024ad9b8", func := "loop.example/g03400/laws.FnExactEqualShapes", spec := "fnExactEqualShapes", apart := false, narrowed := true }
def FnExactEqualShapesUptoSaid : Prop := fnExactEqualShapesUptoRow.holds Try.pinned (OpenSpec.upto fnExactEqualShapesSpec)

end Rows
end Go.Proofs.Ytacmlimpmbiniaa
