/-
  NARROWER THAN 'FOR EVERY INPUT', by the rows' own cells (each row's printed sentence says how): FnExactNameOfPiece: laid.
  DERIVED. THE GIVEN ROWS OF THIS SEAT. 1 by the template 'for every input the law returns true; each argument reads behind the call as it read before'; 0 by the template 'total and deterministic' (their statements: YtecfabhpjihcbaaGreatDoorTotals.lean).
  GIVEN WITH THE SEED: the statements are not yours to turn. If you find one false, say at which input.
  Laid BY PROGRAM, IN A SANDBOX (cutbox-rows.mjs): the forced cells as the released guide's own fill.sh prints them over the translation cfe32e60ed6a5a1a… (all of the seat's roots in one cut). By AI agents, Wed Nov 11 2026. No macro, syntax, notation, axiom, sorry.
-/
import Derived.Test.YtecfabhpjihcbaaGreatDoorChecked
import GoSem.PinnedTables
import GoSem.Claim
import GoSem.ClaimJoined
import GoSem.ClaimMapViews
import Derived.JoinedTies
import Derived.KernelRfl
namespace Go.Proofs.YtecfabhpjihcbaaGreatDoor
/- THE CELL 'sum', in the pinned program and in every row, IS THE sha256 OF THE DUMP (.gsa) THAT YtecfabhpjihcbaaGreatDoorProg.lean LOADS. Nothing in Lean hashes anything: it is a label: what it is worth is what the hold of that sum in a sandbox is worth. -/
noncomputable def Tryz.pinned : Pinned := { name := "ytecfabhpjihcbaagreatdoor", sum := "cfe32e60ed6a5a1a057aec2f78af3c833c85e2e625f3918c3f1057897a31185f", checked := Tryz.checked }
namespace Rows
def none {H : Type} : Left H := { results := [], args := [] }

/- WHAT THE LISTED PACKAGE-LEVEL VARIABLES READ AS WHEN THE CALL BEGINS. Each datum BY PROGRAM (the guide's laid-datum.mjs) off the statement by which the dump's own 'gosem.cut.vars' lays the variable. In a bare row this is a premise. The card (YtecfabhpjihcbaaGreatDoorCards.lean) ties it to the program's text. -/
def laid_unicode_utf8_acceptRanges {H : Type} : DataW H := .agg [.agg [.lit (.int .u8 128), .lit (.int .u8 191)], .agg [.lit (.int .u8 160), .lit (.int .u8 191)], .agg [.lit (.int .u8 128), .lit (.int .u8 159)], .agg [.lit (.int .u8 144), .lit (.int .u8 191)], .agg [.lit (.int .u8 128), .lit (.int .u8 143)], .agg [.lit (.int .u8 0), .lit (.int .u8 0)], .agg [.lit (.int .u8 0), .lit (.int .u8 0)], .agg [.lit (.int .u8 0), .lit (.int .u8 0)], .agg [.lit (.int .u8 0), .lit (.int .u8 0)], .agg [.lit (.int .u8 0), .lit (.int .u8 0)], .agg [.lit (.int .u8 0), .lit (.int .u8 0)], .agg [.lit (.int .u8 0), .lit (.int .u8 0)], .agg [.lit (.int .u8 0), .lit (.int .u8 0)], .agg [.lit (.int .u8 0), .lit (.int .u8 0)], .agg [.lit (.int .u8 0), .lit (.int .u8 0)], .agg [.lit (.int .u8 0), .lit (.int .u8 0)]]
def laid_loop_example_g03400_impl_namedPieces {H : Type} : DataW H := .agg [.agg [.lit (.string [73, 50]), .lit (.string [35, 35])], .agg [.lit (.string [73, 51]), .lit (.string [35, 35, 35])], .agg [.lit (.string [86, 51]), .lit (.string [35, 35, 47, 35])], .agg [.lit (.string [73, 52]), .lit (.string [35, 35, 35, 35])], .agg [.lit (.string [76, 52]), .lit (.string [35, 35, 35, 47, 35])], .agg [.lit (.string [84, 52]), .lit (.string [35, 35, 35, 47, 46, 35])], .agg [.lit (.string [83, 52]), .lit (.string [46, 35, 35, 47, 35, 35])], .agg [.lit (.string [79, 52]), .lit (.string [35, 35, 47, 35, 35])], .agg [.lit (.string [88, 53]), .lit (.string [46, 35, 47, 35, 35, 35, 47, 46, 35])], .agg [.lit (.string [80, 53]), .lit (.string [35, 35, 47, 35, 35, 47, 35])], .agg [.lit (.string [87, 53]), .lit (.string [35, 47, 35, 35, 47, 46, 35, 35])], .agg [.lit (.string [85, 53]), .lit (.string [35, 46, 35, 47, 35, 35, 35])]]
/-- One of Go's own tables, pinned by name: the form's constant. -/
def laid_unicode_utf8_first : DataW Unit := Go.Pinned.utf8First

/-- 'laws.FnExactNameOfPiece': WHATEVER THE INPUT: true; the input reads as it did. -/
def fnExactNameOfPieceSpec : ChangeSpec := { name := "fnExactNameOfPiece", vars := ["loop.example/g03400/impl.namedPieces"], fn := fun _ => fun
  | [d, g1] => { results := [.lit (.bool true)], args := [d], vars := [g1] }
  | _ => none }
def fnExactNameOfPieceRow : OpenClaim := { program := "ytecfabhpjihcbaagreatdoor", sum := "cfe32e60ed6a5a1a057aec2f78af3c833c85e2e625f3918c3f1057897a31185f", func := "loop.example/g03400/laws.FnExactNameOfPiece", spec := "fnExactNameOfPiece", inPlace := ["internal/bytealg.CountString", "internal/bytealg.IndexByteString", "internal/bytealg.IndexString", "internal/abi.NoEscape", "internal/bytealg.MakeNoZero"], unfollowed := true, recurses := true, named := ["loop.example/g03400/impl.namedPieces", "unicode/utf8.first", "unicode/utf8.acceptRanges", "internal/bytealg.MaxLen"], apart := false, laid := [("unicode/utf8.acceptRanges", laid_unicode_utf8_acceptRanges), ("loop.example/g03400/impl.namedPieces", laid_loop_example_g03400_impl_namedPieces), ("unicode/utf8.first", laid_unicode_utf8_first)] }
def FnExactNameOfPieceSaid : Prop := fnExactNameOfPieceRow.holds Tryz.pinned (OpenSpec.ofChange fnExactNameOfPieceSpec)

/-- ITS FALSE NEIGHBOUR: 'it returns false'. Refute it at one input. -/
def fnExactNameOfPieceWrong : ChangeSpec := { name := "fnExactNameOfPiece", vars := ["loop.example/g03400/impl.namedPieces"], fn := fun _ => fun
  | [d, g1] => { results := [.lit (.bool false)], args := [d], vars := [g1] }
  | _ => none }
def FnExactNameOfPieceWrongFalsely : Prop := fnExactNameOfPieceRow.holds Tryz.pinned (OpenSpec.ofChange fnExactNameOfPieceWrong)

/- THE SECOND FORM. 'bulk': how many values and letters a reading holds, each counted each time it is reached (what is shared counts as often as it is met; a slice's spare places count too). A statement '..UptoSaid' is the law's where the arguments, and the package variables that the reading takes, are together of bulk at most 1048576: NARROWER than '..Said'. Prove '..Said' where nothing that the law and all that it calls make is longer than what came in: it says more and counts as full. Else prove '..UptoSaid'. A law counts once. -/
mutual
def uptoBulk {H : Type} : DataW H → Nat
  | .lit (.string bytes) => bytes.length + 1
  | .lit _ => 1
  | .nil => 1
  | .ptr d => uptoBulk d + 1
  | .slice elems spare => uptoBulkAll elems + uptoBulkAll spare + 1
  | .agg parts => uptoBulkAll parts + 1
  | .iface _ d => uptoBulk d + 1
  | .map entries => uptoBulkEntries entries + 1
  | .held _ => 1
def uptoBulkAll {H : Type} : List (DataW H) → Nat
  | [] => 0
  | d :: r => uptoBulk d + uptoBulkAll r
def uptoBulkEntries {H : Type} : List (Lit × DataW H) → Nat
  | [] => 0
  | x :: r => uptoBulkEntry x + uptoBulkEntries r
def uptoBulkEntry {H : Type} : Lit × DataW H → Nat
  | (.string bytes, d) => bytes.length + uptoBulk d + 1
  | (_, d) => uptoBulk d + 1
 end
def uptoSmall : (H : Type) → List (DataW H) → Bool := fun _ ds => decide (uptoBulkAll ds ≤ 1048576)
def OpenSpec.upto (s : _root_.Go.ChangeSpec) : _root_.Go.OpenSpec := { _root_.Go.OpenSpec.ofChange s with cond := some uptoSmall }

/-- 'laws.FnExactNameOfPiece', WHERE WHAT IT READS IS OF BULK AT MOST 1048576: true; the input reads as it did. -/
def fnExactNameOfPieceUptoRow : OpenClaim := { program := "ytecfabhpjihcbaagreatdoor", sum := "cfe32e60ed6a5a1a057aec2f78af3c833c85e2e625f3918c3f1057897a31185f", func := "loop.example/g03400/laws.FnExactNameOfPiece", spec := "fnExactNameOfPiece", inPlace := ["internal/bytealg.CountString", "internal/bytealg.IndexByteString", "internal/bytealg.IndexString", "internal/abi.NoEscape", "internal/bytealg.MakeNoZero"], unfollowed := true, recurses := true, named := ["loop.example/g03400/impl.namedPieces", "unicode/utf8.first", "unicode/utf8.acceptRanges", "internal/bytealg.MaxLen"], apart := false, laid := [("unicode/utf8.acceptRanges", laid_unicode_utf8_acceptRanges), ("loop.example/g03400/impl.namedPieces", laid_loop_example_g03400_impl_namedPieces), ("unicode/utf8.first", laid_unicode_utf8_first)], narrowed := true }
def FnExactNameOfPieceUptoSaid : Prop := fnExactNameOfPieceUptoRow.holds Tryz.pinned (OpenSpec.upto fnExactNameOfPieceSpec)

end Rows
end Go.Proofs.YtecfabhpjihcbaaGreatDoor
