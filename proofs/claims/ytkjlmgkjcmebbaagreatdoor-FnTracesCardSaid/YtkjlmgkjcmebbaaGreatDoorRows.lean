/-
  NARROWER THAN 'FOR EVERY INPUT', by the rows' own cells (each row's printed sentence says how): FnCovers: laid · FnTraces: laid · FnExactFindTiling: laid · FnExactHasTiling: laid · FnExactCountTilings: laid · FnExactTilingNumber: laid · FnExactRefutationOf: laid · FnExactIsRefutation: laid · FnExactSearchNodes: laid.
  DERIVED. THE GIVEN ROWS OF THIS SEAT. 9 by the template 'for every input the law returns true; each argument reads behind the call as it read before'; 0 by the template 'total and deterministic' (their statements: YtkjlmgkjcmebbaaGreatDoorTotals.lean).
  GIVEN WITH THE SEED: the statements are not yours to turn. If you find one false, say at which input.
  Laid BY PROGRAM, IN A SANDBOX (cutbox-rows.mjs): the forced cells as the released guide's own fill.sh prints them over the translation bc41650f208007ef… (all of the seat's roots in one cut). By AI agents, Wed Nov 11 2026. No macro, syntax, notation, axiom, sorry.
-/
import Derived.Test.YtkjlmgkjcmebbaaGreatDoorChecked
import GoSem.Claim
import GoSem.ClaimJoined
import GoSem.ClaimMapViews
import Derived.JoinedTies
import Derived.KernelRfl
namespace Go.Proofs.YtkjlmgkjcmebbaaGreatDoor
/- THE CELL 'sum', in the pinned program and in every row, IS THE sha256 OF THE DUMP (.gsa) THAT YtkjlmgkjcmebbaaGreatDoorProg.lean LOADS. Nothing in Lean hashes anything: it is a label: what it is worth is what the hold of that sum in a sandbox is worth. -/
noncomputable def Tryz.pinned : Pinned := { name := "ytkjlmgkjcmebbaagreatdoor", sum := "bc41650f208007ef3e02218164365b210b418cec7d13a0955b57e1797e683072", checked := Tryz.checked }
namespace Rows
def none {H : Type} : Left H := { results := [], args := [] }

/- WHAT THE LISTED PACKAGE-LEVEL VARIABLES READ AS WHEN THE CALL BEGINS. Each datum BY PROGRAM (the guide's laid-datum.mjs) off the statement by which the dump's own 'gosem.cut.vars' lays the variable. In a bare row this is a premise. The card (YtkjlmgkjcmebbaaGreatDoorCards.lean) ties it to the program's text. -/
def laid_math_bits_deBruijn32tab {H : Type} : DataW H := .agg [.lit (.int .u8 0), .lit (.int .u8 1), .lit (.int .u8 28), .lit (.int .u8 2), .lit (.int .u8 29), .lit (.int .u8 14), .lit (.int .u8 24), .lit (.int .u8 3), .lit (.int .u8 30), .lit (.int .u8 22), .lit (.int .u8 20), .lit (.int .u8 15), .lit (.int .u8 25), .lit (.int .u8 17), .lit (.int .u8 4), .lit (.int .u8 8), .lit (.int .u8 31), .lit (.int .u8 27), .lit (.int .u8 13), .lit (.int .u8 23), .lit (.int .u8 21), .lit (.int .u8 19), .lit (.int .u8 16), .lit (.int .u8 7), .lit (.int .u8 26), .lit (.int .u8 12), .lit (.int .u8 18), .lit (.int .u8 6), .lit (.int .u8 11), .lit (.int .u8 5), .lit (.int .u8 10), .lit (.int .u8 9)]
def laid_math_bits_deBruijn64tab {H : Type} : DataW H := .agg [.lit (.int .u8 0), .lit (.int .u8 1), .lit (.int .u8 56), .lit (.int .u8 2), .lit (.int .u8 57), .lit (.int .u8 49), .lit (.int .u8 28), .lit (.int .u8 3), .lit (.int .u8 61), .lit (.int .u8 58), .lit (.int .u8 42), .lit (.int .u8 50), .lit (.int .u8 38), .lit (.int .u8 29), .lit (.int .u8 17), .lit (.int .u8 4), .lit (.int .u8 62), .lit (.int .u8 47), .lit (.int .u8 59), .lit (.int .u8 36), .lit (.int .u8 45), .lit (.int .u8 43), .lit (.int .u8 51), .lit (.int .u8 22), .lit (.int .u8 53), .lit (.int .u8 39), .lit (.int .u8 33), .lit (.int .u8 30), .lit (.int .u8 24), .lit (.int .u8 18), .lit (.int .u8 12), .lit (.int .u8 5), .lit (.int .u8 63), .lit (.int .u8 55), .lit (.int .u8 48), .lit (.int .u8 27), .lit (.int .u8 60), .lit (.int .u8 41), .lit (.int .u8 37), .lit (.int .u8 16), .lit (.int .u8 46), .lit (.int .u8 35), .lit (.int .u8 44), .lit (.int .u8 21), .lit (.int .u8 52), .lit (.int .u8 32), .lit (.int .u8 23), .lit (.int .u8 11), .lit (.int .u8 54), .lit (.int .u8 26), .lit (.int .u8 40), .lit (.int .u8 15), .lit (.int .u8 34), .lit (.int .u8 20), .lit (.int .u8 31), .lit (.int .u8 10), .lit (.int .u8 25), .lit (.int .u8 14), .lit (.int .u8 19), .lit (.int .u8 9), .lit (.int .u8 13), .lit (.int .u8 8), .lit (.int .u8 7), .lit (.int .u8 6)]

/-- 'laws.FnCovers': WHATEVER THE INPUT: true; the input reads as it did. -/
def fnCoversSpec : ChangeSpec := { name := "fnCovers", fn := fun _ => fun
  | [d] => { results := [.lit (.bool true)], args := [d] }
  | _ => none }
def fnCoversRow : OpenClaim := { program := "ytkjlmgkjcmebbaagreatdoor", sum := "bc41650f208007ef3e02218164365b210b418cec7d13a0955b57e1797e683072", func := "loop.example/g03400/laws.FnCovers", spec := "fnCovers", inPlace := ["internal/abi.NoEscape"], unfollowed := true, recurses := true, named := ["math/bits.deBruijn32tab", "math/bits.deBruijn64tab"], apart := false, laid := [("math/bits.deBruijn32tab", laid_math_bits_deBruijn32tab), ("math/bits.deBruijn64tab", laid_math_bits_deBruijn64tab)] }
def FnCoversSaid : Prop := fnCoversRow.holds Tryz.pinned (OpenSpec.ofChange fnCoversSpec)

/-- ITS FALSE NEIGHBOUR: 'it returns false'. Refute it at one input. -/
def fnCoversWrong : ChangeSpec := { name := "fnCovers", fn := fun _ => fun
  | [d] => { results := [.lit (.bool false)], args := [d] }
  | _ => none }
def FnCoversWrongFalsely : Prop := fnCoversRow.holds Tryz.pinned (OpenSpec.ofChange fnCoversWrong)

/-- 'laws.FnTraces': WHATEVER THE INPUT: true; the input reads as it did. -/
def fnTracesSpec : ChangeSpec := { name := "fnTraces", fn := fun _ => fun
  | [d] => { results := [.lit (.bool true)], args := [d] }
  | _ => none }
def fnTracesRow : OpenClaim := { program := "ytkjlmgkjcmebbaagreatdoor", sum := "bc41650f208007ef3e02218164365b210b418cec7d13a0955b57e1797e683072", func := "loop.example/g03400/laws.FnTraces", spec := "fnTraces", inPlace := ["internal/abi.NoEscape"], unfollowed := true, recurses := true, named := ["math/bits.deBruijn32tab", "math/bits.deBruijn64tab"], apart := false, laid := [("math/bits.deBruijn32tab", laid_math_bits_deBruijn32tab), ("math/bits.deBruijn64tab", laid_math_bits_deBruijn64tab)] }
def FnTracesSaid : Prop := fnTracesRow.holds Tryz.pinned (OpenSpec.ofChange fnTracesSpec)

/-- ITS FALSE NEIGHBOUR: 'it returns false'. Refute it at one input. -/
def fnTracesWrong : ChangeSpec := { name := "fnTraces", fn := fun _ => fun
  | [d] => { results := [.lit (.bool false)], args := [d] }
  | _ => none }
def FnTracesWrongFalsely : Prop := fnTracesRow.holds Tryz.pinned (OpenSpec.ofChange fnTracesWrong)

/-- 'laws.FnExactFindTiling': WHATEVER THE INPUT: true; the input reads as it did. -/
def fnExactFindTilingSpec : ChangeSpec := { name := "fnExactFindTiling", fn := fun _ => fun
  | [d1, d2] => { results := [.lit (.bool true)], args := [d1, d2] }
  | _ => none }
def fnExactFindTilingRow : OpenClaim := { program := "ytkjlmgkjcmebbaagreatdoor", sum := "bc41650f208007ef3e02218164365b210b418cec7d13a0955b57e1797e683072", func := "loop.example/g03400/laws.FnExactFindTiling", spec := "fnExactFindTiling", unfollowed := true, recurses := true, named := ["math/bits.deBruijn32tab", "math/bits.deBruijn64tab"], apart := false, laid := [("math/bits.deBruijn32tab", laid_math_bits_deBruijn32tab), ("math/bits.deBruijn64tab", laid_math_bits_deBruijn64tab)] }
def FnExactFindTilingSaid : Prop := fnExactFindTilingRow.holds Tryz.pinned (OpenSpec.ofChange fnExactFindTilingSpec)

/-- ITS FALSE NEIGHBOUR: 'it returns false'. Refute it at one input. -/
def fnExactFindTilingWrong : ChangeSpec := { name := "fnExactFindTiling", fn := fun _ => fun
  | [d1, d2] => { results := [.lit (.bool false)], args := [d1, d2] }
  | _ => none }
def FnExactFindTilingWrongFalsely : Prop := fnExactFindTilingRow.holds Tryz.pinned (OpenSpec.ofChange fnExactFindTilingWrong)

/-- 'laws.FnExactHasTiling': WHATEVER THE INPUT: true; the input reads as it did. -/
def fnExactHasTilingSpec : ChangeSpec := { name := "fnExactHasTiling", fn := fun _ => fun
  | [d1, d2] => { results := [.lit (.bool true)], args := [d1, d2] }
  | _ => none }
def fnExactHasTilingRow : OpenClaim := { program := "ytkjlmgkjcmebbaagreatdoor", sum := "bc41650f208007ef3e02218164365b210b418cec7d13a0955b57e1797e683072", func := "loop.example/g03400/laws.FnExactHasTiling", spec := "fnExactHasTiling", unfollowed := true, recurses := true, named := ["math/bits.deBruijn32tab", "math/bits.deBruijn64tab"], apart := false, laid := [("math/bits.deBruijn32tab", laid_math_bits_deBruijn32tab), ("math/bits.deBruijn64tab", laid_math_bits_deBruijn64tab)] }
def FnExactHasTilingSaid : Prop := fnExactHasTilingRow.holds Tryz.pinned (OpenSpec.ofChange fnExactHasTilingSpec)

/-- ITS FALSE NEIGHBOUR: 'it returns false'. Refute it at one input. -/
def fnExactHasTilingWrong : ChangeSpec := { name := "fnExactHasTiling", fn := fun _ => fun
  | [d1, d2] => { results := [.lit (.bool false)], args := [d1, d2] }
  | _ => none }
def FnExactHasTilingWrongFalsely : Prop := fnExactHasTilingRow.holds Tryz.pinned (OpenSpec.ofChange fnExactHasTilingWrong)

/-- 'laws.FnExactCountTilings': WHATEVER THE INPUT: true; the input reads as it did. -/
def fnExactCountTilingsSpec : ChangeSpec := { name := "fnExactCountTilings", fn := fun _ => fun
  | [d1, d2] => { results := [.lit (.bool true)], args := [d1, d2] }
  | _ => none }
def fnExactCountTilingsRow : OpenClaim := { program := "ytkjlmgkjcmebbaagreatdoor", sum := "bc41650f208007ef3e02218164365b210b418cec7d13a0955b57e1797e683072", func := "loop.example/g03400/laws.FnExactCountTilings", spec := "fnExactCountTilings", unfollowed := true, recurses := true, named := ["math/bits.deBruijn32tab", "math/bits.deBruijn64tab"], apart := false, laid := [("math/bits.deBruijn32tab", laid_math_bits_deBruijn32tab), ("math/bits.deBruijn64tab", laid_math_bits_deBruijn64tab)] }
def FnExactCountTilingsSaid : Prop := fnExactCountTilingsRow.holds Tryz.pinned (OpenSpec.ofChange fnExactCountTilingsSpec)

/-- ITS FALSE NEIGHBOUR: 'it returns false'. Refute it at one input. -/
def fnExactCountTilingsWrong : ChangeSpec := { name := "fnExactCountTilings", fn := fun _ => fun
  | [d1, d2] => { results := [.lit (.bool false)], args := [d1, d2] }
  | _ => none }
def FnExactCountTilingsWrongFalsely : Prop := fnExactCountTilingsRow.holds Tryz.pinned (OpenSpec.ofChange fnExactCountTilingsWrong)

/-- 'laws.FnExactTilingNumber': WHATEVER THE INPUT: true; the input reads as it did. -/
def fnExactTilingNumberSpec : ChangeSpec := { name := "fnExactTilingNumber", fn := fun _ => fun
  | [d1, d2, d3] => { results := [.lit (.bool true)], args := [d1, d2, d3] }
  | _ => none }
def fnExactTilingNumberRow : OpenClaim := { program := "ytkjlmgkjcmebbaagreatdoor", sum := "bc41650f208007ef3e02218164365b210b418cec7d13a0955b57e1797e683072", func := "loop.example/g03400/laws.FnExactTilingNumber", spec := "fnExactTilingNumber", unfollowed := true, recurses := true, named := ["math/bits.deBruijn32tab", "math/bits.deBruijn64tab"], apart := false, laid := [("math/bits.deBruijn32tab", laid_math_bits_deBruijn32tab), ("math/bits.deBruijn64tab", laid_math_bits_deBruijn64tab)] }
def FnExactTilingNumberSaid : Prop := fnExactTilingNumberRow.holds Tryz.pinned (OpenSpec.ofChange fnExactTilingNumberSpec)

/-- ITS FALSE NEIGHBOUR: 'it returns false'. Refute it at one input. -/
def fnExactTilingNumberWrong : ChangeSpec := { name := "fnExactTilingNumber", fn := fun _ => fun
  | [d1, d2, d3] => { results := [.lit (.bool false)], args := [d1, d2, d3] }
  | _ => none }
def FnExactTilingNumberWrongFalsely : Prop := fnExactTilingNumberRow.holds Tryz.pinned (OpenSpec.ofChange fnExactTilingNumberWrong)

/-- 'laws.FnExactRefutationOf': WHATEVER THE INPUT: true; the input reads as it did. -/
def fnExactRefutationOfSpec : ChangeSpec := { name := "fnExactRefutationOf", fn := fun _ => fun
  | [d1, d2] => { results := [.lit (.bool true)], args := [d1, d2] }
  | _ => none }
def fnExactRefutationOfRow : OpenClaim := { program := "ytkjlmgkjcmebbaagreatdoor", sum := "bc41650f208007ef3e02218164365b210b418cec7d13a0955b57e1797e683072", func := "loop.example/g03400/laws.FnExactRefutationOf", spec := "fnExactRefutationOf", inPlace := ["internal/abi.NoEscape"], unfollowed := true, recurses := true, named := ["math/bits.deBruijn32tab", "math/bits.deBruijn64tab"], apart := false, laid := [("math/bits.deBruijn32tab", laid_math_bits_deBruijn32tab), ("math/bits.deBruijn64tab", laid_math_bits_deBruijn64tab)] }
def FnExactRefutationOfSaid : Prop := fnExactRefutationOfRow.holds Tryz.pinned (OpenSpec.ofChange fnExactRefutationOfSpec)

/-- ITS FALSE NEIGHBOUR: 'it returns false'. Refute it at one input. -/
def fnExactRefutationOfWrong : ChangeSpec := { name := "fnExactRefutationOf", fn := fun _ => fun
  | [d1, d2] => { results := [.lit (.bool false)], args := [d1, d2] }
  | _ => none }
def FnExactRefutationOfWrongFalsely : Prop := fnExactRefutationOfRow.holds Tryz.pinned (OpenSpec.ofChange fnExactRefutationOfWrong)

/-- 'laws.FnExactIsRefutation': WHATEVER THE INPUT: true; the input reads as it did. -/
def fnExactIsRefutationSpec : ChangeSpec := { name := "fnExactIsRefutation", fn := fun _ => fun
  | [d1, d2, d3] => { results := [.lit (.bool true)], args := [d1, d2, d3] }
  | _ => none }
def fnExactIsRefutationRow : OpenClaim := { program := "ytkjlmgkjcmebbaagreatdoor", sum := "bc41650f208007ef3e02218164365b210b418cec7d13a0955b57e1797e683072", func := "loop.example/g03400/laws.FnExactIsRefutation", spec := "fnExactIsRefutation", inPlace := ["internal/abi.NoEscape"], unfollowed := true, recurses := true, named := ["math/bits.deBruijn32tab", "math/bits.deBruijn64tab"], apart := false, laid := [("math/bits.deBruijn32tab", laid_math_bits_deBruijn32tab), ("math/bits.deBruijn64tab", laid_math_bits_deBruijn64tab)] }
def FnExactIsRefutationSaid : Prop := fnExactIsRefutationRow.holds Tryz.pinned (OpenSpec.ofChange fnExactIsRefutationSpec)

/-- ITS FALSE NEIGHBOUR: 'it returns false'. Refute it at one input. -/
def fnExactIsRefutationWrong : ChangeSpec := { name := "fnExactIsRefutation", fn := fun _ => fun
  | [d1, d2, d3] => { results := [.lit (.bool false)], args := [d1, d2, d3] }
  | _ => none }
def FnExactIsRefutationWrongFalsely : Prop := fnExactIsRefutationRow.holds Tryz.pinned (OpenSpec.ofChange fnExactIsRefutationWrong)

/-- 'laws.FnExactSearchNodes': WHATEVER THE INPUT: true; the input reads as it did. -/
def fnExactSearchNodesSpec : ChangeSpec := { name := "fnExactSearchNodes", fn := fun _ => fun
  | [d1, d2] => { results := [.lit (.bool true)], args := [d1, d2] }
  | _ => none }
def fnExactSearchNodesRow : OpenClaim := { program := "ytkjlmgkjcmebbaagreatdoor", sum := "bc41650f208007ef3e02218164365b210b418cec7d13a0955b57e1797e683072", func := "loop.example/g03400/laws.FnExactSearchNodes", spec := "fnExactSearchNodes", inPlace := ["internal/abi.NoEscape"], unfollowed := true, recurses := true, named := ["math/bits.deBruijn32tab", "math/bits.deBruijn64tab"], apart := false, laid := [("math/bits.deBruijn32tab", laid_math_bits_deBruijn32tab), ("math/bits.deBruijn64tab", laid_math_bits_deBruijn64tab)] }
def FnExactSearchNodesSaid : Prop := fnExactSearchNodesRow.holds Tryz.pinned (OpenSpec.ofChange fnExactSearchNodesSpec)

/-- ITS FALSE NEIGHBOUR: 'it returns false'. Refute it at one input. -/
def fnExactSearchNodesWrong : ChangeSpec := { name := "fnExactSearchNodes", fn := fun _ => fun
  | [d1, d2] => { results := [.lit (.bool false)], args := [d1, d2] }
  | _ => none }
def FnExactSearchNodesWrongFalsely : Prop := fnExactSearchNodesRow.holds Tryz.pinned (OpenSpec.ofChange fnExactSearchNodesWrong)

/- THE SECOND FORM. 'bulk': how many values and letters a reading holds, each counted each time it is reached (what is shared counts as often as it is met; a slice's spare places count too). A statement '..UptoSaid' is the law's where the arguments, and the package variables that the reading takes, are together of bulk at most 1048576: NARROWER than '..Said'. Prove '..Said' where nothing that the law and all that it calls make is longer than what came in: it says more and counts as full. Else prove '..UptoSaid'. A law counts once. -/
mutual
def uptoBulk {H : Type} : DataW H → Nat
  | .lit (.string bytes) => bytes.length + 1
  | .lit _ => 1
  | .nil => 1
  | .ptr d => uptoBulk d + 1
  | .slice elems spare => uptoBulkAll elems + uptoBulkAll spare + 1
  | .agg parts => uptoBulkAll parts + 1
  | .iface _ d => uptoBulk d + 1
  | .map entries => uptoBulkEntries entries + 1
  | .held _ => 1
def uptoBulkAll {H : Type} : List (DataW H) → Nat
  | [] => 0
  | d :: r => uptoBulk d + uptoBulkAll r
def uptoBulkEntries {H : Type} : List (Lit × DataW H) → Nat
  | [] => 0
  | x :: r => uptoBulkEntry x + uptoBulkEntries r
def uptoBulkEntry {H : Type} : Lit × DataW H → Nat
  | (.string bytes, d) => bytes.length + uptoBulk d + 1
  | (_, d) => uptoBulk d + 1
 end
def uptoSmall : (H : Type) → List (DataW H) → Bool := fun _ ds => decide (uptoBulkAll ds ≤ 1048576)
def OpenSpec.upto (s : _root_.Go.ChangeSpec) : _root_.Go.OpenSpec := { _root_.Go.OpenSpec.ofChange s with cond := some uptoSmall }

/-- 'laws.FnCovers', WHERE WHAT IT READS IS OF BULK AT MOST 1048576: true; the input reads as it did. -/
def fnCoversUptoRow : OpenClaim := { program := "ytkjlmgkjcmebbaagreatdoor", sum := "bc41650f208007ef3e02218164365b210b418cec7d13a0955b57e1797e683072", func := "loop.example/g03400/laws.FnCovers", spec := "fnCovers", inPlace := ["internal/abi.NoEscape"], unfollowed := true, recurses := true, named := ["math/bits.deBruijn32tab", "math/bits.deBruijn64tab"], apart := false, laid := [("math/bits.deBruijn32tab", laid_math_bits_deBruijn32tab), ("math/bits.deBruijn64tab", laid_math_bits_deBruijn64tab)], narrowed := true }
def FnCoversUptoSaid : Prop := fnCoversUptoRow.holds Tryz.pinned (OpenSpec.upto fnCoversSpec)

/-- 'laws.FnTraces', WHERE WHAT IT READS IS OF BULK AT MOST 1048576: true; the input reads as it did. -/
def fnTracesUptoRow : OpenClaim := { program := "ytkjlmgkjcmebbaagreatdoor", sum := "bc41650f208007ef3e02218164365b210b418cec7d13a0955b57e1797e683072", func := "loop.example/g03400/laws.FnTraces", spec := "fnTraces", inPlace := ["internal/abi.NoEscape"], unfollowed := true, recurses := true, named := ["math/bits.deBruijn32tab", "math/bits.deBruijn64tab"], apart := false, laid := [("math/bits.deBruijn32tab", laid_math_bits_deBruijn32tab), ("math/bits.deBruijn64tab", laid_math_bits_deBruijn64tab)], narrowed := true }
def FnTracesUptoSaid : Prop := fnTracesUptoRow.holds Tryz.pinned (OpenSpec.upto fnTracesSpec)

/-- 'laws.FnExactFindTiling', WHERE WHAT IT READS IS OF BULK AT MOST 1048576: true; the input reads as it did. -/
def fnExactFindTilingUptoRow : OpenClaim := { program := "ytkjlmgkjcmebbaagreatdoor", sum := "bc41650f208007ef3e02218164365b210b418cec7d13a0955b57e1797e683072", func := "loop.example/g03400/laws.FnExactFindTiling", spec := "fnExactFindTiling", unfollowed := true, recurses := true, named := ["math/bits.deBruijn32tab", "math/bits.deBruijn64tab"], apart := false, laid := [("math/bits.deBruijn32tab", laid_math_bits_deBruijn32tab), ("math/bits.deBruijn64tab", laid_math_bits_deBruijn64tab)], narrowed := true }
def FnExactFindTilingUptoSaid : Prop := fnExactFindTilingUptoRow.holds Tryz.pinned (OpenSpec.upto fnExactFindTilingSpec)

/-- 'laws.FnExactHasTiling', WHERE WHAT IT READS IS OF BULK AT MOST 1048576: true; the input reads as it did. -/
def fnExactHasTilingUptoRow : OpenClaim := { program := "ytkjlmgkjcmebbaagreatdoor", sum := "bc41650f208007ef3e02218164365b210b418cec7d13a0955b57e1797e683072", func := "loop.example/g03400/laws.FnExactHasTiling", spec := "fnExactHasTiling", unfollowed := true, recurses := true, named := ["math/bits.deBruijn32tab", "math/bits.deBruijn64tab"], apart := false, laid := [("math/bits.deBruijn32tab", laid_math_bits_deBruijn32tab), ("math/bits.deBruijn64tab", laid_math_bits_deBruijn64tab)], narrowed := true }
def FnExactHasTilingUptoSaid : Prop := fnExactHasTilingUptoRow.holds Tryz.pinned (OpenSpec.upto fnExactHasTilingSpec)

/-- 'laws.FnExactCountTilings', WHERE WHAT IT READS IS OF BULK AT MOST 1048576: true; the input reads as it did. -/
def fnExactCountTilingsUptoRow : OpenClaim := { program := "ytkjlmgkjcmebbaagreatdoor", sum := "bc41650f208007ef3e02218164365b210b418cec7d13a0955b57e1797e683072", func := "loop.example/g03400/laws.FnExactCountTilings", spec := "fnExactCountTilings", unfollowed := true, recurses := true, named := ["math/bits.deBruijn32tab", "math/bits.deBruijn64tab"], apart := false, laid := [("math/bits.deBruijn32tab", laid_math_bits_deBruijn32tab), ("math/bits.deBruijn64tab", laid_math_bits_deBruijn64tab)], narrowed := true }
def FnExactCountTilingsUptoSaid : Prop := fnExactCountTilingsUptoRow.holds Tryz.pinned (OpenSpec.upto fnExactCountTilingsSpec)

/-- 'laws.FnExactTilingNumber', WHERE WHAT IT READS IS OF BULK AT MOST 1048576: true; the input reads as it did. -/
def fnExactTilingNumberUptoRow : OpenClaim := { program := "ytkjlmgkjcmebbaagreatdoor", sum := "bc41650f208007ef3e02218164365b210b418cec7d13a0955b57e1797e683072", func := "loop.example/g03400/laws.FnExactTilingNumber", spec := "fnExactTilingNumber", unfollowed := true, recurses := true, named := ["math/bits.deBruijn32tab", "math/bits.deBruijn64tab"], apart := false, laid := [("math/bits.deBruijn32tab", laid_math_bits_deBruijn32tab), ("math/bits.deBruijn64tab", laid_math_bits_deBruijn64tab)], narrowed := true }
def FnExactTilingNumberUptoSaid : Prop := fnExactTilingNumberUptoRow.holds Tryz.pinned (OpenSpec.upto fnExactTilingNumberSpec)

/-- 'laws.FnExactRefutationOf', WHERE WHAT IT READS IS OF BULK AT MOST 1048576: true; the input reads as it did. -/
def fnExactRefutationOfUptoRow : OpenClaim := { program := "ytkjlmgkjcmebbaagreatdoor", sum := "bc41650f208007ef3e02218164365b210b418cec7d13a0955b57e1797e683072", func := "loop.example/g03400/laws.FnExactRefutationOf", spec := "fnExactRefutationOf", inPlace := ["internal/abi.NoEscape"], unfollowed := true, recurses := true, named := ["math/bits.deBruijn32tab", "math/bits.deBruijn64tab"], apart := false, laid := [("math/bits.deBruijn32tab", laid_math_bits_deBruijn32tab), ("math/bits.deBruijn64tab", laid_math_bits_deBruijn64tab)], narrowed := true }
def FnExactRefutationOfUptoSaid : Prop := fnExactRefutationOfUptoRow.holds Tryz.pinned (OpenSpec.upto fnExactRefutationOfSpec)

/-- 'laws.FnExactIsRefutation', WHERE WHAT IT READS IS OF BULK AT MOST 1048576: true; the input reads as it did. -/
def fnExactIsRefutationUptoRow : OpenClaim := { program := "ytkjlmgkjcmebbaagreatdoor", sum := "bc41650f208007ef3e02218164365b210b418cec7d13a0955b57e1797e683072", func := "loop.example/g03400/laws.FnExactIsRefutation", spec := "fnExactIsRefutation", inPlace := ["internal/abi.NoEscape"], unfollowed := true, recurses := true, named := ["math/bits.deBruijn32tab", "math/bits.deBruijn64tab"], apart := false, laid := [("math/bits.deBruijn32tab", laid_math_bits_deBruijn32tab), ("math/bits.deBruijn64tab", laid_math_bits_deBruijn64tab)], narrowed := true }
def FnExactIsRefutationUptoSaid : Prop := fnExactIsRefutationUptoRow.holds Tryz.pinned (OpenSpec.upto fnExactIsRefutationSpec)

/-- 'laws.FnExactSearchNodes', WHERE WHAT IT READS IS OF BULK AT MOST 1048576: true; the input reads as it did. -/
def fnExactSearchNodesUptoRow : OpenClaim := { program := "ytkjlmgkjcmebbaagreatdoor", sum := "bc41650f208007ef3e02218164365b210b418cec7d13a0955b57e1797e683072", func := "loop.example/g03400/laws.FnExactSearchNodes", spec := "fnExactSearchNodes", inPlace := ["internal/abi.NoEscape"], unfollowed := true, recurses := true, named := ["math/bits.deBruijn32tab", "math/bits.deBruijn64tab"], apart := false, laid := [("math/bits.deBruijn32tab", laid_math_bits_deBruijn32tab), ("math/bits.deBruijn64tab", laid_math_bits_deBruijn64tab)], narrowed := true }
def FnExactSearchNodesUptoSaid : Prop := fnExactSearchNodesUptoRow.holds Tryz.pinned (OpenSpec.upto fnExactSearchNodesSpec)

end Rows
end Go.Proofs.YtkjlmgkjcmebbaaGreatDoor
