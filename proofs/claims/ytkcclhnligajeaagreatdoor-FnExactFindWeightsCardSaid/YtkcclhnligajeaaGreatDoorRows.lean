/-
  NARROWER THAN 'FOR EVERY INPUT', by the rows' own cells (each row's printed sentence says how): FnTop: laid · FnWeights: laid · FnExactIsWeightProof: laid · FnExactFindWeights: laid · FnExactIsSignedTiling: laid · FnExactFindSigned: laid.
  DERIVED. THE GIVEN ROWS OF THIS SEAT. 6 by the template 'for every input the law returns true; each argument reads behind the call as it read before'; 0 by the template 'total and deterministic' (their statements: YtkcclhnligajeaaGreatDoorTotals.lean).
  GIVEN WITH THE SEED: the statements are not yours to turn. If you find one false, say at which input.
  Laid BY PROGRAM, IN A SANDBOX (cutbox-rows.mjs): the forced cells as the released guide's own fill.sh prints them over the translation d254e9640948918f… (all of the seat's roots in one cut). By AI agents, Wed Nov 11 2026. No macro, syntax, notation, axiom, sorry.
-/
import Derived.Test.YtkcclhnligajeaaGreatDoorChecked
import GoSem.Claim
import GoSem.ClaimJoined
import GoSem.ClaimMapViews
import Derived.JoinedTies
import Derived.KernelRfl
namespace Go.Proofs.YtkcclhnligajeaaGreatDoor
/- THE CELL 'sum', in the pinned program and in every row, IS THE sha256 OF THE DUMP (.gsa) THAT YtkcclhnligajeaaGreatDoorProg.lean LOADS. Nothing in Lean hashes anything: it is a label: what it is worth is what the hold of that sum in a sandbox is worth. -/
noncomputable def Tryz.pinned : Pinned := { name := "ytkcclhnligajeaagreatdoor", sum := "d254e9640948918f342ae2fac77b21d3db74d21f25acac58f705de45bdb6dcca", checked := Tryz.checked }
namespace Rows
def none {H : Type} : Left H := { results := [], args := [] }

/- WHAT THE LISTED PACKAGE-LEVEL VARIABLES READ AS WHEN THE CALL BEGINS. Each datum BY PROGRAM (the guide's laid-datum.mjs) off the statement by which the dump's own 'gosem.cut.vars' lays the variable. In a bare row this is a premise. The card (YtkcclhnligajeaaGreatDoorCards.lean) ties it to the program's text. -/
def laid_math_bits_deBruijn32tab {H : Type} : DataW H := .agg [.lit (.int .u8 0), .lit (.int .u8 1), .lit (.int .u8 28), .lit (.int .u8 2), .lit (.int .u8 29), .lit (.int .u8 14), .lit (.int .u8 24), .lit (.int .u8 3), .lit (.int .u8 30), .lit (.int .u8 22), .lit (.int .u8 20), .lit (.int .u8 15), .lit (.int .u8 25), .lit (.int .u8 17), .lit (.int .u8 4), .lit (.int .u8 8), .lit (.int .u8 31), .lit (.int .u8 27), .lit (.int .u8 13), .lit (.int .u8 23), .lit (.int .u8 21), .lit (.int .u8 19), .lit (.int .u8 16), .lit (.int .u8 7), .lit (.int .u8 26), .lit (.int .u8 12), .lit (.int .u8 18), .lit (.int .u8 6), .lit (.int .u8 11), .lit (.int .u8 5), .lit (.int .u8 10), .lit (.int .u8 9)]
def laid_math_bits_deBruijn64tab {H : Type} : DataW H := .agg [.lit (.int .u8 0), .lit (.int .u8 1), .lit (.int .u8 56), .lit (.int .u8 2), .lit (.int .u8 57), .lit (.int .u8 49), .lit (.int .u8 28), .lit (.int .u8 3), .lit (.int .u8 61), .lit (.int .u8 58), .lit (.int .u8 42), .lit (.int .u8 50), .lit (.int .u8 38), .lit (.int .u8 29), .lit (.int .u8 17), .lit (.int .u8 4), .lit (.int .u8 62), .lit (.int .u8 47), .lit (.int .u8 59), .lit (.int .u8 36), .lit (.int .u8 45), .lit (.int .u8 43), .lit (.int .u8 51), .lit (.int .u8 22), .lit (.int .u8 53), .lit (.int .u8 39), .lit (.int .u8 33), .lit (.int .u8 30), .lit (.int .u8 24), .lit (.int .u8 18), .lit (.int .u8 12), .lit (.int .u8 5), .lit (.int .u8 63), .lit (.int .u8 55), .lit (.int .u8 48), .lit (.int .u8 27), .lit (.int .u8 60), .lit (.int .u8 41), .lit (.int .u8 37), .lit (.int .u8 16), .lit (.int .u8 46), .lit (.int .u8 35), .lit (.int .u8 44), .lit (.int .u8 21), .lit (.int .u8 52), .lit (.int .u8 32), .lit (.int .u8 23), .lit (.int .u8 11), .lit (.int .u8 54), .lit (.int .u8 26), .lit (.int .u8 40), .lit (.int .u8 15), .lit (.int .u8 34), .lit (.int .u8 20), .lit (.int .u8 31), .lit (.int .u8 10), .lit (.int .u8 25), .lit (.int .u8 14), .lit (.int .u8 19), .lit (.int .u8 9), .lit (.int .u8 13), .lit (.int .u8 8), .lit (.int .u8 7), .lit (.int .u8 6)]

/-- 'laws.FnTop': WHATEVER THE INPUT: true; the input reads as it did. -/
def fnTopSpec : ChangeSpec := { name := "fnTop", fn := fun _ => fun
  | [d] => { results := [.lit (.bool true)], args := [d] }
  | _ => none }
def fnTopRow : OpenClaim := { program := "ytkcclhnligajeaagreatdoor", sum := "d254e9640948918f342ae2fac77b21d3db74d21f25acac58f705de45bdb6dcca", func := "loop.example/g03400/laws.FnTop", spec := "fnTop", inPlace := ["internal/abi.NoEscape"], unfollowed := true, recurses := true, named := ["math/bits.deBruijn32tab", "math/bits.deBruijn64tab"], apart := false, laid := [("math/bits.deBruijn32tab", laid_math_bits_deBruijn32tab), ("math/bits.deBruijn64tab", laid_math_bits_deBruijn64tab)] }
def FnTopSaid : Prop := fnTopRow.holds Tryz.pinned (OpenSpec.ofChange fnTopSpec)

/-- ITS FALSE NEIGHBOUR: 'it returns false'. Refute it at one input. -/
def fnTopWrong : ChangeSpec := { name := "fnTop", fn := fun _ => fun
  | [d] => { results := [.lit (.bool false)], args := [d] }
  | _ => none }
def FnTopWrongFalsely : Prop := fnTopRow.holds Tryz.pinned (OpenSpec.ofChange fnTopWrong)

/-- 'laws.FnWeights': WHATEVER THE INPUT: true; the input reads as it did. -/
def fnWeightsSpec : ChangeSpec := { name := "fnWeights", fn := fun _ => fun
  | [d] => { results := [.lit (.bool true)], args := [d] }
  | _ => none }
def fnWeightsRow : OpenClaim := { program := "ytkcclhnligajeaagreatdoor", sum := "d254e9640948918f342ae2fac77b21d3db74d21f25acac58f705de45bdb6dcca", func := "loop.example/g03400/laws.FnWeights", spec := "fnWeights", unfollowed := true, recurses := true, named := ["math/bits.deBruijn32tab", "math/bits.deBruijn64tab"], apart := false, laid := [("math/bits.deBruijn32tab", laid_math_bits_deBruijn32tab), ("math/bits.deBruijn64tab", laid_math_bits_deBruijn64tab)] }
def FnWeightsSaid : Prop := fnWeightsRow.holds Tryz.pinned (OpenSpec.ofChange fnWeightsSpec)

/-- ITS FALSE NEIGHBOUR: 'it returns false'. Refute it at one input. -/
def fnWeightsWrong : ChangeSpec := { name := "fnWeights", fn := fun _ => fun
  | [d] => { results := [.lit (.bool false)], args := [d] }
  | _ => none }
def FnWeightsWrongFalsely : Prop := fnWeightsRow.holds Tryz.pinned (OpenSpec.ofChange fnWeightsWrong)

/-- 'laws.FnExactIsWeightProof': WHATEVER THE INPUT: true; the input reads as it did. -/
def fnExactIsWeightProofSpec : ChangeSpec := { name := "fnExactIsWeightProof", fn := fun _ => fun
  | [d1, d2, d3, d4] => { results := [.lit (.bool true)], args := [d1, d2, d3, d4] }
  | _ => none }
def fnExactIsWeightProofRow : OpenClaim := { program := "ytkcclhnligajeaagreatdoor", sum := "d254e9640948918f342ae2fac77b21d3db74d21f25acac58f705de45bdb6dcca", func := "loop.example/g03400/laws.FnExactIsWeightProof", spec := "fnExactIsWeightProof", unfollowed := true, recurses := true, named := ["math/bits.deBruijn32tab", "math/bits.deBruijn64tab"], apart := false, laid := [("math/bits.deBruijn32tab", laid_math_bits_deBruijn32tab), ("math/bits.deBruijn64tab", laid_math_bits_deBruijn64tab)] }
def FnExactIsWeightProofSaid : Prop := fnExactIsWeightProofRow.holds Tryz.pinned (OpenSpec.ofChange fnExactIsWeightProofSpec)

/-- ITS FALSE NEIGHBOUR: 'it returns false'. Refute it at one input. -/
def fnExactIsWeightProofWrong : ChangeSpec := { name := "fnExactIsWeightProof", fn := fun _ => fun
  | [d1, d2, d3, d4] => { results := [.lit (.bool false)], args := [d1, d2, d3, d4] }
  | _ => none }
def FnExactIsWeightProofWrongFalsely : Prop := fnExactIsWeightProofRow.holds Tryz.pinned (OpenSpec.ofChange fnExactIsWeightProofWrong)

/-- 'laws.FnExactFindWeights': WHATEVER THE INPUT: true; the input reads as it did. -/
def fnExactFindWeightsSpec : ChangeSpec := { name := "fnExactFindWeights", fn := fun _ => fun
  | [d1, d2, d3] => { results := [.lit (.bool true)], args := [d1, d2, d3] }
  | _ => none }
def fnExactFindWeightsRow : OpenClaim := { program := "ytkcclhnligajeaagreatdoor", sum := "d254e9640948918f342ae2fac77b21d3db74d21f25acac58f705de45bdb6dcca", func := "loop.example/g03400/laws.FnExactFindWeights", spec := "fnExactFindWeights", unfollowed := true, recurses := true, named := ["math/bits.deBruijn32tab", "math/bits.deBruijn64tab"], apart := false, laid := [("math/bits.deBruijn32tab", laid_math_bits_deBruijn32tab), ("math/bits.deBruijn64tab", laid_math_bits_deBruijn64tab)] }
def FnExactFindWeightsSaid : Prop := fnExactFindWeightsRow.holds Tryz.pinned (OpenSpec.ofChange fnExactFindWeightsSpec)

/-- ITS FALSE NEIGHBOUR: 'it returns false'. Refute it at one input. -/
def fnExactFindWeightsWrong : ChangeSpec := { name := "fnExactFindWeights", fn := fun _ => fun
  | [d1, d2, d3] => { results := [.lit (.bool false)], args := [d1, d2, d3] }
  | _ => none }
def FnExactFindWeightsWrongFalsely : Prop := fnExactFindWeightsRow.holds Tryz.pinned (OpenSpec.ofChange fnExactFindWeightsWrong)

/-- 'laws.FnExactIsSignedTiling': WHATEVER THE INPUT: true; the input reads as it did. -/
def fnExactIsSignedTilingSpec : ChangeSpec := { name := "fnExactIsSignedTiling", fn := fun _ => fun
  | [d1, d2, d3, d4] => { results := [.lit (.bool true)], args := [d1, d2, d3, d4] }
  | _ => none }
def fnExactIsSignedTilingRow : OpenClaim := { program := "ytkcclhnligajeaagreatdoor", sum := "d254e9640948918f342ae2fac77b21d3db74d21f25acac58f705de45bdb6dcca", func := "loop.example/g03400/laws.FnExactIsSignedTiling", spec := "fnExactIsSignedTiling", unfollowed := true, recurses := true, named := ["math/bits.deBruijn32tab", "math/bits.deBruijn64tab"], apart := false, laid := [("math/bits.deBruijn32tab", laid_math_bits_deBruijn32tab), ("math/bits.deBruijn64tab", laid_math_bits_deBruijn64tab)] }
def FnExactIsSignedTilingSaid : Prop := fnExactIsSignedTilingRow.holds Tryz.pinned (OpenSpec.ofChange fnExactIsSignedTilingSpec)

/-- ITS FALSE NEIGHBOUR: 'it returns false'. Refute it at one input. -/
def fnExactIsSignedTilingWrong : ChangeSpec := { name := "fnExactIsSignedTiling", fn := fun _ => fun
  | [d1, d2, d3, d4] => { results := [.lit (.bool false)], args := [d1, d2, d3, d4] }
  | _ => none }
def FnExactIsSignedTilingWrongFalsely : Prop := fnExactIsSignedTilingRow.holds Tryz.pinned (OpenSpec.ofChange fnExactIsSignedTilingWrong)

/-- 'laws.FnExactFindSigned': WHATEVER THE INPUT: true; the input reads as it did. -/
def fnExactFindSignedSpec : ChangeSpec := { name := "fnExactFindSigned", fn := fun _ => fun
  | [d1, d2, d3] => { results := [.lit (.bool true)], args := [d1, d2, d3] }
  | _ => none }
def fnExactFindSignedRow : OpenClaim := { program := "ytkcclhnligajeaagreatdoor", sum := "d254e9640948918f342ae2fac77b21d3db74d21f25acac58f705de45bdb6dcca", func := "loop.example/g03400/laws.FnExactFindSigned", spec := "fnExactFindSigned", unfollowed := true, recurses := true, named := ["math/bits.deBruijn32tab", "math/bits.deBruijn64tab"], apart := false, laid := [("math/bits.deBruijn32tab", laid_math_bits_deBruijn32tab), ("math/bits.deBruijn64tab", laid_math_bits_deBruijn64tab)] }
def FnExactFindSignedSaid : Prop := fnExactFindSignedRow.holds Tryz.pinned (OpenSpec.ofChange fnExactFindSignedSpec)

/-- ITS FALSE NEIGHBOUR: 'it returns false'. Refute it at one input. -/
def fnExactFindSignedWrong : ChangeSpec := { name := "fnExactFindSigned", fn := fun _ => fun
  | [d1, d2, d3] => { results := [.lit (.bool false)], args := [d1, d2, d3] }
  | _ => none }
def FnExactFindSignedWrongFalsely : Prop := fnExactFindSignedRow.holds Tryz.pinned (OpenSpec.ofChange fnExactFindSignedWrong)

/- THE SECOND FORM. 'bulk': how many values and letters a reading holds, each counted each time it is reached (what is shared counts as often as it is met; a slice's spare places count too). A statement '..UptoSaid' is the law's where the arguments, and the package variables that the reading takes, are together of bulk at most 1048576: NARROWER than '..Said'. Prove '..Said' where nothing that the law and all that it calls make is longer than what came in: it says more and counts as full. Else prove '..UptoSaid'. A law counts once. -/
mutual
def uptoBulk {H : Type} : DataW H → Nat
  | .lit (.string bytes) => bytes.length + 1
  | .lit _ => 1
  | .nil => 1
  | .ptr d => uptoBulk d + 1
  | .slice elems spare => uptoBulkAll elems + uptoBulkAll spare + 1
  | .agg parts => uptoBulkAll parts + 1
  | .iface _ d => uptoBulk d + 1
  | .map entries => uptoBulkEntries entries + 1
  | .held _ => 1
def uptoBulkAll {H : Type} : List (DataW H) → Nat
  | [] => 0
  | d :: r => uptoBulk d + uptoBulkAll r
def uptoBulkEntries {H : Type} : List (Lit × DataW H) → Nat
  | [] => 0
  | x :: r => uptoBulkEntry x + uptoBulkEntries r
def uptoBulkEntry {H : Type} : Lit × DataW H → Nat
  | (.string bytes, d) => bytes.length + uptoBulk d + 1
  | (_, d) => uptoBulk d + 1
 end
def uptoSmall : (H : Type) → List (DataW H) → Bool := fun _ ds => decide (uptoBulkAll ds ≤ 1048576)
def OpenSpec.upto (s : _root_.Go.ChangeSpec) : _root_.Go.OpenSpec := { _root_.Go.OpenSpec.ofChange s with cond := some uptoSmall }

/-- 'laws.FnTop', WHERE WHAT IT READS IS OF BULK AT MOST 1048576: true; the input reads as it did. -/
def fnTopUptoRow : OpenClaim := { program := "ytkcclhnligajeaagreatdoor", sum := "d254e9640948918f342ae2fac77b21d3db74d21f25acac58f705de45bdb6dcca", func := "loop.example/g03400/laws.FnTop", spec := "fnTop", inPlace := ["internal/abi.NoEscape"], unfollowed := true, recurses := true, named := ["math/bits.deBruijn32tab", "math/bits.deBruijn64tab"], apart := false, laid := [("math/bits.deBruijn32tab", laid_math_bits_deBruijn32tab), ("math/bits.deBruijn64tab", laid_math_bits_deBruijn64tab)], narrowed := true }
def FnTopUptoSaid : Prop := fnTopUptoRow.holds Tryz.pinned (OpenSpec.upto fnTopSpec)

/-- 'laws.FnWeights', WHERE WHAT IT READS IS OF BULK AT MOST 1048576: true; the input reads as it did. -/
def fnWeightsUptoRow : OpenClaim := { program := "ytkcclhnligajeaagreatdoor", sum := "d254e9640948918f342ae2fac77b21d3db74d21f25acac58f705de45bdb6dcca", func := "loop.example/g03400/laws.FnWeights", spec := "fnWeights", unfollowed := true, recurses := true, named := ["math/bits.deBruijn32tab", "math/bits.deBruijn64tab"], apart := false, laid := [("math/bits.deBruijn32tab", laid_math_bits_deBruijn32tab), ("math/bits.deBruijn64tab", laid_math_bits_deBruijn64tab)], narrowed := true }
def FnWeightsUptoSaid : Prop := fnWeightsUptoRow.holds Tryz.pinned (OpenSpec.upto fnWeightsSpec)

/-- 'laws.FnExactIsWeightProof', WHERE WHAT IT READS IS OF BULK AT MOST 1048576: true; the input reads as it did. -/
def fnExactIsWeightProofUptoRow : OpenClaim := { program := "ytkcclhnligajeaagreatdoor", sum := "d254e9640948918f342ae2fac77b21d3db74d21f25acac58f705de45bdb6dcca", func := "loop.example/g03400/laws.FnExactIsWeightProof", spec := "fnExactIsWeightProof", unfollowed := true, recurses := true, named := ["math/bits.deBruijn32tab", "math/bits.deBruijn64tab"], apart := false, laid := [("math/bits.deBruijn32tab", laid_math_bits_deBruijn32tab), ("math/bits.deBruijn64tab", laid_math_bits_deBruijn64tab)], narrowed := true }
def FnExactIsWeightProofUptoSaid : Prop := fnExactIsWeightProofUptoRow.holds Tryz.pinned (OpenSpec.upto fnExactIsWeightProofSpec)

/-- 'laws.FnExactFindWeights', WHERE WHAT IT READS IS OF BULK AT MOST 1048576: true; the input reads as it did. -/
def fnExactFindWeightsUptoRow : OpenClaim := { program := "ytkcclhnligajeaagreatdoor", sum := "d254e9640948918f342ae2fac77b21d3db74d21f25acac58f705de45bdb6dcca", func := "loop.example/g03400/laws.FnExactFindWeights", spec := "fnExactFindWeights", unfollowed := true, recurses := true, named := ["math/bits.deBruijn32tab", "math/bits.deBruijn64tab"], apart := false, laid := [("math/bits.deBruijn32tab", laid_math_bits_deBruijn32tab), ("math/bits.deBruijn64tab", laid_math_bits_deBruijn64tab)], narrowed := true }
def FnExactFindWeightsUptoSaid : Prop := fnExactFindWeightsUptoRow.holds Tryz.pinned (OpenSpec.upto fnExactFindWeightsSpec)

/-- 'laws.FnExactIsSignedTiling', WHERE WHAT IT READS IS OF BULK AT MOST 1048576: true; the input reads as it did. -/
def fnExactIsSignedTilingUptoRow : OpenClaim := { program := "ytkcclhnligajeaagreatdoor", sum := "d254e9640948918f342ae2fac77b21d3db74d21f25acac58f705de45bdb6dcca", func := "loop.example/g03400/laws.FnExactIsSignedTiling", spec := "fnExactIsSignedTiling", unfollowed := true, recurses := true, named := ["math/bits.deBruijn32tab", "math/bits.deBruijn64tab"], apart := false, laid := [("math/bits.deBruijn32tab", laid_math_bits_deBruijn32tab), ("math/bits.deBruijn64tab", laid_math_bits_deBruijn64tab)], narrowed := true }
def FnExactIsSignedTilingUptoSaid : Prop := fnExactIsSignedTilingUptoRow.holds Tryz.pinned (OpenSpec.upto fnExactIsSignedTilingSpec)

/-- 'laws.FnExactFindSigned', WHERE WHAT IT READS IS OF BULK AT MOST 1048576: true; the input reads as it did. -/
def fnExactFindSignedUptoRow : OpenClaim := { program := "ytkcclhnligajeaagreatdoor", sum := "d254e9640948918f342ae2fac77b21d3db74d21f25acac58f705de45bdb6dcca", func := "loop.example/g03400/laws.FnExactFindSigned", spec := "fnExactFindSigned", unfollowed := true, recurses := true, named := ["math/bits.deBruijn32tab", "math/bits.deBruijn64tab"], apart := false, laid := [("math/bits.deBruijn32tab", laid_math_bits_deBruijn32tab), ("math/bits.deBruijn64tab", laid_math_bits_deBruijn64tab)], narrowed := true }
def FnExactFindSignedUptoSaid : Prop := fnExactFindSignedUptoRow.holds Tryz.pinned (OpenSpec.upto fnExactFindSignedSpec)

end Rows
end Go.Proofs.YtkcclhnligajeaaGreatDoor
