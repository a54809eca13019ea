/-
  No cell of these rows narrows 'for every input' (looked for: loops, veiled, ifaces, maps, wideKeys, modest, calm, conditions, laid).
  DERIVED. THE GIVEN ROWS OF THIS SEAT. 16 by the template 'for every input the law returns true; each argument reads behind the call as it read before'; 0 by the template 'total and deterministic' (their statements: YtpeobloofofnlaaTotals.lean).
  GIVEN WITH THE SEED: the statements are not yours to turn. If you find one false, say at which input.
  Laid BY PROGRAM, IN A SANDBOX (cutbox-rows.mjs): the forced cells as the released guide's own fill.sh prints them over the translation 58af2441610cd11d… (all of the seat's roots in one cut). By AI agents, Wed Nov 11 2026. No macro, syntax, notation, axiom, sorry.
-/
import Derived.Test.YtpeobloofofnlaaChecked
import GoSem.Claim
import GoSem.ClaimJoined
import GoSem.ClaimMapViews
import Derived.JoinedTies
import Derived.KernelRfl
namespace Go.Proofs.Ytpeobloofofnlaa
/- THE CELL 'sum', in the pinned program and in every row, IS THE sha256 OF THE DUMP (.gsa) THAT YtpeobloofofnlaaProg.lean LOADS. Nothing in Lean hashes anything: it is a label: what it is worth is what the hold of that sum in a sandbox is worth. -/
noncomputable def Try.pinned : Pinned := { name := "ytpeobloofofnlaa", sum := "58af2441610cd11de5ca23683b3eb16706b4e69397704abf068c7e2d52b930ad", checked := Try.checked }
namespace Rows
def none {H : Type} : Left H := { results := [], args := [] }

/-- 'laws.FnSetCells': WHATEVER THE INPUT: true; the input reads as it did. -/
def fnSetCellsSpec : ChangeSpec := { name := "fnSetCells", fn := fun _ => fun
  | [d] => { results := [.lit (.bool true)], args := [d] }
  | _ => none }
def fnSetCellsRow : OpenClaim := { program := "ytpeobloofofnlaa", sum := "58af2441610cd11de5ca23683b3eb16706b4e69397704abf068c7e2d52b930ad", func := "loop.example/g00911/laws.FnSetCells", spec := "fnSetCells", unfollowed := true, recurses := true, apart := false }
def FnSetCellsSaid : Prop := fnSetCellsRow.holds Try.pinned (OpenSpec.ofChange fnSetCellsSpec)

/-- ITS FALSE NEIGHBOUR: 'it returns false'. Refute it at one input. -/
def fnSetCellsWrong : ChangeSpec := { name := "fnSetCells", fn := fun _ => fun
  | [d] => { results := [.lit (.bool false)], args := [d] }
  | _ => none }
def FnSetCellsWrongFalsely : Prop := fnSetCellsRow.holds Try.pinned (OpenSpec.ofChange fnSetCellsWrong)

/-- 'laws.FnStandardBoards': WHATEVER THE INPUT: true; the input reads as it did. -/
def fnStandardBoardsSpec : ChangeSpec := { name := "fnStandardBoards", fn := fun _ => fun
  | [d] => { results := [.lit (.bool true)], args := [d] }
  | _ => none }
def fnStandardBoardsRow : OpenClaim := { program := "ytpeobloofofnlaa", sum := "58af2441610cd11de5ca23683b3eb16706b4e69397704abf068c7e2d52b930ad", func := "loop.example/g00911/laws.FnStandardBoards", spec := "fnStandardBoards", inPlace := ["internal/abi.NoEscape", "internal/bytealg.MakeNoZero"], unfollowed := true, recurses := true, apart := false }
def FnStandardBoardsSaid : Prop := fnStandardBoardsRow.holds Try.pinned (OpenSpec.ofChange fnStandardBoardsSpec)

/-- ITS FALSE NEIGHBOUR: 'it returns false'. Refute it at one input. -/
def fnStandardBoardsWrong : ChangeSpec := { name := "fnStandardBoards", fn := fun _ => fun
  | [d] => { results := [.lit (.bool false)], args := [d] }
  | _ => none }
def FnStandardBoardsWrongFalsely : Prop := fnStandardBoardsRow.holds Try.pinned (OpenSpec.ofChange fnStandardBoardsWrong)

/-- 'laws.FnPatterns': WHATEVER THE INPUT: true; the input reads as it did. -/
def fnPatternsSpec : ChangeSpec := { name := "fnPatterns", fn := fun _ => fun
  | [d] => { results := [.lit (.bool true)], args := [d] }
  | _ => none }
def fnPatternsRow : OpenClaim := { program := "ytpeobloofofnlaa", sum := "58af2441610cd11de5ca23683b3eb16706b4e69397704abf068c7e2d52b930ad", func := "loop.example/g00911/laws.FnPatterns", spec := "fnPatterns", inPlace := ["internal/bytealg.CountString", "internal/bytealg.IndexByteString", "internal/bytealg.IndexString"], unfollowed := true, recurses := true, named := ["internal/bytealg.MaxLen"], apart := false }
def FnPatternsSaid : Prop := fnPatternsRow.holds Try.pinned (OpenSpec.ofChange fnPatternsSpec)

/-- ITS FALSE NEIGHBOUR: 'it returns false'. Refute it at one input. -/
def fnPatternsWrong : ChangeSpec := { name := "fnPatterns", fn := fun _ => fun
  | [d] => { results := [.lit (.bool false)], args := [d] }
  | _ => none }
def FnPatternsWrongFalsely : Prop := fnPatternsRow.holds Try.pinned (OpenSpec.ofChange fnPatternsWrong)

/-- 'laws.FnHooks': WHATEVER THE INPUT: true; the input reads as it did. -/
def fnHooksSpec : ChangeSpec := { name := "fnHooks", fn := fun _ => fun
  | [d] => { results := [.lit (.bool true)], args := [d] }
  | _ => none }
def fnHooksRow : OpenClaim := { program := "ytpeobloofofnlaa", sum := "58af2441610cd11de5ca23683b3eb16706b4e69397704abf068c7e2d52b930ad", func := "loop.example/g00911/laws.FnHooks", spec := "fnHooks", inPlace := ["internal/abi.NoEscape"], unfollowed := true, recurses := true, apart := false }
def FnHooksSaid : Prop := fnHooksRow.holds Try.pinned (OpenSpec.ofChange fnHooksSpec)

/-- ITS FALSE NEIGHBOUR: 'it returns false'. Refute it at one input. -/
def fnHooksWrong : ChangeSpec := { name := "fnHooks", fn := fun _ => fun
  | [d] => { results := [.lit (.bool false)], args := [d] }
  | _ => none }
def FnHooksWrongFalsely : Prop := fnHooksRow.holds Try.pinned (OpenSpec.ofChange fnHooksWrong)

/-- 'laws.FnLadders': WHATEVER THE INPUT: true; the input reads as it did. -/
def fnLaddersSpec : ChangeSpec := { name := "fnLadders", fn := fun _ => fun
  | [d] => { results := [.lit (.bool true)], args := [d] }
  | _ => none }
def fnLaddersRow : OpenClaim := { program := "ytpeobloofofnlaa", sum := "58af2441610cd11de5ca23683b3eb16706b4e69397704abf068c7e2d52b930ad", func := "loop.example/g00911/laws.FnLadders", spec := "fnLadders", inPlace := ["internal/bytealg.IndexByteString", "internal/abi.NoEscape", "internal/bytealg.MakeNoZero"], unfollowed := true, recurses := true, apart := false }
def FnLaddersSaid : Prop := fnLaddersRow.holds Try.pinned (OpenSpec.ofChange fnLaddersSpec)

/-- ITS FALSE NEIGHBOUR: 'it returns false'. Refute it at one input. -/
def fnLaddersWrong : ChangeSpec := { name := "fnLadders", fn := fun _ => fun
  | [d] => { results := [.lit (.bool false)], args := [d] }
  | _ => none }
def FnLaddersWrongFalsely : Prop := fnLaddersRow.holds Try.pinned (OpenSpec.ofChange fnLaddersWrong)

/-- 'laws.FnExactValidBoard': WHATEVER THE INPUT: true; the input reads as it did. -/
def fnExactValidBoardSpec : ChangeSpec := { name := "fnExactValidBoard", fn := fun _ => fun
  | [d] => { results := [.lit (.bool true)], args := [d] }
  | _ => none }
def fnExactValidBoardRow : OpenClaim := { program := "ytpeobloofofnlaa", sum := "58af2441610cd11de5ca23683b3eb16706b4e69397704abf068c7e2d52b930ad", func := "loop.example/g00911/laws.FnExactValidBoard", spec := "fnExactValidBoard", unfollowed := true, recurses := true, apart := false }
def FnExactValidBoardSaid : Prop := fnExactValidBoardRow.holds Try.pinned (OpenSpec.ofChange fnExactValidBoardSpec)

/-- ITS FALSE NEIGHBOUR: 'it returns false'. Refute it at one input. -/
def fnExactValidBoardWrong : ChangeSpec := { name := "fnExactValidBoard", fn := fun _ => fun
  | [d] => { results := [.lit (.bool false)], args := [d] }
  | _ => none }
def FnExactValidBoardWrongFalsely : Prop := fnExactValidBoardRow.holds Try.pinned (OpenSpec.ofChange fnExactValidBoardWrong)

/-- 'laws.FnExactSameBoard': WHATEVER THE INPUT: true; the input reads as it did. -/
def fnExactSameBoardSpec : ChangeSpec := { name := "fnExactSameBoard", fn := fun _ => fun
  | [d1, d2] => { results := [.lit (.bool true)], args := [d1, d2] }
  | _ => none }
def fnExactSameBoardRow : OpenClaim := { program := "ytpeobloofofnlaa", sum := "58af2441610cd11de5ca23683b3eb16706b4e69397704abf068c7e2d52b930ad", func := "loop.example/g00911/laws.FnExactSameBoard", spec := "fnExactSameBoard", apart := false }
def FnExactSameBoardSaid : Prop := fnExactSameBoardRow.holds Try.pinned (OpenSpec.ofChange fnExactSameBoardSpec)

/-- ITS FALSE NEIGHBOUR: 'it returns false'. Refute it at one input. -/
def fnExactSameBoardWrong : ChangeSpec := { name := "fnExactSameBoard", fn := fun _ => fun
  | [d1, d2] => { results := [.lit (.bool false)], args := [d1, d2] }
  | _ => none }
def FnExactSameBoardWrongFalsely : Prop := fnExactSameBoardRow.holds Try.pinned (OpenSpec.ofChange fnExactSameBoardWrong)

/-- 'laws.FnExactEmptyBoard': WHATEVER THE INPUT: true; the input reads as it did. -/
def fnExactEmptyBoardSpec : ChangeSpec := { name := "fnExactEmptyBoard", fn := fun _ => fun
  | [d] => { results := [.lit (.bool true)], args := [d] }
  | _ => none }
def fnExactEmptyBoardRow : OpenClaim := { program := "ytpeobloofofnlaa", sum := "58af2441610cd11de5ca23683b3eb16706b4e69397704abf068c7e2d52b930ad", func := "loop.example/g00911/laws.FnExactEmptyBoard", spec := "fnExactEmptyBoard", inPlace := ["internal/abi.NoEscape", "internal/bytealg.MakeNoZero"], apart := false }
def FnExactEmptyBoardSaid : Prop := fnExactEmptyBoardRow.holds Try.pinned (OpenSpec.ofChange fnExactEmptyBoardSpec)

/-- ITS FALSE NEIGHBOUR: 'it returns false'. Refute it at one input. -/
def fnExactEmptyBoardWrong : ChangeSpec := { name := "fnExactEmptyBoard", fn := fun _ => fun
  | [d] => { results := [.lit (.bool false)], args := [d] }
  | _ => none }
def FnExactEmptyBoardWrongFalsely : Prop := fnExactEmptyBoardRow.holds Try.pinned (OpenSpec.ofChange fnExactEmptyBoardWrong)

/-- 'laws.FnExactStandardBoard': WHATEVER THE INPUT: true; the input reads as it did. -/
def fnExactStandardBoardSpec : ChangeSpec := { name := "fnExactStandardBoard", fn := fun _ => fun
  | [d] => { results := [.lit (.bool true)], args := [d] }
  | _ => none }
def fnExactStandardBoardRow : OpenClaim := { program := "ytpeobloofofnlaa", sum := "58af2441610cd11de5ca23683b3eb16706b4e69397704abf068c7e2d52b930ad", func := "loop.example/g00911/laws.FnExactStandardBoard", spec := "fnExactStandardBoard", inPlace := ["internal/abi.NoEscape", "internal/bytealg.MakeNoZero"], apart := false }
def FnExactStandardBoardSaid : Prop := fnExactStandardBoardRow.holds Try.pinned (OpenSpec.ofChange fnExactStandardBoardSpec)

/-- ITS FALSE NEIGHBOUR: 'it returns false'. Refute it at one input. -/
def fnExactStandardBoardWrong : ChangeSpec := { name := "fnExactStandardBoard", fn := fun _ => fun
  | [d] => { results := [.lit (.bool false)], args := [d] }
  | _ => none }
def FnExactStandardBoardWrongFalsely : Prop := fnExactStandardBoardRow.holds Try.pinned (OpenSpec.ofChange fnExactStandardBoardWrong)

/-- 'laws.FnExactCellAt': WHATEVER THE INPUT: true; the input reads as it did. -/
def fnExactCellAtSpec : ChangeSpec := { name := "fnExactCellAt", fn := fun _ => fun
  | [d1, d2, d3] => { results := [.lit (.bool true)], args := [d1, d2, d3] }
  | _ => none }
def fnExactCellAtRow : OpenClaim := { program := "ytpeobloofofnlaa", sum := "58af2441610cd11de5ca23683b3eb16706b4e69397704abf068c7e2d52b930ad", func := "loop.example/g00911/laws.FnExactCellAt", spec := "fnExactCellAt", unfollowed := true, recurses := true, apart := false }
def FnExactCellAtSaid : Prop := fnExactCellAtRow.holds Try.pinned (OpenSpec.ofChange fnExactCellAtSpec)

/-- ITS FALSE NEIGHBOUR: 'it returns false'. Refute it at one input. -/
def fnExactCellAtWrong : ChangeSpec := { name := "fnExactCellAt", fn := fun _ => fun
  | [d1, d2, d3] => { results := [.lit (.bool false)], args := [d1, d2, d3] }
  | _ => none }
def FnExactCellAtWrongFalsely : Prop := fnExactCellAtRow.holds Try.pinned (OpenSpec.ofChange fnExactCellAtWrong)

/-- 'laws.FnExactPremiumAt': WHATEVER THE INPUT: true; the input reads as it did. -/
def fnExactPremiumAtSpec : ChangeSpec := { name := "fnExactPremiumAt", fn := fun _ => fun
  | [d1, d2, d3] => { results := [.lit (.bool true)], args := [d1, d2, d3] }
  | _ => none }
def fnExactPremiumAtRow : OpenClaim := { program := "ytpeobloofofnlaa", sum := "58af2441610cd11de5ca23683b3eb16706b4e69397704abf068c7e2d52b930ad", func := "loop.example/g00911/laws.FnExactPremiumAt", spec := "fnExactPremiumAt", unfollowed := true, recurses := true, apart := false }
def FnExactPremiumAtSaid : Prop := fnExactPremiumAtRow.holds Try.pinned (OpenSpec.ofChange fnExactPremiumAtSpec)

/-- ITS FALSE NEIGHBOUR: 'it returns false'. Refute it at one input. -/
def fnExactPremiumAtWrong : ChangeSpec := { name := "fnExactPremiumAt", fn := fun _ => fun
  | [d1, d2, d3] => { results := [.lit (.bool false)], args := [d1, d2, d3] }
  | _ => none }
def FnExactPremiumAtWrongFalsely : Prop := fnExactPremiumAtRow.holds Try.pinned (OpenSpec.ofChange fnExactPremiumAtWrong)

/-- 'laws.FnExactSetCell': WHATEVER THE INPUT: true; the input reads as it did. -/
def fnExactSetCellSpec : ChangeSpec := { name := "fnExactSetCell", fn := fun _ => fun
  | [d1, d2, d3, d4] => { results := [.lit (.bool true)], args := [d1, d2, d3, d4] }
  | _ => none }
def fnExactSetCellRow : OpenClaim := { program := "ytpeobloofofnlaa", sum := "58af2441610cd11de5ca23683b3eb16706b4e69397704abf068c7e2d52b930ad", func := "loop.example/g00911/laws.FnExactSetCell", spec := "fnExactSetCell", unfollowed := true, recurses := true, apart := false }
def FnExactSetCellSaid : Prop := fnExactSetCellRow.holds Try.pinned (OpenSpec.ofChange fnExactSetCellSpec)

/-- ITS FALSE NEIGHBOUR: 'it returns false'. Refute it at one input. -/
def fnExactSetCellWrong : ChangeSpec := { name := "fnExactSetCell", fn := fun _ => fun
  | [d1, d2, d3, d4] => { results := [.lit (.bool false)], args := [d1, d2, d3, d4] }
  | _ => none }
def FnExactSetCellWrongFalsely : Prop := fnExactSetCellRow.holds Try.pinned (OpenSpec.ofChange fnExactSetCellWrong)

/-- 'laws.FnExactTransposeBoard': WHATEVER THE INPUT: true; the input reads as it did. -/
def fnExactTransposeBoardSpec : ChangeSpec := { name := "fnExactTransposeBoard", fn := fun _ => fun
  | [d] => { results := [.lit (.bool true)], args := [d] }
  | _ => none }
def fnExactTransposeBoardRow : OpenClaim := { program := "ytpeobloofofnlaa", sum := "58af2441610cd11de5ca23683b3eb16706b4e69397704abf068c7e2d52b930ad", func := "loop.example/g00911/laws.FnExactTransposeBoard", spec := "fnExactTransposeBoard", inPlace := ["internal/abi.NoEscape", "internal/bytealg.MakeNoZero"], unfollowed := true, recurses := true, apart := false }
def FnExactTransposeBoardSaid : Prop := fnExactTransposeBoardRow.holds Try.pinned (OpenSpec.ofChange fnExactTransposeBoardSpec)

/-- ITS FALSE NEIGHBOUR: 'it returns false'. Refute it at one input. -/
def fnExactTransposeBoardWrong : ChangeSpec := { name := "fnExactTransposeBoard", fn := fun _ => fun
  | [d] => { results := [.lit (.bool false)], args := [d] }
  | _ => none }
def FnExactTransposeBoardWrongFalsely : Prop := fnExactTransposeBoardRow.holds Try.pinned (OpenSpec.ofChange fnExactTransposeBoardWrong)

/-- 'laws.FnExactLineOf': WHATEVER THE INPUT: true; the input reads as it did. -/
def fnExactLineOfSpec : ChangeSpec := { name := "fnExactLineOf", fn := fun _ => fun
  | [d1, d2, d3] => { results := [.lit (.bool true)], args := [d1, d2, d3] }
  | _ => none }
def fnExactLineOfRow : OpenClaim := { program := "ytpeobloofofnlaa", sum := "58af2441610cd11de5ca23683b3eb16706b4e69397704abf068c7e2d52b930ad", func := "loop.example/g00911/laws.FnExactLineOf", spec := "fnExactLineOf", inPlace := ["internal/abi.NoEscape"], unfollowed := true, recurses := true, apart := false }
def FnExactLineOfSaid : Prop := fnExactLineOfRow.holds Try.pinned (OpenSpec.ofChange fnExactLineOfSpec)

/-- ITS FALSE NEIGHBOUR: 'it returns false'. Refute it at one input. -/
def fnExactLineOfWrong : ChangeSpec := { name := "fnExactLineOf", fn := fun _ => fun
  | [d1, d2, d3] => { results := [.lit (.bool false)], args := [d1, d2, d3] }
  | _ => none }
def FnExactLineOfWrongFalsely : Prop := fnExactLineOfRow.holds Try.pinned (OpenSpec.ofChange fnExactLineOfWrong)

/-- 'laws.FnExactIsBlank': WHATEVER THE INPUT: true; the input reads as it did. -/
def fnExactIsBlankSpec : ChangeSpec := { name := "fnExactIsBlank", fn := fun _ => fun
  | [d] => { results := [.lit (.bool true)], args := [d] }
  | _ => none }
def fnExactIsBlankRow : OpenClaim := { program := "ytpeobloofofnlaa", sum := "58af2441610cd11de5ca23683b3eb16706b4e69397704abf068c7e2d52b930ad", func := "loop.example/g00911/laws.FnExactIsBlank", spec := "fnExactIsBlank", unfollowed := true, recurses := true, apart := false }
def FnExactIsBlankSaid : Prop := fnExactIsBlankRow.holds Try.pinned (OpenSpec.ofChange fnExactIsBlankSpec)

/-- ITS FALSE NEIGHBOUR: 'it returns false'. Refute it at one input. -/
def fnExactIsBlankWrong : ChangeSpec := { name := "fnExactIsBlank", fn := fun _ => fun
  | [d] => { results := [.lit (.bool false)], args := [d] }
  | _ => none }
def FnExactIsBlankWrongFalsely : Prop := fnExactIsBlankRow.holds Try.pinned (OpenSpec.ofChange fnExactIsBlankWrong)

/-- 'laws.FnExactIsJoined': WHATEVER THE INPUT: true; the input reads as it did. -/
def fnExactIsJoinedSpec : ChangeSpec := { name := "fnExactIsJoined", fn := fun _ => fun
  | [d] => { results := [.lit (.bool true)], args := [d] }
  | _ => none }
def fnExactIsJoinedRow : OpenClaim := { program := "ytpeobloofofnlaa", sum := "58af2441610cd11de5ca23683b3eb16706b4e69397704abf068c7e2d52b930ad", func := "loop.example/g00911/laws.FnExactIsJoined", spec := "fnExactIsJoined", unfollowed := true, recurses := true, apart := false }
def FnExactIsJoinedSaid : Prop := fnExactIsJoinedRow.holds Try.pinned (OpenSpec.ofChange fnExactIsJoinedSpec)

/-- ITS FALSE NEIGHBOUR: 'it returns false'. Refute it at one input. -/
def fnExactIsJoinedWrong : ChangeSpec := { name := "fnExactIsJoined", fn := fun _ => fun
  | [d] => { results := [.lit (.bool false)], args := [d] }
  | _ => none }
def FnExactIsJoinedWrongFalsely : Prop := fnExactIsJoinedRow.holds Try.pinned (OpenSpec.ofChange fnExactIsJoinedWrong)

/- THE SECOND FORM. 'bulk': how many values and letters a reading holds, each counted each time it is reached (what is shared counts as often as it is met; a slice's spare places count too). A statement '..UptoSaid' is the law's where the arguments, and the package variables that the reading takes, are together of bulk at most 1048576: NARROWER than '..Said'. Prove '..Said' where nothing that the law and all that it calls make is longer than what came in: it says more and counts as full. Else prove '..UptoSaid'. A law counts once. -/
mutual
def uptoBulk {H : Type} : DataW H → Nat
  | .lit (.string bytes) => bytes.length + 1
  | .lit _ => 1
  | .nil => 1
  | .ptr d => uptoBulk d + 1
  | .slice elems spare => uptoBulkAll elems + uptoBulkAll spare + 1
  | .agg parts => uptoBulkAll parts + 1
  | .iface _ d => uptoBulk d + 1
  | .map entries => uptoBulkEntries entries + 1
  | .held _ => 1
def uptoBulkAll {H : Type} : List (DataW H) → Nat
  | [] => 0
  | d :: r => uptoBulk d + uptoBulkAll r
def uptoBulkEntries {H : Type} : List (Lit × DataW H) → Nat
  | [] => 0
  | x :: r => uptoBulkEntry x + uptoBulkEntries r
def uptoBulkEntry {H : Type} : Lit × DataW H → Nat
  | (.string bytes, d) => bytes.length + uptoBulk d + 1
  | (_, d) => uptoBulk d + 1
 end
def uptoSmall : (H : Type) → List (DataW H) → Bool := fun _ ds => decide (uptoBulkAll ds ≤ 1048576)
def OpenSpec.upto (s : _root_.Go.ChangeSpec) : _root_.Go.OpenSpec := { _root_.Go.OpenSpec.ofChange s with cond := some uptoSmall }

/-- 'laws.FnSetCells', WHERE WHAT IT READS IS OF BULK AT MOST 1048576: true; the input reads as it did. -/
def fnSetCellsUptoRow : OpenClaim := { program := "ytpeobloofofnlaa", sum := "58af2441610cd11de5ca23683b3eb16706b4e69397704abf068c7e2d52b930ad", func := "loop.example/g00911/laws.FnSetCells", spec := "fnSetCells", unfollowed := true, recurses := true, apart := false, narrowed := true }
def FnSetCellsUptoSaid : Prop := fnSetCellsUptoRow.holds Try.pinned (OpenSpec.upto fnSetCellsSpec)

/-- 'laws.FnStandardBoards', WHERE WHAT IT READS IS OF BULK AT MOST 1048576: true; the input reads as it did. -/
def fnStandardBoardsUptoRow : OpenClaim := { program := "ytpeobloofofnlaa", sum := "58af2441610cd11de5ca23683b3eb16706b4e69397704abf068c7e2d52b930ad", func := "loop.example/g00911/laws.FnStandardBoards", spec := "fnStandardBoards", inPlace := ["internal/abi.NoEscape", "internal/bytealg.MakeNoZero"], unfollowed := true, recurses := true, apart := false, narrowed := true }
def FnStandardBoardsUptoSaid : Prop := fnStandardBoardsUptoRow.holds Try.pinned (OpenSpec.upto fnStandardBoardsSpec)

/-- 'laws.FnPatterns', WHERE WHAT IT READS IS OF BULK AT MOST 1048576: true; the input reads as it did. -/
def fnPatternsUptoRow : OpenClaim := { program := "ytpeobloofofnlaa", sum := "58af2441610cd11de5ca23683b3eb16706b4e69397704abf068c7e2d52b930ad", func := "loop.example/g00911/laws.FnPatterns", spec := "fnPatterns", inPlace := ["internal/bytealg.CountString", "internal/bytealg.IndexByteString", "internal/bytealg.IndexString"], unfollowed := true, recurses := true, named := ["internal/bytealg.MaxLen"], apart := false, narrowed := true }
def FnPatternsUptoSaid : Prop := fnPatternsUptoRow.holds Try.pinned (OpenSpec.upto fnPatternsSpec)

/-- 'laws.FnHooks', WHERE WHAT IT READS IS OF BULK AT MOST 1048576: true; the input reads as it did. -/
def fnHooksUptoRow : OpenClaim := { program := "ytpeobloofofnlaa", sum := "58af2441610cd11de5ca23683b3eb16706b4e69397704abf068c7e2d52b930ad", func := "loop.example/g00911/laws.FnHooks", spec := "fnHooks", inPlace := ["internal/abi.NoEscape"], unfollowed := true, recurses := true, apart := false, narrowed := true }
def FnHooksUptoSaid : Prop := fnHooksUptoRow.holds Try.pinned (OpenSpec.upto fnHooksSpec)

/-- 'laws.FnLadders', WHERE WHAT IT READS IS OF BULK AT MOST 1048576: true; the input reads as it did. -/
def fnLaddersUptoRow : OpenClaim := { program := "ytpeobloofofnlaa", sum := "58af2441610cd11de5ca23683b3eb16706b4e69397704abf068c7e2d52b930ad", func := "loop.example/g00911/laws.FnLadders", spec := "fnLadders", inPlace := ["internal/bytealg.IndexByteString", "internal/abi.NoEscape", "internal/bytealg.MakeNoZero"], unfollowed := true, recurses := true, apart := false, narrowed := true }
def FnLaddersUptoSaid : Prop := fnLaddersUptoRow.holds Try.pinned (OpenSpec.upto fnLaddersSpec)

/-- 'laws.FnExactValidBoard', WHERE WHAT IT READS IS OF BULK AT MOST 1048576: true; the input reads as it did. -/
def fnExactValidBoardUptoRow : OpenClaim := { program := "ytpeobloofofnlaa", sum := "58af2441610cd11de5ca23683b3eb16706b4e69397704abf068c7e2d52b930ad", func := "loop.example/g00911/laws.FnExactValidBoard", spec := "fnExactValidBoard", unfollowed := true, recurses := true, apart := false, narrowed := true }
def FnExactValidBoardUptoSaid : Prop := fnExactValidBoardUptoRow.holds Try.pinned (OpenSpec.upto fnExactValidBoardSpec)

/-- 'laws.FnExactSameBoard', WHERE WHAT IT READS IS OF BULK AT MOST 1048576: true; the input reads as it did. -/
def fnExactSameBoardUptoRow : OpenClaim := { program := "ytpeobloofofnlaa", sum := "58af2441610cd11de5ca23683b3eb16706b4e69397704abf068c7e2d52b930ad", func := "loop.example/g00911/laws.FnExactSameBoard", spec := "fnExactSameBoard", apart := false, narrowed := true }
def FnExactSameBoardUptoSaid : Prop := fnExactSameBoardUptoRow.holds Try.pinned (OpenSpec.upto fnExactSameBoardSpec)

/-- 'laws.FnExactEmptyBoard', WHERE WHAT IT READS IS OF BULK AT MOST 1048576: true; the input reads as it did. -/
def fnExactEmptyBoardUptoRow : OpenClaim := { program := "ytpeobloofofnlaa", sum := "58af2441610cd11de5ca23683b3eb16706b4e69397704abf068c7e2d52b930ad", func := "loop.example/g00911/laws.FnExactEmptyBoard", spec := "fnExactEmptyBoard", inPlace := ["internal/abi.NoEscape", "internal/bytealg.MakeNoZero"], apart := false, narrowed := true }
def FnExactEmptyBoardUptoSaid : Prop := fnExactEmptyBoardUptoRow.holds Try.pinned (OpenSpec.upto fnExactEmptyBoardSpec)

/-- 'laws.FnExactStandardBoard', WHERE WHAT IT READS IS OF BULK AT MOST 1048576: true; the input reads as it did. -/
def fnExactStandardBoardUptoRow : OpenClaim := { program := "ytpeobloofofnlaa", sum := "58af2441610cd11de5ca23683b3eb16706b4e69397704abf068c7e2d52b930ad", func := "loop.example/g00911/laws.FnExactStandardBoard", spec := "fnExactStandardBoard", inPlace := ["internal/abi.NoEscape", "internal/bytealg.MakeNoZero"], apart := false, narrowed := true }
def FnExactStandardBoardUptoSaid : Prop := fnExactStandardBoardUptoRow.holds Try.pinned (OpenSpec.upto fnExactStandardBoardSpec)

/-- 'laws.FnExactCellAt', WHERE WHAT IT READS IS OF BULK AT MOST 1048576: true; the input reads as it did. -/
def fnExactCellAtUptoRow : OpenClaim := { program := "ytpeobloofofnlaa", sum := "58af2441610cd11de5ca23683b3eb16706b4e69397704abf068c7e2d52b930ad", func := "loop.example/g00911/laws.FnExactCellAt", spec := "fnExactCellAt", unfollowed := true, recurses := true, apart := false, narrowed := true }
def FnExactCellAtUptoSaid : Prop := fnExactCellAtUptoRow.holds Try.pinned (OpenSpec.upto fnExactCellAtSpec)

/-- 'laws.FnExactPremiumAt', WHERE WHAT IT READS IS OF BULK AT MOST 1048576: true; the input reads as it did. -/
def fnExactPremiumAtUptoRow : OpenClaim := { program := "ytpeobloofofnlaa", sum := "58af2441610cd11de5ca23683b3eb16706b4e69397704abf068c7e2d52b930ad", func := "loop.example/g00911/laws.FnExactPremiumAt", spec := "fnExactPremiumAt", unfollowed := true, recurses := true, apart := false, narrowed := true }
def FnExactPremiumAtUptoSaid : Prop := fnExactPremiumAtUptoRow.holds Try.pinned (OpenSpec.upto fnExactPremiumAtSpec)

/-- 'laws.FnExactSetCell', WHERE WHAT IT READS IS OF BULK AT MOST 1048576: true; the input reads as it did. -/
def fnExactSetCellUptoRow : OpenClaim := { program := "ytpeobloofofnlaa", sum := "58af2441610cd11de5ca23683b3eb16706b4e69397704abf068c7e2d52b930ad", func := "loop.example/g00911/laws.FnExactSetCell", spec := "fnExactSetCell", unfollowed := true, recurses := true, apart := false, narrowed := true }
def FnExactSetCellUptoSaid : Prop := fnExactSetCellUptoRow.holds Try.pinned (OpenSpec.upto fnExactSetCellSpec)

/-- 'laws.FnExactTransposeBoard', WHERE WHAT IT READS IS OF BULK AT MOST 1048576: true; the input reads as it did. -/
def fnExactTransposeBoardUptoRow : OpenClaim := { program := "ytpeobloofofnlaa", sum := "58af2441610cd11de5ca23683b3eb16706b4e69397704abf068c7e2d52b930ad", func := "loop.example/g00911/laws.FnExactTransposeBoard", spec := "fnExactTransposeBoard", inPlace := ["internal/abi.NoEscape", "internal/bytealg.MakeNoZero"], unfollowed := true, recurses := true, apart := false, narrowed := true }
def FnExactTransposeBoardUptoSaid : Prop := fnExactTransposeBoardUptoRow.holds Try.pinned (OpenSpec.upto fnExactTransposeBoardSpec)

/-- 'laws.FnExactLineOf', WHERE WHAT IT READS IS OF BULK AT MOST 1048576: true; the input reads as it did. -/
def fnExactLineOfUptoRow : OpenClaim := { program := "ytpeobloofofnlaa", sum := "58af2441610cd11de5ca23683b3eb16706b4e69397704abf068c7e2d52b930ad", func := "loop.example/g00911/laws.FnExactLineOf", spec := "fnExactLineOf", inPlace := ["internal/abi.NoEscape"], unfollowed := true, recurses := true, apart := false, narrowed := true }
def FnExactLineOfUptoSaid : Prop := fnExactLineOfUptoRow.holds Try.pinned (OpenSpec.upto fnExactLineOfSpec)

/-- 'laws.FnExactIsBlank', WHERE WHAT IT READS IS OF BULK AT MOST 1048576: true; the input reads as it did. -/
def fnExactIsBlankUptoRow : OpenClaim := { program := "ytpeobloofofnlaa", sum := "58af2441610cd11de5ca23683b3eb16706b4e69397704abf068c7e2d52b930ad", func := "loop.example/g00911/laws.FnExactIsBlank", spec := "fnExactIsBlank", unfollowed := true, recurses := true, apart := false, narrowed := true }
def FnExactIsBlankUptoSaid : Prop := fnExactIsBlankUptoRow.holds Try.pinned (OpenSpec.upto fnExactIsBlankSpec)

/-- 'laws.FnExactIsJoined', WHERE WHAT IT READS IS OF BULK AT MOST 1048576: true; the input reads as it did. -/
def fnExactIsJoinedUptoRow : OpenClaim := { program := "ytpeobloofofnlaa", sum := "58af2441610cd11de5ca23683b3eb16706b4e69397704abf068c7e2d52b930ad", func := "loop.example/g00911/laws.FnExactIsJoined", spec := "fnExactIsJoined", unfollowed := true, recurses := true, apart := false, narrowed := true }
def FnExactIsJoinedUptoSaid : Prop := fnExactIsJoinedUptoRow.holds Try.pinned (OpenSpec.upto fnExactIsJoinedSpec)

end Rows
end Go.Proofs.Ytpeobloofofnlaa
