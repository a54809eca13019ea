/-
  No cell of these rows narrows 'for every input' (looked for: loops, veiled, ifaces, maps, wideKeys, modest, calm, conditions, laid).
  DERIVED. THE GIVEN ROWS OF THIS SEAT. 8 by the template 'for every input the law returns true; each argument reads behind the call as it read before'; 0 by the template 'total and deterministic' (their statements: YtmkdbahdhobdjaaTotals.lean).
  GIVEN WITH THE SEED: the statements are not yours to turn. If you find one false, say at which input.
  Laid BY PROGRAM, IN A SANDBOX (cutbox-rows.mjs): the forced cells as the released guide's own fill.sh prints them over the translation 5053dae68697a3eb… (all of the seat's roots in one cut). By AI agents, Wed Nov 11 2026. No macro, syntax, notation, axiom, sorry.
-/
import Derived.Test.YtmkdbahdhobdjaaChecked
import GoSem.Claim
import GoSem.ClaimJoined
import GoSem.ClaimMapViews
import Derived.JoinedTies
import Derived.KernelRfl
namespace Go.Proofs.Ytmkdbahdhobdjaa
/- THE CELL 'sum', in the pinned program and in every row, IS THE sha256 OF THE DUMP (.gsa) THAT YtmkdbahdhobdjaaProg.lean LOADS. Nothing in Lean hashes anything: it is a label: what it is worth is what the hold of that sum in a sandbox is worth. -/
noncomputable def Try.pinned : Pinned := { name := "ytmkdbahdhobdjaa", sum := "5053dae68697a3eb6bb2048bb18d5706451f5f53e6115e52a24b7af025d4e5be", checked := Try.checked }
namespace Rows
def none {H : Type} : Left H := { results := [], args := [] }

/-- 'laws.FnSetCells': WHATEVER THE INPUT: true; the input reads as it did. -/
def fnSetCellsSpec : ChangeSpec := { name := "fnSetCells", fn := fun _ => fun
  | [d] => { results := [.lit (.bool true)], args := [d] }
  | _ => none }
def fnSetCellsRow : OpenClaim := { program := "ytmkdbahdhobdjaa", sum := "5053dae68697a3eb6bb2048bb18d5706451f5f53e6115e52a24b7af025d4e5be", func := "loop.example/g00911/laws.FnSetCells", spec := "fnSetCells", unfollowed := true, recurses := true, apart := false }
def FnSetCellsSaid : Prop := fnSetCellsRow.holds Try.pinned (OpenSpec.ofChange fnSetCellsSpec)

/-- ITS FALSE NEIGHBOUR: 'it returns false'. Refute it at one input. -/
def fnSetCellsWrong : ChangeSpec := { name := "fnSetCells", fn := fun _ => fun
  | [d] => { results := [.lit (.bool false)], args := [d] }
  | _ => none }
def FnSetCellsWrongFalsely : Prop := fnSetCellsRow.holds Try.pinned (OpenSpec.ofChange fnSetCellsWrong)

/-- 'laws.FnPatterns': WHATEVER THE INPUT: true; the input reads as it did. -/
def fnPatternsSpec : ChangeSpec := { name := "fnPatterns", fn := fun _ => fun
  | [d] => { results := [.lit (.bool true)], args := [d] }
  | _ => none }
def fnPatternsRow : OpenClaim := { program := "ytmkdbahdhobdjaa", sum := "5053dae68697a3eb6bb2048bb18d5706451f5f53e6115e52a24b7af025d4e5be", func := "loop.example/g00911/laws.FnPatterns", spec := "fnPatterns", inPlace := ["internal/bytealg.CountString", "internal/bytealg.IndexByteString", "internal/bytealg.IndexString"], unfollowed := true, recurses := true, named := ["internal/bytealg.MaxLen"], apart := false }
def FnPatternsSaid : Prop := fnPatternsRow.holds Try.pinned (OpenSpec.ofChange fnPatternsSpec)

/-- ITS FALSE NEIGHBOUR: 'it returns false'. Refute it at one input. -/
def fnPatternsWrong : ChangeSpec := { name := "fnPatterns", fn := fun _ => fun
  | [d] => { results := [.lit (.bool false)], args := [d] }
  | _ => none }
def FnPatternsWrongFalsely : Prop := fnPatternsRow.holds Try.pinned (OpenSpec.ofChange fnPatternsWrong)

/-- 'laws.FnHooks': WHATEVER THE INPUT: true; the input reads as it did. -/
def fnHooksSpec : ChangeSpec := { name := "fnHooks", fn := fun _ => fun
  | [d] => { results := [.lit (.bool true)], args := [d] }
  | _ => none }
def fnHooksRow : OpenClaim := { program := "ytmkdbahdhobdjaa", sum := "5053dae68697a3eb6bb2048bb18d5706451f5f53e6115e52a24b7af025d4e5be", func := "loop.example/g00911/laws.FnHooks", spec := "fnHooks", inPlace := ["internal/abi.NoEscape"], unfollowed := true, recurses := true, apart := false }
def FnHooksSaid : Prop := fnHooksRow.holds Try.pinned (OpenSpec.ofChange fnHooksSpec)

/-- ITS FALSE NEIGHBOUR: 'it returns false'. Refute it at one input. -/
def fnHooksWrong : ChangeSpec := { name := "fnHooks", fn := fun _ => fun
  | [d] => { results := [.lit (.bool false)], args := [d] }
  | _ => none }
def FnHooksWrongFalsely : Prop := fnHooksRow.holds Try.pinned (OpenSpec.ofChange fnHooksWrong)

/-- 'laws.FnExactCellAt': WHATEVER THE INPUT: true; the input reads as it did. -/
def fnExactCellAtSpec : ChangeSpec := { name := "fnExactCellAt", fn := fun _ => fun
  | [d1, d2, d3] => { results := [.lit (.bool true)], args := [d1, d2, d3] }
  | _ => none }
def fnExactCellAtRow : OpenClaim := { program := "ytmkdbahdhobdjaa", sum := "5053dae68697a3eb6bb2048bb18d5706451f5f53e6115e52a24b7af025d4e5be", func := "loop.example/g00911/laws.FnExactCellAt", spec := "fnExactCellAt", unfollowed := true, recurses := true, apart := false }
def FnExactCellAtSaid : Prop := fnExactCellAtRow.holds Try.pinned (OpenSpec.ofChange fnExactCellAtSpec)

/-- ITS FALSE NEIGHBOUR: 'it returns false'. Refute it at one input. -/
def fnExactCellAtWrong : ChangeSpec := { name := "fnExactCellAt", fn := fun _ => fun
  | [d1, d2, d3] => { results := [.lit (.bool false)], args := [d1, d2, d3] }
  | _ => none }
def FnExactCellAtWrongFalsely : Prop := fnExactCellAtRow.holds Try.pinned (OpenSpec.ofChange fnExactCellAtWrong)

/-- 'laws.FnExactPremiumAt': WHATEVER THE INPUT: true; the input reads as it did. -/
def fnExactPremiumAtSpec : ChangeSpec := { name := "fnExactPremiumAt", fn := fun _ => fun
  | [d1, d2, d3] => { results := [.lit (.bool true)], args := [d1, d2, d3] }
  | _ => none }
def fnExactPremiumAtRow : OpenClaim := { program := "ytmkdbahdhobdjaa", sum := "5053dae68697a3eb6bb2048bb18d5706451f5f53e6115e52a24b7af025d4e5be", func := "loop.example/g00911/laws.FnExactPremiumAt", spec := "fnExactPremiumAt", unfollowed := true, recurses := true, apart := false }
def FnExactPremiumAtSaid : Prop := fnExactPremiumAtRow.holds Try.pinned (OpenSpec.ofChange fnExactPremiumAtSpec)

/-- ITS FALSE NEIGHBOUR: 'it returns false'. Refute it at one input. -/
def fnExactPremiumAtWrong : ChangeSpec := { name := "fnExactPremiumAt", fn := fun _ => fun
  | [d1, d2, d3] => { results := [.lit (.bool false)], args := [d1, d2, d3] }
  | _ => none }
def FnExactPremiumAtWrongFalsely : Prop := fnExactPremiumAtRow.holds Try.pinned (OpenSpec.ofChange fnExactPremiumAtWrong)

/-- 'laws.FnExactIsJoined': WHATEVER THE INPUT: true; the input reads as it did. -/
def fnExactIsJoinedSpec : ChangeSpec := { name := "fnExactIsJoined", fn := fun _ => fun
  | [d] => { results := [.lit (.bool true)], args := [d] }
  | _ => none }
def fnExactIsJoinedRow : OpenClaim := { program := "ytmkdbahdhobdjaa", sum := "5053dae68697a3eb6bb2048bb18d5706451f5f53e6115e52a24b7af025d4e5be", func := "loop.example/g00911/laws.FnExactIsJoined", spec := "fnExactIsJoined", unfollowed := true, recurses := true, apart := false }
def FnExactIsJoinedSaid : Prop := fnExactIsJoinedRow.holds Try.pinned (OpenSpec.ofChange fnExactIsJoinedSpec)

/-- ITS FALSE NEIGHBOUR: 'it returns false'. Refute it at one input. -/
def fnExactIsJoinedWrong : ChangeSpec := { name := "fnExactIsJoined", fn := fun _ => fun
  | [d] => { results := [.lit (.bool false)], args := [d] }
  | _ => none }
def FnExactIsJoinedWrongFalsely : Prop := fnExactIsJoinedRow.holds Try.pinned (OpenSpec.ofChange fnExactIsJoinedWrong)

/-- 'laws.FnExactTransposePlay': WHATEVER THE INPUT: true; the input reads as it did. -/
def fnExactTransposePlaySpec : ChangeSpec := { name := "fnExactTransposePlay", fn := fun _ => fun
  | [d] => { results := [.lit (.bool true)], args := [d] }
  | _ => none }
def fnExactTransposePlayRow : OpenClaim := { program := "ytmkdbahdhobdjaa", sum := "5053dae68697a3eb6bb2048bb18d5706451f5f53e6115e52a24b7af025d4e5be", func := "loop.example/g00911/laws.FnExactTransposePlay", spec := "fnExactTransposePlay", apart := false }
def FnExactTransposePlaySaid : Prop := fnExactTransposePlayRow.holds Try.pinned (OpenSpec.ofChange fnExactTransposePlaySpec)

/-- ITS FALSE NEIGHBOUR: 'it returns false'. Refute it at one input. -/
def fnExactTransposePlayWrong : ChangeSpec := { name := "fnExactTransposePlay", fn := fun _ => fun
  | [d] => { results := [.lit (.bool false)], args := [d] }
  | _ => none }
def FnExactTransposePlayWrongFalsely : Prop := fnExactTransposePlayRow.holds Try.pinned (OpenSpec.ofChange fnExactTransposePlayWrong)

/-- 'laws.FnExactComparePlays': WHATEVER THE INPUT: true; the input reads as it did. -/
def fnExactComparePlaysSpec : ChangeSpec := { name := "fnExactComparePlays", fn := fun _ => fun
  | [d1, d2] => { results := [.lit (.bool true)], args := [d1, d2] }
  | _ => none }
def fnExactComparePlaysRow : OpenClaim := { program := "ytmkdbahdhobdjaa", sum := "5053dae68697a3eb6bb2048bb18d5706451f5f53e6115e52a24b7af025d4e5be", func := "loop.example/g00911/laws.FnExactComparePlays", spec := "fnExactComparePlays", inPlace := ["internal/bytealg.abigen_runtime_cmpstring"], apart := false }
def FnExactComparePlaysSaid : Prop := fnExactComparePlaysRow.holds Try.pinned (OpenSpec.ofChange fnExactComparePlaysSpec)

/-- ITS FALSE NEIGHBOUR: 'it returns false'. Refute it at one input. -/
def fnExactComparePlaysWrong : ChangeSpec := { name := "fnExactComparePlays", fn := fun _ => fun
  | [d1, d2] => { results := [.lit (.bool false)], args := [d1, d2] }
  | _ => none }
def FnExactComparePlaysWrongFalsely : Prop := fnExactComparePlaysRow.holds Try.pinned (OpenSpec.ofChange fnExactComparePlaysWrong)

/- THE SECOND FORM. 'bulk': how many values and letters a reading holds, each counted each time it is reached (what is shared counts as often as it is met; a slice's spare places count too). A statement '..UptoSaid' is the law's where the arguments, and the package variables that the reading takes, are together of bulk at most 1048576: NARROWER than '..Said'. Prove '..Said' where nothing that the law and all that it calls make is longer than what came in: it says more and counts as full. Else prove '..UptoSaid'. A law counts once. -/
mutual
def uptoBulk {H : Type} : DataW H → Nat
  | .lit (.string bytes) => bytes.length + 1
  | .lit _ => 1
  | .nil => 1
  | .ptr d => uptoBulk d + 1
  | .slice elems spare => uptoBulkAll elems + uptoBulkAll spare + 1
  | .agg parts => uptoBulkAll parts + 1
  | .iface _ d => uptoBulk d + 1
  | .map entries => uptoBulkEntries entries + 1
  | .held _ => 1
def uptoBulkAll {H : Type} : List (DataW H) → Nat
  | [] => 0
  | d :: r => uptoBulk d + uptoBulkAll r
def uptoBulkEntries {H : Type} : List (Lit × DataW H) → Nat
  | [] => 0
  | x :: r => uptoBulkEntry x + uptoBulkEntries r
def uptoBulkEntry {H : Type} : Lit × DataW H → Nat
  | (.string bytes, d) => bytes.length + uptoBulk d + 1
  | (_, d) => uptoBulk d + 1
 end
def uptoSmall : (H : Type) → List (DataW H) → Bool := fun _ ds => decide (uptoBulkAll ds ≤ 1048576)
def OpenSpec.upto (s : _root_.Go.ChangeSpec) : _root_.Go.OpenSpec := { _root_.Go.OpenSpec.ofChange s with cond := some uptoSmall }

/-- 'laws.FnSetCells', WHERE WHAT IT READS IS OF BULK AT MOST 1048576: true; the input reads as it did. -/
def fnSetCellsUptoRow : OpenClaim := { program := "ytmkdbahdhobdjaa", sum := "5053dae68697a3eb6bb2048bb18d5706451f5f53e6115e52a24b7af025d4e5be", func := "loop.example/g00911/laws.FnSetCells", spec := "fnSetCells", unfollowed := true, recurses := true, apart := false, narrowed := true }
def FnSetCellsUptoSaid : Prop := fnSetCellsUptoRow.holds Try.pinned (OpenSpec.upto fnSetCellsSpec)

/-- 'laws.FnPatterns', WHERE WHAT IT READS IS OF BULK AT MOST 1048576: true; the input reads as it did. -/
def fnPatternsUptoRow : OpenClaim := { program := "ytmkdbahdhobdjaa", sum := "5053dae68697a3eb6bb2048bb18d5706451f5f53e6115e52a24b7af025d4e5be", func := "loop.example/g00911/laws.FnPatterns", spec := "fnPatterns", inPlace := ["internal/bytealg.CountString", "internal/bytealg.IndexByteString", "internal/bytealg.IndexString"], unfollowed := true, recurses := true, named := ["internal/bytealg.MaxLen"], apart := false, narrowed := true }
def FnPatternsUptoSaid : Prop := fnPatternsUptoRow.holds Try.pinned (OpenSpec.upto fnPatternsSpec)

/-- 'laws.FnHooks', WHERE WHAT IT READS IS OF BULK AT MOST 1048576: true; the input reads as it did. -/
def fnHooksUptoRow : OpenClaim := { program := "ytmkdbahdhobdjaa", sum := "5053dae68697a3eb6bb2048bb18d5706451f5f53e6115e52a24b7af025d4e5be", func := "loop.example/g00911/laws.FnHooks", spec := "fnHooks", inPlace := ["internal/abi.NoEscape"], unfollowed := true, recurses := true, apart := false, narrowed := true }
def FnHooksUptoSaid : Prop := fnHooksUptoRow.holds Try.pinned (OpenSpec.upto fnHooksSpec)

/-- 'laws.FnExactCellAt', WHERE WHAT IT READS IS OF BULK AT MOST 1048576: true; the input reads as it did. -/
def fnExactCellAtUptoRow : OpenClaim := { program := "ytmkdbahdhobdjaa", sum := "5053dae68697a3eb6bb2048bb18d5706451f5f53e6115e52a24b7af025d4e5be", func := "loop.example/g00911/laws.FnExactCellAt", spec := "fnExactCellAt", unfollowed := true, recurses := true, apart := false, narrowed := true }
def FnExactCellAtUptoSaid : Prop := fnExactCellAtUptoRow.holds Try.pinned (OpenSpec.upto fnExactCellAtSpec)

/-- 'laws.FnExactPremiumAt', WHERE WHAT IT READS IS OF BULK AT MOST 1048576: true; the input reads as it did. -/
def fnExactPremiumAtUptoRow : OpenClaim := { program := "ytmkdbahdhobdjaa", sum := "5053dae68697a3eb6bb2048bb18d5706451f5f53e6115e52a24b7af025d4e5be", func := "loop.example/g00911/laws.FnExactPremiumAt", spec := "fnExactPremiumAt", unfollowed := true, recurses := true, apart := false, narrowed := true }
def FnExactPremiumAtUptoSaid : Prop := fnExactPremiumAtUptoRow.holds Try.pinned (OpenSpec.upto fnExactPremiumAtSpec)

/-- 'laws.FnExactIsJoined', WHERE WHAT IT READS IS OF BULK AT MOST 1048576: true; the input reads as it did. -/
def fnExactIsJoinedUptoRow : OpenClaim := { program := "ytmkdbahdhobdjaa", sum := "5053dae68697a3eb6bb2048bb18d5706451f5f53e6115e52a24b7af025d4e5be", func := "loop.example/g00911/laws.FnExactIsJoined", spec := "fnExactIsJoined", unfollowed := true, recurses := true, apart := false, narrowed := true }
def FnExactIsJoinedUptoSaid : Prop := fnExactIsJoinedUptoRow.holds Try.pinned (OpenSpec.upto fnExactIsJoinedSpec)

/-- 'laws.FnExactTransposePlay', WHERE WHAT IT READS IS OF BULK AT MOST 1048576: true; the input reads as it did. -/
def fnExactTransposePlayUptoRow : OpenClaim := { program := "ytmkdbahdhobdjaa", sum := "5053dae68697a3eb6bb2048bb18d5706451f5f53e6115e52a24b7af025d4e5be", func := "loop.example/g00911/laws.FnExactTransposePlay", spec := "fnExactTransposePlay", apart := false, narrowed := true }
def FnExactTransposePlayUptoSaid : Prop := fnExactTransposePlayUptoRow.holds Try.pinned (OpenSpec.upto fnExactTransposePlaySpec)

/-- 'laws.FnExactComparePlays', WHERE WHAT IT READS IS OF BULK AT MOST 1048576: true; the input reads as it did. -/
def fnExactComparePlaysUptoRow : OpenClaim := { program := "ytmkdbahdhobdjaa", sum := "5053dae68697a3eb6bb2048bb18d5706451f5f53e6115e52a24b7af025d4e5be", func := "loop.example/g00911/laws.FnExactComparePlays", spec := "fnExactComparePlays", inPlace := ["internal/bytealg.abigen_runtime_cmpstring"], apart := false, narrowed := true }
def FnExactComparePlaysUptoSaid : Prop := fnExactComparePlaysUptoRow.holds Try.pinned (OpenSpec.upto fnExactComparePlaysSpec)

end Rows
end Go.Proofs.Ytmkdbahdhobdjaa
